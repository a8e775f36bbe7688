/- The contract of slices.Delete at one entry, over the seat's translation. -/
import Derived.Test.YtgjhmpgofmmniaaG08
import Derived.Lib.Overlaps
import Derived.Lib.AppendZerosOnto
import Derived.Laws.Externs
namespace Go.Proofs.Ytgjhmpgofmmniaa
open Go.RowKit

set_option maxRecDepth 100000 in
set_option maxHeartbeats 4000000 in
theorem own_there {base g n cap : Nat} {L : List AEnt} {W : World} (h : OwnE base (.slice (some ⟨g, 0, none⟩) n cap) L W) : EntsAt W (some ⟨g, 0, none⟩) L ∧ W.there g 0 (cap * 4) := by
  rcases h.form with ⟨h, _⟩ | ⟨b, c, h, h1, h2, h3, h4, h5, h6⟩
  · cases h
  · cases h
    exact ⟨h5, h6⟩

theorem ents_set {W : World} {g o : Nat} {vs : List Value} {N : List AEnt} (h : EntsAt W (some ⟨g, 0, none⟩) N) (ho : N.length * 4 ≤ o) : EntsAt (W.setCells g o vs) (some ⟨g, 0, none⟩) N := by
  rcases h with h | ⟨b, o', e, hlt, hr⟩
  · exact Or.inl h
  · cases e
    refine Or.inr ⟨g, 0, rfl, by rw [size_sets]; exact hlt, fun i c hc => World.rangeAt_setCells_apart (hr i c hc) _ _ _ (Or.inr (Or.inl ?_))⟩
    have hi := (List.getElem?_eq_some_iff.1 hc).1
    have : c.cells.length = 4 := rfl
    omega
theorem below_setC {C B : Nat} {w W : World} (h : Below C w W) (hC : C ≤ B) (o : Nat) (vs : List Value) : Below C w (W.setCells B o vs) := by
  induction vs generalizing o W with
  | nil => exact h
  | cons v r ih => exact ih (h.setCell hC v) _

set_option maxRecDepth 100000 in
set_option maxHeartbeats 4000000 in
theorem delete_entries (g cap i r : Nat) (M : List AEnt) (hM : M.length = r + 1) (w : World) (base : Nat) (hO : OwnE base (.slice (some ⟨g, 0, none⟩) M.length cap) M w) (hi : i ≤ r) (hl : M.length ≤ 1048576) (hbs : base ≤ w.heap.size) :
    Calls Try.prog 67 #[.slice (some ⟨g, 0, none⟩) (r + 1) cap, .int .i64 i, .int .i64 ((i : Int) + 1)] w
      fun e w' => ∃ v, e = .returned v ∧ RowE base v (M.take i ++ M.drop (i + 1)) w' ∧ Below base w w' := by
  obtain ⟨hbg, hgl, hcl, hcm, hE, hT⟩ : base ≤ g ∧ g < w.heap.size ∧ M.length ≤ cap ∧ cap ≤ maxLen ∧ EntsAt w (some ⟨g, 0, none⟩) M ∧ w.there g 0 (cap * 4) := by
    rcases hO.form with ⟨h, _⟩ | ⟨b, c, h, h1, h2, h3, h4, h5, h6⟩
    · cases h
    · cases h
      exact ⟨h1, h2, h3, h4, h5, h6⟩
  have hne : ((i : Int) == (i : Int) + 1) = false := by simp; omega
  have hi1 : (i : Int) + 1 ≤ (r : Int) + 1 := by omega
  have hi2 : (0 : Int) ≤ (i : Int) + 1 := by omega
  have hi3 : i ≤ cap := by omega
  have hr3 : r ≤ cap := by omega
  have hr4 : r + 1 ≤ cap := by omega
  have hr5 : ¬ cap = r := by omega
  have hO' : OwnE base (.slice (some ⟨g, 0, none⟩) M.length cap) M w.drew := hO
  have hlen : Hid ((M.take i ++ M.drop (i + 1)).length = r) := by show (M.take i ++ M.drop (i + 1)).length = r; simp; omega
  have hl2 : r ≤ 1048576 := by omega
  have hdr' : EntsAt w.drew (some ⟨g, (i + 1) * 4, none⟩) (M.drop (i + 1)) := by simpa using ents_drop (hE.keep ((Below.refl _ _).drew)) (i + 1)
  by_cases hce : cap = i + 1
  · have hir : r = i := by omega
    subst hir
    subst hce
    go_enter Try.func67, Try.ntmps67
    go_wp2_with fail
    go_region_held_law (fun W => w.heap.size ≤ W.heap.size) (first | assumption | exact Nat.le_refl _ | exact Nat.le_trans (by assumption) (World.grownBy.size (by assumption)))
      (first
        | (refine step_fits (some 26) rfl rfl _ _ rfl base g (r + 1) M r rfl hO' (by omega) _ _ _ (M.drop (r + 1)) rfl (by simp <;> omega) (Or.inl (by simp <;> omega)) (by simp <;> omega) r (by omega) ?_; intro w3 ho3 hg3; (try simp only [Act.put, List.setIfInBounds_toArray, List.set_cons_zero, List.set_cons_succ])))
    have hF : Hid (OwnE base (.slice (some ⟨g, 0, none⟩) r (r + 1)) (M.take r ++ M.drop (r + 1)) w3 ∧ Below base w w3) := ⟨ho3, ((Below.refl base w).drew).grown hg3 hbs (fun k hk => by cases hk; exact hbg)⟩
    have hgl3 : Hid (g < w3.heap.size) := Nat.lt_of_lt_of_le hgl hg3.size
    have ht3 : w3.there g (r * 4) 4 := fun j hj => by
      have := (own_there ho3).2 (r * 4 + j) (by omega)
      rwa [Nat.zero_add] at this
    have hcl : ∀ ty c, (Builtin.clear_ #[23] ty #[.slice (some ⟨g, r * 4, none⟩) 1 c]).run Try.prog w3 = .ok (.tuple #[]) (w3.setCells g (r * 4) [.int .i64 0, .int .i64 0, .string ⟨#[]⟩, .int .i64 0]) := fun ty c => run_clear_one w3 ty g (r * 4) c ht3
    clear ho3 hg3 ht3 hO'
    go_wp2_with fail
    go_ret
    refine ⟨_, rfl, Or.inr ⟨g, (r + 1), by rw [hlen.out]; rfl, hbg, by rw [size_sets]; exact hgl3.out, by rw [hlen.out]; exact hr3, ents_set (own_there hF.out.1).1 (by rw [hlen.out]; exact Nat.le_refl _), ?_⟩, below_setC hF.out.2 hbg _ _⟩
    rw [hlen.out]
    exact World.there_setCells (fun j hj => (own_there hF.out.1).2 j (by omega)) _ _ _
  · go_enter Try.func67, Try.ntmps67
    go_wp2_with fail
    go_region_held_law (fun W => w.heap.size ≤ W.heap.size) (first | assumption | exact Nat.le_refl _ | exact Nat.le_trans (by assumption) (World.grownBy.size (by assumption)))
      (first
        | (refine step_fits (some 26) rfl rfl _ _ rfl base g cap M i rfl hO' (by omega) _ _ _ (M.drop (i + 1)) rfl (by simp <;> omega) hdr' (by simp <;> omega) r (by omega) ?_; intro w3 ho3 hg3; (try simp only [Act.put, List.setIfInBounds_toArray, List.set_cons_zero, List.set_cons_succ])))
    have hF : Hid (OwnE base (.slice (some ⟨g, 0, none⟩) r cap) (M.take i ++ M.drop (i + 1)) w3 ∧ Below base w w3) := ⟨ho3, ((Below.refl base w).drew).grown hg3 hbs (fun k hk => by cases hk; exact hbg)⟩
    have hgl3 : Hid (g < w3.heap.size) := Nat.lt_of_lt_of_le hgl hg3.size
    have ht3 : w3.there g (r * 4) 4 := fun j hj => by
      have := (own_there ho3).2 (r * 4 + j) (by omega)
      rwa [Nat.zero_add] at this
    have hcl : ∀ ty c, (Builtin.clear_ #[23] ty #[.slice (some ⟨g, r * 4, none⟩) 1 c]).run Try.prog w3 = .ok (.tuple #[]) (w3.setCells g (r * 4) [.int .i64 0, .int .i64 0, .string ⟨#[]⟩, .int .i64 0]) := fun ty c => run_clear_one w3 ty g (r * 4) c ht3
    clear ho3 hg3 ht3 hO'
    go_wp2_with fail
    go_ret
    refine ⟨_, rfl, Or.inr ⟨g, cap, by rw [hlen.out]; rfl, hbg, by rw [size_sets]; exact hgl3.out, by rw [hlen.out]; exact hr3, ents_set (own_there hF.out.1).1 (by rw [hlen.out]; exact Nat.le_refl _), ?_⟩, below_setC hF.out.2 hbg _ _⟩
    rw [hlen.out]
    exact World.there_setCells (fun j hj => (own_there hF.out.1).2 j (by omega)) _ _ _

end Go.Proofs.Ytgjhmpgofmmniaa

/- What turns one block alone; marks. -/
namespace Go.Proofs.Ytgjhmpgofmmniaa
open Go.RowKit

/-- The decimals of n ahead of a text. -/
def mt (n : Nat) (s : ByteArray) : ByteArray := if n = 0 then s else mt (n / 10) (⟨#[UInt8.ofNat (48 + n % 10)]⟩ ++ s)
termination_by n

def markT (n : Nat) : ByteArray := ⟨#[109]⟩ ++ mt n ⟨#[]⟩

theorem mt_zero (s : ByteArray) : mt 0 s = s := by rw [mt]; simp

theorem mt_next (n : Nat) (s : ByteArray) (h : 0 < n) : mt n s = mt (n / 10) (⟨#[UInt8.ofNat (48 + n % 10)]⟩ ++ s) := by
  rw [mt, if_neg (by omega)]

/-- Of what lay in W only block B has turned in W'; blocks may have come. -/
structure Turn (B : Nat) (W W' : World) : Prop where
  os : W'.os = W.os
  tape : W'.tape = W.tape
  output : W'.output = W.output
  size : W.heap.size ≤ W'.heap.size
  block : ∀ k, k < W.heap.size → k ≠ B → W'.heap[k]? = W.heap[k]?

theorem Turn.refl (B : Nat) (W : World) : Turn B W W := ⟨rfl, rfl, rfl, Nat.le_refl _, fun _ _ _ => rfl⟩

theorem Turn.next {B : Nat} {w W W' : World} (h : Turn B w W) (k : Below W.heap.size W W') : Turn B w W' :=
  ⟨k.os.trans h.os, k.tape.trans h.tape, k.output.trans h.output, Nat.le_trans h.size k.size, fun i hi hg => (k.block i (Nat.lt_of_lt_of_le hi h.size)).trans (h.block i hi hg)⟩

theorem Turn.set {B : Nat} {w W : World} (h : Turn B w W) (o : Nat) (v : Value) : Turn B w (W.setCell ⟨B, o, none⟩ v) :=
  ⟨h.os, h.tape, h.output, by simpa [World.setCell] using h.size, fun i hi hg => (Below.heap_setCell W ⟨B, o, none⟩ v i hg).trans (h.block i hi hg)⟩

theorem Turn.sets {B : Nat} {w W : World} (h : Turn B w W) (o : Nat) (vs : List Value) : Turn B w (W.setCells B o vs) := by
  induction vs generalizing o W with
  | nil => exact h
  | cons v r ih => exact ih (h.set o v) _

theorem Turn.below {B C : Nat} {w W : World} (h : Turn B w W) (hC : C ≤ B) (hs : C ≤ w.heap.size) : Below C w W := ⟨h.os, h.tape, h.output, h.size, fun k hk => h.block k (by omega) (by omega)⟩

theorem Turn.cell {B : Nat} {W W' : World} (h : Turn B W W') {b : Nat} (h1 : b < W.heap.size) (h2 : b ≠ B) (o : Nat) : W'.cell? ⟨b, o, none⟩ = W.cell? ⟨b, o, none⟩ := World.cell?_of_block (w := W) (a := ⟨b, o, none⟩) (h.block b h1 h2)

theorem Turn.frozen {B : Nat} {W W' : World} (h : Turn B W W') {b : Nat} (h1 : b < W.heap.size) (h2 : b ≠ B) (o : Nat) : W'.frozen? ⟨b, o, none⟩ = W.frozen? ⟨b, o, none⟩ := World.frozen?_of_block (w := W) (a := ⟨b, o, none⟩) (h.block b h1 h2)

theorem Turn.ents {B : Nat} {W W' : World} (h : Turn B W W') {a : Option Addr} {L : List AEnt} (hL : EntsAt W a L) (ha : L = [] ∨ ∀ b o, a = some ⟨b, o, none⟩ → b ≠ B) : EntsAt W' a L := by
  rcases hL with hL | ⟨b, o, e, hlt, hr⟩
  · exact Or.inl hL
  · rcases ha with ha | ha
    · exact Or.inl ha
    · exact Or.inr ⟨b, o, e, Nat.lt_of_lt_of_le hlt h.size, fun i c hc j v hv => by rw [h.cell hlt (ha b o e)]; exact hr i c hc j v hv⟩

/-- The marks of an entry from k on. -/
def mkEnt (k : Nat) : AEnt := ⟨k, (k : Int) + 1, markT (k + 2), (k : Int) + 1 + 1 + 1⟩

theorem run_ix4o {P : Program} (t e : TypeId) (a : Option Addr) (B len cap k : Nat) (w : World) (ha : a = some ⟨B, 0, none⟩ ∨ len = 0) (hk : k < len) (ht : P.underlying t = some (.slice e)) (hs : (sizeOf e).run P w = .ok 4 w) :
    (Instr.indexAt t (.slice a len cap) (.int .i64 k)).run P w = .ok (.pointer (some ⟨B, k * 4, none⟩)) w := by
  rcases ha with rfl | h
  · have := run_ix4 t e B 0 len cap k w hk ht hs
    rwa [Nat.zero_add] at this
  · omega

end Go.Proofs.Ytgjhmpgofmmniaa

/- 'copy' at entries; slices.Insert of one entry at the end, over the seat's translation. -/
namespace Go.Proofs.Ytgjhmpgofmmniaa
open Go.RowKit

/-- 'copy' of entries: all is read before anything is written. -/
theorem run_copy_ents (w : World) (ty : TypeId) (b o dLen dCap : Nat) (A : Addr) (sLen sCap : Nat) (N : List AEnt) (hn : N.length = Nat.min sLen dLen) (hN : EntsAt w (some A) N) (ht : w.there b o (N.length * 4)) :
    (Builtin.copy_ #[23, 23] ty #[.slice (some ⟨b, o, none⟩) dLen dCap, .slice (some A) sLen sCap]).run Try.prog w = .ok (goInt N.length) (w.setCells b o (flat N)) := by
  obtain ⟨i0, hi, hz, hsz, hby⟩ := Try.info29
  have hsrc : ∀ j v, (flat N)[j]? = some v → w.cell? (A.add j) = some v := by
    by_cases he : N = []
    · subst he
      intro j u hu
      simp [flat] at hu
    · have hN' := hN
      rcases hN with h | ⟨b, o, e, _⟩
      · exact absurd h he
      · cases e
        exact flat_cells hN'
  have hl := run_loadCells_list (P := Try.prog) w A (flat N) hsrc
  have hst := run_storeCells_cells (P := Try.prog) b o (flat N) 0 w (fun j hj => by rw [flat_len] at hj; exact (ht j hj).1) (fun j hj => by rw [flat_len] at hj; exact (ht j hj).2) (flat_one N)
  rw [flat_len] at hl
  simp [Builtin.copy_, run_underlying Try.underlying23, Builtin.lenOf, Builtin.firstCells, sizeOf, typeInfo, hi, hsz, ← hn, hl, hst]

/-- 'copy' as a step of a region that draws, and of one that does not. -/
theorem step_copy {ops : Array Oper} {o : Oper} {act : Act} {w : World} {K : Act → World → Prop} {Q : Exit → Act → World → Prop} {E : Prop} (d : Option Tmp) (hd : o.dst = d) (hgd : o.guard = none) (s x : Operand)
    (ho : o.op = .call { callee := .builtin .copy, args := #[s, x], argTypes := #[23, 23] })
    (b k dLen dCap : Nat) (A : Addr) (sLen sCap : Nat) (hs : act.eval s = .slice (some ⟨b, k, none⟩) dLen dCap) (hx : act.eval x = .slice (some A) sLen sCap)
    (N : List AEnt) (hn : N.length = Nat.min sLen dLen) (hN : EntsAt w (some A) N) (ht : w.there b k (N.length * 4))
    (h : K (act.put d (goInt N.length)) (w.setCells b k (flat N))) : if Region.wanted o (yielded ops act.tmps) = true then Oper.wp Try.prog o act w K Q else E := by
  subst hd
  have hw : Region.wanted o (yielded ops act.tmps) = true := by simp [Region.wanted, hgd]
  rw [if_pos hw]
  have hr := run_copy_ents w o.type b k dLen dCap A sLen sCap N hn hN ht
  unfold Oper.wp
  simp [execOp, ho, resolve, invoke, builtin, hs, hx, hr, Result.andThen]
  exact h
theorem copy_ents {ops : Array Oper} {rest : List Oper} {o : Oper} {act : Act} {w : World} {Q : Exit → Act → World → Prop} (hgd : o.guard = none) (s x : Operand)
    (ho : o.op = .call { callee := .builtin .copy, args := #[s, x], argTypes := #[23, 23] })
    (b k dLen dCap : Nat) (A : Addr) (sLen sCap : Nat) (hs : act.eval s = .slice (some ⟨b, k, none⟩) dLen dCap) (hx : act.eval x = .slice (some A) sLen sCap)
    (N : List AEnt) (hn : N.length = Nat.min sLen dLen) (hN : EntsAt w (some A) N) (ht : w.there b k (N.length * 4))
    (h : wpList Try.prog ops Q rest (act.put o.dst (goInt N.length)) (w.setCells b k (flat N))) : wpList Try.prog ops Q (o :: rest) act w := by
  refine wpList_plain hgd fun K hK => ?_
  have hr := run_copy_ents w o.type b k dLen dCap A sLen sCap N hn hN ht
  unfold Oper.wp
  simp [execOp, ho, resolve, invoke, builtin, hs, hx, hr, Result.andThen]
  exact hK _ _ h

theorem take_len (M : List AEnt) (x : AEnt) : M.take M.length ++ x :: M.drop M.length = M ++ [x] := by simp

/-- A block of one entry that may be read. -/
def OneE (vb : Nat) (x : AEnt) (W : World) : Prop := W.heap[vb]? = some (.cells #[.int .i64 x.k, .int .i64 x.n, .string x.s, .int .i64 x.id] 29)
theorem OneE.lt {vb : Nat} {x : AEnt} {W : World} (h : OneE vb x W) : vb < W.heap.size := (Array.getElem?_eq_some_iff.1 h).1
theorem OneE.ents {vb : Nat} {x : AEnt} {W : World} (h : OneE vb x W) : EntsAt W (some ⟨vb, 0, none⟩) [x] := by
  refine ents_of h.lt fun j u hu => ?_
  rw [Nat.zero_add]
  have hj : j < 4 := by have := (List.getElem?_eq_some_iff.1 hu).1; simpa [flat, AEnt.cells] using this
  simp only [World.cell?, (show W.heap[vb]? = _ from h)]
  have h4 : j = 0 ∨ j = 1 ∨ j = 2 ∨ j = 3 := by omega
  rcases h4 with rfl | rfl | rfl | rfl <;> simpa [flat, AEnt.cells] using hu

/-- Of what lay in W only the block of a has turned in W'; blocks may have come. -/
def OnlyE (a : Option Addr) (W W' : World) : Prop := ∀ G, (∀ g, a = some ⟨g, 0, none⟩ → g = G) → Turn G W W'
theorem onlyE_grown {a : Option Addr} {n c : Nat} {W W' : World} (hg : W.grownBy W' (Value.slice a n c).ownBlock) (ha : ∀ A, a = some A → A = ⟨A.block, 0, none⟩) : OnlyE a W W' := fun G hG =>
  ⟨hg.os, hg.tape, hg.output, hg.size, fun k hk hne => hg.block k hk (by
    cases a with
    | none => intro h; cases h
    | some A =>
      intro h
      have h1 := ha A rfl
      have h2 := hG A.block (by rw [← h1])
      cases h
      exact hne h2)⟩
theorem onlyE_new {a : Option Addr} {W W' : World} (h : Below W.heap.size W W') : OnlyE a W W' := fun G _ => (Turn.refl G W).next h

set_option maxRecDepth 100000 in
set_option maxHeartbeats 2000000 in
theorem insert_end (a : Option Addr) (cap vb : Nat) (M : List AEnt) (x : AEnt) (w : World) (base : Nat) (hO : OwnE base (.slice a M.length cap) M w) (hl : M.length ≤ 1048576) (hbs : base ≤ w.heap.size) (hx : OneE vb x w) :
    Calls Try.prog 58 #[.slice a M.length cap, .int .i64 (M.length : Nat), .slice (some ⟨vb, 0, none⟩) 1 1] w
      fun e w' => ∃ v, e = .returned v ∧ RowE base v (M.take M.length ++ x :: M.drop M.length) w' ∧ OnlyE a w w' := by
  rw [take_len]
  have hxe := hx.ents
  have ha : ∀ A, a = some A → A = ⟨A.block, 0, none⟩ := fun A e => by
    rcases hO.form with ⟨h, _⟩ | ⟨g, c, h, _⟩
    · rw [(Value.slice.inj h).1] at e; cases e
    · rw [(Value.slice.inj h).1] at e; cases e; rfl
  have HA : Hid (∀ A, a = some A → A = ⟨A.block, 0, none⟩) := ha
  clear ha
  go_enter Try.func58, Try.ntmps58
  go_wp2_with (at_builtin; refine append_rows rfl _ _ rfl base _ M rfl hO (some ⟨vb, 0, none⟩) _ 1 [x] rfl rfl hxe (fun h => by cases h) (by simp; omega) hbs ?_; intro a3 n3 c3 w3 ho hg hn hc; clear hn hc)
  all_goals
    go_ret
    exact ⟨_, rfl, ho.row, onlyE_grown hg HA.out⟩

end Go.Proofs.Ytgjhmpgofmmniaa

/- slices.Insert of one entry where there is room, over the seat's translation. -/
namespace Go.Proofs.Ytgjhmpgofmmniaa
open Go.RowKit

theorem there_at {W : World} {g o n k : Nat} (h : W.there g 0 n) (hk : o + k ≤ n) : W.there g o k := fun j hj => by
  have := h (o + j) (by omega)
  rwa [Nat.zero_add] at this

/-- What stands from i on goes one further, and x takes the place. -/
theorem shift_ents {W : World} {g i : Nat} {M : List AEnt} {x : AEnt} (hE : EntsAt W (some ⟨g, 0, none⟩) M) (hg : g < W.heap.size) (hi : i ≤ M.length) (ht : W.there g 0 ((M.length + 1) * 4)) :
    EntsAt ((W.setCells g ((i + 1) * 4) (flat (M.drop i))).setCells g (i * 4) (flat [x])) (some ⟨g, 0, none⟩) (M.take i ++ x :: M.drop i) := by
  have hl1 : (flat (M.drop i)).length = (M.length - i) * 4 := by rw [flat_len, List.length_drop]
  have hl2 : (flat [x]).length = 4 := rfl
  have ht1 : (W.setCells g ((i + 1) * 4) (flat (M.drop i))).there g 0 ((M.length + 1) * 4) := World.there_setCells ht _ _ _
  refine ents_of (by rw [size_sets, size_sets]; exact hg) fun j u hu => ?_
  rw [Nat.zero_add]
  have e : flat (M.take i ++ x :: M.drop i) = flat (M.take i) ++ (flat [x] ++ flat (M.drop i)) := by
    rw [show M.take i ++ x :: M.drop i = M.take i ++ ([x] ++ M.drop i) from rfl, flat_append, flat_append]
  have hl0 : (flat (M.take i)).length = i * 4 := by rw [flat_len, List.length_take, Nat.min_eq_left hi]
  rw [e] at hu
  by_cases h1 : j < i * 4
  · rw [World.cell?_setCells_out _ _ _ _ _ (fun _ _ => Or.inl h1), World.cell?_setCells_out _ _ _ _ _ (fun _ _ => Or.inl (by show j < (i + 1) * 4; omega))]
    rw [List.getElem?_append_left (by omega)] at hu
    have := flat_cells (ents_take hE i) j u hu
    rwa [Addr.add_mid, Nat.zero_add] at this
  · by_cases h2 : j < (i + 1) * 4
    · rw [List.getElem?_append_right (by omega), hl0, List.getElem?_append_left (by omega)] at hu
      have := World.cell?_setCells_in g (flat [x]) (i * 4) (W.setCells g ((i + 1) * 4) (flat (M.drop i))) (fun t ht' => (there_at ht1 (by omega) t (by omega : t < 4)).1) (j - i * 4) (by omega)
      rw [show i * 4 + (j - i * 4) = j by omega] at this
      rw [this, ← hu, List.getElem?_eq_getElem (by omega)]
    · rw [List.getElem?_append_right (by omega), hl0, List.getElem?_append_right (by omega), hl2] at hu
      have hj := (List.getElem?_eq_some_iff.1 hu).1
      rw [World.cell?_setCells_out _ _ _ _ _ (fun _ _ => Or.inr (by show i * 4 + (flat [x]).length ≤ j; omega))]
      have := World.cell?_setCells_in g (flat (M.drop i)) ((i + 1) * 4) W (fun t ht' => (there_at ht (by omega : (i + 1) * 4 + (M.length - i) * 4 ≤ (M.length + 1) * 4) t (by omega)).1) (j - i * 4 - 4) hj
      rw [show (i + 1) * 4 + (j - i * 4 - 4) = j by omega] at this
      rw [this, ← hu, List.getElem?_eq_getElem hj]

set_option maxRecDepth 100000 in
set_option maxHeartbeats 4000000 in
theorem insert_room (g cap vb i : Nat) (M : List AEnt) (x : AEnt) (w : World) (base : Nat) (hO : OwnE base (.slice (some ⟨g, 0, none⟩) M.length cap) M w) (hi : i < M.length) (hroom : M.length + 1 ≤ cap) (hl : M.length ≤ 1048576) (_hbs : base ≤ w.heap.size) (hx : OneE vb x w) (hgv : g < vb) :
    Calls Try.prog 58 #[.slice (some ⟨g, 0, none⟩) M.length cap, .int .i64 i, .slice (some ⟨vb, 0, none⟩) 1 1] w
      fun e w' => ∃ v, e = .returned v ∧ RowE base v (M.take i ++ x :: M.drop i) w' ∧ OnlyE (some ⟨g, 0, none⟩) w w' := by
  obtain ⟨hE, hT⟩ := own_there hO
  obtain ⟨cur, hgc, hbg, hcs, hcm⟩ : ∃ cur, w.heap[g]? = some (.cells cur 29 (0, 0)) ∧ base ≤ g ∧ cur.size = cap * 4 ∧ cap ≤ maxLen := by
    rcases hO.2 with ⟨h, _⟩ | ⟨g', c', cur, h, hb, hh, h1, h2, h3, h4⟩
    · cases h
    · cases h; exact ⟨cur, hh, hb, h3, h2⟩
  have hgl : g < w.heap.size := (Array.getElem?_eq_some_iff.1 hgc).1
  unfold maxLen at hcm
  have hsa : w.shape? vb = some (29, 4) := by simp [World.shape?, show w.heap[vb]? = _ from hx]
  have hsb : w.shape? g = some (29, cap * 4) := by simp [World.shape?, hgc, hcs]
  have hfa : w.frozen? ⟨vb, 0, none⟩ = false := by simp [World.frozen?, show w.heap[vb]? = _ from hx]
  have hfe : w.frozen? ⟨vb, 4, none⟩ = false := by simp [World.frozen?, show w.heap[vb]? = _ from hx]
  have hov : ∀ lb cb, (callFunc 65 #[.slice (some ⟨vb, 0, none⟩) 1 1, .slice (some ⟨g, (i + 1) * 4, none⟩) lb cb]).run Try.prog w = .ok (.value (.bool false)) w := fun lb cb => by
    rw [run_callFunc_extern Try.func65 (by kernel_rfl) (by kernel_rfl) (by kernel_rfl) (e := Extern.SlicesOverlaps.overlaps #[23, 23] #[4]) (by kernel_rfl),
      Lib.run_overlaps_apart w 23 4 29 Try.underlying23 4 Try.sizeOf29 ⟨vb, 0, none⟩ ⟨g, (i + 1) * 4, none⟩ 1 1 lb cb (by show vb ≠ g; omega) _ _ 4 (cap * 4) hsa hsb (by omega) hfa hfe]
    rfl
  have hne1 : ¬ cap = i + 1 := by omega
  have hne2 : ¬ cap = i := by omega
  have hd1 : EntsAt w.drew (some ⟨g, i * 4, none⟩) (M.drop i) := by simpa using ents_drop (hE.keep ((Below.refl _ _).drew)) i
  have hlt : (i : Int) < M.length := by omega
  have hii : (i : Int) + 1 ≤ (M.length : Int) + 1 := by omega
  have hwk : IntKind.i64.wrap ((i : Int) + 1) = (i : Int) + 1 := by
    simp [IntKind.wrap, IntKind.bits, IntKind.signed]
    omega
  have hTd : w.drew.there g 0 (cap * 4) := hT
  obtain ⟨W1, hW1⟩ : ∃ W1, W1 = w.drew.setCells g ((i + 1) * 4) (flat (M.drop i)) := ⟨_, rfl⟩
  have HW : Hid (W1 = w.drew.setCells g ((i + 1) * 4) (flat (M.drop i))) := hW1
  have hx1 : EntsAt W1 (some ⟨vb, 0, none⟩) [x] := by
    have h0 : EntsAt w.drew (some ⟨vb, 0, none⟩) [x] := hx.ents
    rcases h0 with h | ⟨b, o, e, hlt, hr⟩
    · exact Or.inl h
    · cases e
      refine Or.inr ⟨vb, 0, rfl, by rw [hW1, size_sets]; exact hlt, fun k c hc j u hu => ?_⟩
      rw [hW1, World.cell?_setCells_out _ _ _ _ _ (fun h _ => absurd h (by show vb ≠ g; omega))]
      exact hr k c hc j u hu
  have hT1 : W1.there g 0 (cap * 4) := by rw [hW1]; exact World.there_setCells hTd _ _ _
  clear hW1
  go_enter Try.func58, Try.ntmps58
  go_wp2_with fail
  go_region_held_law (fun _ => True) (trivial)
    (first
      | (refine step_copy (some 77) rfl rfl _ _ rfl g ((i + 1) * 4) _ _ ⟨g, i * 4, none⟩ _ _ rfl rfl (M.drop i) (by simp [Nat.min_def] <;> omega) hd1 (there_at hTd (by simp; omega)) ?_; (try simp only [Act.put, List.setIfInBounds_toArray, List.set_cons_zero, List.set_cons_succ]); rw [← HW.out]))
  all_goals
    have HF : Hid (EntsAt (W1.setCells g (i * 4) (flat [x])) (some ⟨g, 0, none⟩) (M.take i ++ x :: M.drop i) ∧ (W1.setCells g (i * 4) (flat [x])).there g 0 (cap * 4) ∧ g < (W1.setCells g (i * 4) (flat [x])).heap.size ∧ OnlyE (some ⟨g, 0, none⟩) w (W1.setCells g (i * 4) (flat [x]))) := by
      rw [HW.out]
      exact ⟨shift_ents (hE.keep ((Below.refl _ _).drew)) hgl (Nat.le_of_lt hi) (fun j hj => hTd j (by omega)), World.there_setCells (World.there_setCells hTd _ _ _) _ _ _, by rw [size_sets, size_sets]; exact hgl, fun G hG => by have e := hG g rfl; subst e; exact (((Turn.refl g w).next (Below.refl _ _).drew).sets _ _).sets _ _⟩
    have hlen : Hid ((M.take i ++ x :: M.drop i).length = M.length + 1) := by show (M.take i ++ x :: M.drop i).length = M.length + 1; simp; omega
    have hm1 : [x].length = Nat.min 1 (M.length + 1 - i) := by simp [Nat.min_def]; omega
    have ht1 : W1.there g (i * 4) ([x].length * 4) := there_at hT1 (by simp; omega)
    clear hd1 hTd hT1 hsa hsb hfa hfe hgc hcs hE hT hO
    have hcp : ∀ ty, (Builtin.copy_ #[23, 23] ty #[.slice (some ⟨g, i * 4, none⟩) (M.length + 1 - i) (cap - i), .slice (some ⟨vb, 0, none⟩) 1 1]).run Try.prog W1 = .ok (goInt [x].length) (W1.setCells g (i * 4) (flat [x])) := fun ty => run_copy_ents W1 ty g (i * 4) _ _ ⟨vb, 0, none⟩ _ _ [x] hm1 hx1 ht1
    clear hm1 hx1 ht1
    go_wp2_with fail
    go_ret
    exact ⟨_, rfl, Or.inr ⟨g, cap, by rw [hlen.out]; rfl, hbg, HF.out.2.2.1, by rw [hlen.out]; exact hroom, HF.out.1, fun j hj => HF.out.2.1 j (by rw [hlen.out] at hj; omega)⟩, HF.out.2.2.2⟩

end Go.Proofs.Ytgjhmpgofmmniaa
