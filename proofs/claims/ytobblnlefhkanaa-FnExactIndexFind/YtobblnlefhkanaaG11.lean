/- 'copy' at entries; slices.Insert of one entry at the end, over the seat's translation. -/
import Derived.Test.YtobblnlefhkanaaG10
import Derived.Test.YtobblnlefhkanaaG03
import Derived.Lib.Overlaps
import Derived.Lib.AppendZerosOnto
import Derived.Laws.Externs
import Derived.Laws.NewBlocks
namespace Go.Proofs.Ytobblnlefhkanaa
open Go.RowKit

/-- 'copy' of entries: all is read before anything is written. -/
theorem run_copy_ents (w : World) (ty : TypeId) (b o dLen dCap : Nat) (A : Addr) (sLen sCap : Nat) (N : List AEnt) (hn : N.length = Nat.min sLen dLen) (hN : EntsAt w (some A) N) (ht : w.there b o (N.length * 4)) :
    (Builtin.copy_ #[25, 25] ty #[.slice (some ⟨b, o, none⟩) dLen dCap, .slice (some A) sLen sCap]).run Try.prog w = .ok (goInt N.length) (w.setCells b o (flat N)) := by
  obtain ⟨i0, hi, hz, hsz, hby⟩ := Try.info38
  have hsrc : ∀ j v, (flat N)[j]? = some v → w.cell? (A.add j) = some v := by
    by_cases he : N = []
    · subst he
      intro j u hu
      simp [flat] at hu
    · have hN' := hN
      rcases hN with h | ⟨b, o, e, _⟩
      · exact absurd h he
      · cases e
        exact flat_cells hN'
  have hl := run_loadCells_list (P := Try.prog) w A (flat N) hsrc
  have hst := run_storeCells_cells (P := Try.prog) b o (flat N) 0 w (fun j hj => by rw [flat_len] at hj; exact (ht j hj).1) (fun j hj => by rw [flat_len] at hj; exact (ht j hj).2) (flat_one N)
  rw [flat_len] at hl
  simp [Builtin.copy_, run_underlying Try.underlying25, Builtin.lenOf, Builtin.firstCells, sizeOf, typeInfo, hi, hsz, ← hn, hl, hst]

/-- 'copy' as a step of a region that draws, and of one that does not. -/
theorem step_copy {ops : Array Oper} {o : Oper} {act : Act} {w : World} {K : Act → World → Prop} {Q : Exit → Act → World → Prop} {E : Prop} (d : Option Tmp) (hd : o.dst = d) (hgd : o.guard = none) (s x : Operand)
    (ho : o.op = .call { callee := .builtin .copy, args := #[s, x], argTypes := #[25, 25] })
    (b k dLen dCap : Nat) (A : Addr) (sLen sCap : Nat) (hs : act.eval s = .slice (some ⟨b, k, none⟩) dLen dCap) (hx : act.eval x = .slice (some A) sLen sCap)
    (N : List AEnt) (hn : N.length = Nat.min sLen dLen) (hN : EntsAt w (some A) N) (ht : w.there b k (N.length * 4))
    (h : K (act.put d (goInt N.length)) (w.setCells b k (flat N))) : if Region.wanted o (yielded ops act.tmps) = true then Oper.wp Try.prog o act w K Q else E := by
  subst hd
  have hw : Region.wanted o (yielded ops act.tmps) = true := by simp [Region.wanted, hgd]
  rw [if_pos hw]
  have hr := run_copy_ents w o.type b k dLen dCap A sLen sCap N hn hN ht
  unfold Oper.wp
  simp [execOp, ho, resolve, invoke, builtin, hs, hx, hr, Result.andThen]
  exact h
theorem copy_ents {ops : Array Oper} {rest : List Oper} {o : Oper} {act : Act} {w : World} {Q : Exit → Act → World → Prop} (hgd : o.guard = none) (s x : Operand)
    (ho : o.op = .call { callee := .builtin .copy, args := #[s, x], argTypes := #[25, 25] })
    (b k dLen dCap : Nat) (A : Addr) (sLen sCap : Nat) (hs : act.eval s = .slice (some ⟨b, k, none⟩) dLen dCap) (hx : act.eval x = .slice (some A) sLen sCap)
    (N : List AEnt) (hn : N.length = Nat.min sLen dLen) (hN : EntsAt w (some A) N) (ht : w.there b k (N.length * 4))
    (h : wpList Try.prog ops Q rest (act.put o.dst (goInt N.length)) (w.setCells b k (flat N))) : wpList Try.prog ops Q (o :: rest) act w := by
  refine wpList_plain hgd fun K hK => ?_
  have hr := run_copy_ents w o.type b k dLen dCap A sLen sCap N hn hN ht
  unfold Oper.wp
  simp [execOp, ho, resolve, invoke, builtin, hs, hx, hr, Result.andThen]
  exact hK _ _ h

theorem take_len (M : List AEnt) (x : AEnt) : M.take M.length ++ x :: M.drop M.length = M ++ [x] := by simp

/-- A block of one entry that may be read. -/
def OneE (vb : Nat) (x : AEnt) (W : World) : Prop := W.heap[vb]? = some (.cells #[.int .i64 x.k, .int .i64 x.n, .string x.s, .int .i64 x.id] 38)
theorem OneE.lt {vb : Nat} {x : AEnt} {W : World} (h : OneE vb x W) : vb < W.heap.size := (Array.getElem?_eq_some_iff.1 h).1
theorem OneE.ents {vb : Nat} {x : AEnt} {W : World} (h : OneE vb x W) : EntsAt W (some ⟨vb, 0, none⟩) [x] := by
  refine ents_of h.lt fun j u hu => ?_
  rw [Nat.zero_add]
  have hj : j < 4 := by have := (List.getElem?_eq_some_iff.1 hu).1; simpa [flat, AEnt.cells] using this
  simp only [World.cell?, (show W.heap[vb]? = _ from h)]
  have h4 : j = 0 ∨ j = 1 ∨ j = 2 ∨ j = 3 := by omega
  rcases h4 with rfl | rfl | rfl | rfl <;> simpa [flat, AEnt.cells] using hu

/-- Of what lay in W only the block of a has turned in W'; blocks may have come. -/
def OnlyE (a : Option Addr) (W W' : World) : Prop := ∀ G, (∀ g, a = some ⟨g, 0, none⟩ → g = G) → Turn G W W'
theorem onlyE_grown {a : Option Addr} {n c : Nat} {W W' : World} (hg : W.grownBy W' (Value.slice a n c).ownBlock) (ha : ∀ A, a = some A → A = ⟨A.block, 0, none⟩) : OnlyE a W W' := fun G hG =>
  ⟨hg.os, hg.tape, hg.output, hg.size, fun k hk hne => hg.block k hk (by
    cases a with
    | none => intro h; cases h
    | some A =>
      intro h
      have h1 := ha A rfl
      have h2 := hG A.block (by rw [← h1])
      cases h
      exact hne h2)⟩
theorem onlyE_new {a : Option Addr} {W W' : World} (h : Below W.heap.size W W') : OnlyE a W W' := fun G _ => (Turn.refl G W).next h

set_option maxRecDepth 100000 in
set_option maxHeartbeats 2000000 in
theorem insert_end (a : Option Addr) (cap vb : Nat) (M : List AEnt) (x : AEnt) (w : World) (base : Nat) (hO : OwnE base (.slice a M.length cap) M w) (hl : M.length ≤ 1048576) (hbs : base ≤ w.heap.size) (hx : OneE vb x w) :
    Calls Try.prog 56 #[.slice a M.length cap, .int .i64 (M.length : Nat), .slice (some ⟨vb, 0, none⟩) 1 1] w
      fun e w' => ∃ v, e = .returned v ∧ RowE base v (M.take M.length ++ x :: M.drop M.length) w' ∧ OnlyE a w w' := by
  rw [take_len]
  have hxe := hx.ents
  have ha : ∀ A, a = some A → A = ⟨A.block, 0, none⟩ := fun A e => by
    rcases hO.form with ⟨h, _⟩ | ⟨g, c, h, _⟩
    · rw [(Value.slice.inj h).1] at e; cases e
    · rw [(Value.slice.inj h).1] at e; cases e; rfl
  have HA : Hid (∀ A, a = some A → A = ⟨A.block, 0, none⟩) := ha
  clear ha
  go_enter Try.func56, Try.ntmps56
  go_wp2_with (at_builtin; refine append_rows rfl _ _ rfl base _ M rfl hO (some ⟨vb, 0, none⟩) _ 1 [x] rfl rfl hxe (fun h => by cases h) (by simp; omega) hbs ?_; intro a3 n3 c3 w3 ho hg hn hc; clear hn hc)
  all_goals
    go_ret
    exact ⟨_, rfl, ho.row, onlyE_grown hg HA.out⟩

end Go.Proofs.Ytobblnlefhkanaa

/- slices.Insert of one entry where there is room, over the seat's translation. -/
namespace Go.Proofs.Ytobblnlefhkanaa
open Go.RowKit

theorem there_at {W : World} {g o n k : Nat} (h : W.there g 0 n) (hk : o + k ≤ n) : W.there g o k := fun j hj => by
  have := h (o + j) (by omega)
  rwa [Nat.zero_add] at this

/-- What stands from i on goes one further, and x takes the place. -/
theorem shift_ents {W : World} {g i : Nat} {M : List AEnt} {x : AEnt} (hE : EntsAt W (some ⟨g, 0, none⟩) M) (hg : g < W.heap.size) (hi : i ≤ M.length) (ht : W.there g 0 ((M.length + 1) * 4)) :
    EntsAt ((W.setCells g ((i + 1) * 4) (flat (M.drop i))).setCells g (i * 4) (flat [x])) (some ⟨g, 0, none⟩) (M.take i ++ x :: M.drop i) := by
  have hl1 : (flat (M.drop i)).length = (M.length - i) * 4 := by rw [flat_len, List.length_drop]
  have hl2 : (flat [x]).length = 4 := rfl
  have ht1 : (W.setCells g ((i + 1) * 4) (flat (M.drop i))).there g 0 ((M.length + 1) * 4) := World.there_setCells ht _ _ _
  refine ents_of (by rw [size_sets, size_sets]; exact hg) fun j u hu => ?_
  rw [Nat.zero_add]
  have e : flat (M.take i ++ x :: M.drop i) = flat (M.take i) ++ (flat [x] ++ flat (M.drop i)) := by
    rw [show M.take i ++ x :: M.drop i = M.take i ++ ([x] ++ M.drop i) from rfl, flat_append, flat_append]
  have hl0 : (flat (M.take i)).length = i * 4 := by rw [flat_len, List.length_take, Nat.min_eq_left hi]
  rw [e] at hu
  by_cases h1 : j < i * 4
  · rw [World.cell?_setCells_out _ _ _ _ _ (fun _ _ => Or.inl h1), World.cell?_setCells_out _ _ _ _ _ (fun _ _ => Or.inl (by show j < (i + 1) * 4; omega))]
    rw [List.getElem?_append_left (by omega)] at hu
    have := flat_cells (ents_take hE i) j u hu
    rwa [Addr.add_mid, Nat.zero_add] at this
  · by_cases h2 : j < (i + 1) * 4
    · rw [List.getElem?_append_right (by omega), hl0, List.getElem?_append_left (by omega)] at hu
      have := World.cell?_setCells_in g (flat [x]) (i * 4) (W.setCells g ((i + 1) * 4) (flat (M.drop i))) (fun t ht' => (there_at ht1 (by omega) t (by omega : t < 4)).1) (j - i * 4) (by omega)
      rw [show i * 4 + (j - i * 4) = j by omega] at this
      rw [this, ← hu, List.getElem?_eq_getElem (by omega)]
    · rw [List.getElem?_append_right (by omega), hl0, List.getElem?_append_right (by omega), hl2] at hu
      have hj := (List.getElem?_eq_some_iff.1 hu).1
      rw [World.cell?_setCells_out _ _ _ _ _ (fun _ _ => Or.inr (by show i * 4 + (flat [x]).length ≤ j; omega))]
      have := World.cell?_setCells_in g (flat (M.drop i)) ((i + 1) * 4) W (fun t ht' => (there_at ht (by omega : (i + 1) * 4 + (M.length - i) * 4 ≤ (M.length + 1) * 4) t (by omega)).1) (j - i * 4 - 4) hj
      rw [show (i + 1) * 4 + (j - i * 4 - 4) = j by omega] at this
      rw [this, ← hu, List.getElem?_eq_getElem hj]

set_option maxRecDepth 100000 in
set_option maxHeartbeats 4000000 in
theorem insert_room (g cap vb i : Nat) (M : List AEnt) (x : AEnt) (w : World) (base : Nat) (hO : OwnE base (.slice (some ⟨g, 0, none⟩) M.length cap) M w) (hi : i < M.length) (hroom : M.length + 1 ≤ cap) (hl : M.length ≤ 1048576) (_hbs : base ≤ w.heap.size) (hx : OneE vb x w) (hgv : g < vb) :
    Calls Try.prog 56 #[.slice (some ⟨g, 0, none⟩) M.length cap, .int .i64 i, .slice (some ⟨vb, 0, none⟩) 1 1] w
      fun e w' => ∃ v, e = .returned v ∧ RowE base v (M.take i ++ x :: M.drop i) w' ∧ OnlyE (some ⟨g, 0, none⟩) w w' := by
  obtain ⟨hE, hT⟩ := own_there hO
  obtain ⟨cur, hgc, hbg, hcs, hcm⟩ : ∃ cur, w.heap[g]? = some (.cells cur 38 (0, 0)) ∧ base ≤ g ∧ cur.size = cap * 4 ∧ cap ≤ maxLen := by
    rcases hO.2 with ⟨h, _⟩ | ⟨g', c', cur, h, hb, hh, h1, h2, h3, h4⟩
    · cases h
    · cases h; exact ⟨cur, hh, hb, h3, h2⟩
  have hgl : g < w.heap.size := (Array.getElem?_eq_some_iff.1 hgc).1
  unfold maxLen at hcm
  have hsa : w.shape? vb = some (38, 4) := by simp [World.shape?, show w.heap[vb]? = _ from hx]
  have hsb : w.shape? g = some (38, cap * 4) := by simp [World.shape?, hgc, hcs]
  have hfa : w.frozen? ⟨vb, 0, none⟩ = false := by simp [World.frozen?, show w.heap[vb]? = _ from hx]
  have hfe : w.frozen? ⟨vb, 4, none⟩ = false := by simp [World.frozen?, show w.heap[vb]? = _ from hx]
  have hov : ∀ lb cb, (callFunc 65 #[.slice (some ⟨vb, 0, none⟩) 1 1, .slice (some ⟨g, (i + 1) * 4, none⟩) lb cb]).run Try.prog w = .ok (.value (.bool false)) w := fun lb cb => by
    rw [run_callFunc_extern Try.func65 (by kernel_rfl) (by kernel_rfl) (by kernel_rfl) (e := Extern.SlicesOverlaps.overlaps #[25, 25] #[4]) (by kernel_rfl),
      Lib.run_overlaps_apart w 25 4 38 Try.underlying25 4 Try.sizeOf38 ⟨vb, 0, none⟩ ⟨g, (i + 1) * 4, none⟩ 1 1 lb cb (by show vb ≠ g; omega) _ _ 4 (cap * 4) hsa hsb (by omega) hfa hfe]
    rfl
  have hne1 : ¬ cap = i + 1 := by omega
  have hne2 : ¬ cap = i := by omega
  have hd1 : EntsAt w.drew (some ⟨g, i * 4, none⟩) (M.drop i) := by simpa using ents_drop (hE.keep ((Below.refl _ _).drew)) i
  have hlt : (i : Int) < M.length := by omega
  have hii : (i : Int) + 1 ≤ (M.length : Int) + 1 := by omega
  have hwk : IntKind.i64.wrap ((i : Int) + 1) = (i : Int) + 1 := by
    simp [IntKind.wrap, IntKind.bits, IntKind.signed]
    omega
  have hTd : w.drew.there g 0 (cap * 4) := hT
  obtain ⟨W1, hW1⟩ : ∃ W1, W1 = w.drew.setCells g ((i + 1) * 4) (flat (M.drop i)) := ⟨_, rfl⟩
  have HW : Hid (W1 = w.drew.setCells g ((i + 1) * 4) (flat (M.drop i))) := hW1
  have hx1 : EntsAt W1 (some ⟨vb, 0, none⟩) [x] := by
    have h0 : EntsAt w.drew (some ⟨vb, 0, none⟩) [x] := hx.ents
    rcases h0 with h | ⟨b, o, e, hlt, hr⟩
    · exact Or.inl h
    · cases e
      refine Or.inr ⟨vb, 0, rfl, by rw [hW1, size_sets]; exact hlt, fun k c hc j u hu => ?_⟩
      rw [hW1, World.cell?_setCells_out _ _ _ _ _ (fun h _ => absurd h (by show vb ≠ g; omega))]
      exact hr k c hc j u hu
  have hT1 : W1.there g 0 (cap * 4) := by rw [hW1]; exact World.there_setCells hTd _ _ _
  clear hW1
  go_enter Try.func56, Try.ntmps56
  go_wp2_with fail
  go_region_held_law (fun _ => True) (trivial)
    (first
      | (refine step_copy (some 77) rfl rfl _ _ rfl g ((i + 1) * 4) _ _ ⟨g, i * 4, none⟩ _ _ rfl rfl (M.drop i) (by simp [Nat.min_def] <;> omega) hd1 (there_at hTd (by simp; omega)) ?_; (try simp only [Act.put, List.setIfInBounds_toArray, List.set_cons_zero, List.set_cons_succ]); rw [← HW.out]))
  all_goals
    have HF : Hid (EntsAt (W1.setCells g (i * 4) (flat [x])) (some ⟨g, 0, none⟩) (M.take i ++ x :: M.drop i) ∧ (W1.setCells g (i * 4) (flat [x])).there g 0 (cap * 4) ∧ g < (W1.setCells g (i * 4) (flat [x])).heap.size ∧ OnlyE (some ⟨g, 0, none⟩) w (W1.setCells g (i * 4) (flat [x]))) := by
      rw [HW.out]
      exact ⟨shift_ents (hE.keep ((Below.refl _ _).drew)) hgl (Nat.le_of_lt hi) (fun j hj => hTd j (by omega)), World.there_setCells (World.there_setCells hTd _ _ _) _ _ _, by rw [size_sets, size_sets]; exact hgl, fun G hG => by have e := hG g rfl; subst e; exact (((Turn.refl g w).next (Below.refl _ _).drew).sets _ _).sets _ _⟩
    have hlen : Hid ((M.take i ++ x :: M.drop i).length = M.length + 1) := by show (M.take i ++ x :: M.drop i).length = M.length + 1; simp; omega
    have hm1 : [x].length = Nat.min 1 (M.length + 1 - i) := by simp [Nat.min_def]; omega
    have ht1 : W1.there g (i * 4) ([x].length * 4) := there_at hT1 (by simp; omega)
    clear hd1 hTd hT1 hsa hsb hfa hfe hgc hcs hE hT hO
    have hcp : ∀ ty, (Builtin.copy_ #[25, 25] ty #[.slice (some ⟨g, i * 4, none⟩) (M.length + 1 - i) (cap - i), .slice (some ⟨vb, 0, none⟩) 1 1]).run Try.prog W1 = .ok (goInt [x].length) (W1.setCells g (i * 4) (flat [x])) := fun ty => run_copy_ents W1 ty g (i * 4) _ _ ⟨vb, 0, none⟩ _ _ [x] hm1 hx1 ht1
    clear hm1 hx1 ht1
    go_wp2_with fail
    go_ret
    exact ⟨_, rfl, Or.inr ⟨g, cap, by rw [hlen.out]; rfl, hbg, HF.out.2.2.1, by rw [hlen.out]; exact hroom, HF.out.1, fun j hj => HF.out.2.1 j (by rw [hlen.out] at hj; omega)⟩, HF.out.2.2.2⟩

end Go.Proofs.Ytobblnlefhkanaa

/- slices.Insert of one entry where there is no room, over the seat's translation. -/
namespace Go.Proofs.Ytobblnlefhkanaa
open Go.RowKit

/-- x is laid at i, and what stood from i on behind it. -/
theorem laid_ents {W : World} {g i : Nat} {M : List AEnt} {x : AEnt} (hE : EntsAt W (some ⟨g, 0, none⟩) (M.take i)) (hg : g < W.heap.size) (hi : i ≤ M.length) (ht : W.there g 0 ((M.length + 1) * 4)) :
    EntsAt ((W.setCells g (i * 4) (flat [x])).setCells g ((i + 1) * 4) (flat (M.drop i))) (some ⟨g, 0, none⟩) (M.take i ++ x :: M.drop i) := by
  have hl1 : (flat (M.drop i)).length = (M.length - i) * 4 := by rw [flat_len, List.length_drop]
  have hl2 : (flat [x]).length = 4 := rfl
  have ht1 : (W.setCells g (i * 4) (flat [x])).there g 0 ((M.length + 1) * 4) := World.there_setCells ht _ _ _
  refine ents_of (by rw [size_sets, size_sets]; exact hg) fun j u hu => ?_
  rw [Nat.zero_add]
  have e : flat (M.take i ++ x :: M.drop i) = flat (M.take i) ++ (flat [x] ++ flat (M.drop i)) := by
    rw [show M.take i ++ x :: M.drop i = M.take i ++ ([x] ++ M.drop i) from rfl, flat_append, flat_append]
  have hl0 : (flat (M.take i)).length = i * 4 := by rw [flat_len, List.length_take, Nat.min_eq_left hi]
  rw [e] at hu
  by_cases h1 : j < i * 4
  · rw [World.cell?_setCells_out _ _ _ _ _ (fun _ _ => Or.inl (by show j < (i + 1) * 4; omega)), World.cell?_setCells_out _ _ _ _ _ (fun _ _ => Or.inl h1)]
    rw [List.getElem?_append_left (by omega)] at hu
    have := flat_cells hE j u hu
    rwa [Addr.add_mid, Nat.zero_add] at this
  · by_cases h2 : j < (i + 1) * 4
    · rw [List.getElem?_append_right (by omega), hl0, List.getElem?_append_left (by omega)] at hu
      rw [World.cell?_setCells_out _ _ _ _ _ (fun _ _ => Or.inl h2)]
      have := World.cell?_setCells_in g (flat [x]) (i * 4) W (fun t ht' => (there_at ht (by omega) t (by omega : t < 4)).1) (j - i * 4) (by omega)
      rw [show i * 4 + (j - i * 4) = j by omega] at this
      rw [this, ← hu, List.getElem?_eq_getElem (by omega)]
    · rw [List.getElem?_append_right (by omega), hl0, List.getElem?_append_right (by omega), hl2] at hu
      have hj := (List.getElem?_eq_some_iff.1 hu).1
      have := World.cell?_setCells_in g (flat (M.drop i)) ((i + 1) * 4) (W.setCells g (i * 4) (flat [x])) (fun t ht' => (there_at ht1 (by omega : (i + 1) * 4 + (M.length - i) * 4 ≤ (M.length + 1) * 4) t (by omega)).1) (j - i * 4 - 4) hj
      rw [show (i + 1) * 4 + (j - i * 4 - 4) = j by omega] at this
      rw [this, ← hu, List.getElem?_eq_getElem hj]

set_option maxRecDepth 100000 in
set_option maxHeartbeats 4000000 in
theorem insert_grow (g cap vb i : Nat) (M : List AEnt) (x : AEnt) (w : World) (base : Nat) (hO : OwnE base (.slice (some ⟨g, 0, none⟩) M.length cap) M w) (hi : i < M.length) (hroom : cap < M.length + 1) (hl : M.length ≤ 1048576) (hbs : base ≤ w.heap.size) (hx : OneE vb x w) :
    Calls Try.prog 56 #[.slice (some ⟨g, 0, none⟩) M.length cap, .int .i64 i, .slice (some ⟨vb, 0, none⟩) 1 1] w
      fun e w' => ∃ v, e = .returned v ∧ RowE base v (M.take i ++ x :: M.drop i) w' ∧ OnlyE (some ⟨g, 0, none⟩) w w' := by
  obtain ⟨i0, hi0, hz, hsz, hby⟩ := Try.info38
  obtain ⟨hbg, hgl, hcl, hE⟩ : base ≤ g ∧ g < w.heap.size ∧ M.length ≤ cap ∧ EntsAt w (some ⟨g, 0, none⟩) M := by
    rcases hO.form with ⟨h, _⟩ | ⟨b, c, h, h1, h2, h3, h4, h5, h6⟩
    · cases h
    · cases h
      exact ⟨h1, h2, h3, h5⟩
  have hvl := hx.lt
  have hold : (Builtin.firstCells i0.size i (.slice (some ⟨g, 0, none⟩) i cap)).run Try.prog w.drew = .ok (flat (M.take i)).toArray w.drew := by
    rw [hsz]
    exact run_firstCells_some w.drew 4 i ⟨g, 0, none⟩ i cap (flat (M.take i)) (by rw [flat_len, List.length_take, Nat.min_eq_left (Nat.le_of_lt hi)]) (flat_cells (ents_take (hE.keep ((Below.refl _ _).drew)) i))
  have hik : i + (M.length + 1 - i) = M.length + 1 := by omega
  have hkk : (M.length : Int) + 1 - (i : Int) = ((M.length + 1 - i : Nat) : Int) := by omega
  have hfit : Builtin.nextslicecap (M.length + 1) cap * i0.bytes ≤ 281474976710656 := growslice_fits hroom (by
    have : (M.length + 1) * i0.bytes ≤ 1048577 * 128 := Nat.mul_le_mul (by omega) hby
    omega)
  have hrz : ∀ ty, (Builtin.append_ #[25, 3] ty #[.slice (some ⟨g, 0, none⟩) i cap, .int .i64 ((M.length : Int) + 1 - (i : Int))]).run Try.prog w =
      .ok (.slice (some ⟨w.heap.size, 0, none⟩) (M.length + 1) (grownCap w (M.length + 1) cap 38)) (w.drew.alloc (.cells ((flat (M.take i)).toArray ++ Builtin.zeroCells (Value.agg #[.int .i64 0, .int .i64 0, .string ⟨#[]⟩, .int .i64 0]).cells (M.length + 1 - i) ++ Builtin.zeroCells (Value.agg #[.int .i64 0, .int .i64 0, .string ⟨#[]⟩, .int .i64 0]).cells (grownCap w (M.length + 1) cap 38 - (M.length + 1))) 38)) := fun ty => by
    have h := Lib.run_append_grow_zeros (P := Try.prog) w 25 3 ty 38 i0 _ .i64 .i64 Try.underlying25 Try.underlying3 hi0 hz (some ⟨g, 0, none⟩) i cap (flat (M.take i)) hold (M.length + 1 - i) (by omega) (by omega) (by omega) (by omega)
      (by have : (M.length + 1 - i) * i0.bytes ≤ 1048577 * 128 := Nat.mul_le_mul (by omega) hby
          omega) (by rw [hik]; exact hfit)
    rw [hik] at h
    rw [hkk]
    exact h
  obtain ⟨G, hG⟩ : ∃ G, G = grownCap w (M.length + 1) cap 38 := ⟨_, rfl⟩
  have hGn : M.length + 1 ≤ G := by rw [hG]; exact grownCap_ge w _ _ _
  have hG63 : G ≤ 9223372036854775807 := by
    have := grownCap_le_maxLen w (M.length + 1) cap 38 (by unfold maxLen; omega)
    rw [← hG] at this
    unfold maxLen at this
    omega
  rw [← hG] at hrz
  obtain ⟨W1, hW1⟩ : ∃ W1, W1 = (w.drew.alloc (.cells ((flat (M.take i)).toArray ++ Builtin.zeroCells (Value.agg #[.int .i64 0, .int .i64 0, .string ⟨#[]⟩, .int .i64 0]).cells (M.length + 1 - i) ++ Builtin.zeroCells (Value.agg #[.int .i64 0, .int .i64 0, .string ⟨#[]⟩, .int .i64 0]).cells (G - (M.length + 1))) 38)) := ⟨_, rfl⟩
  rw [← hW1] at hrz
  have hb1 : Below w.heap.size w W1 := by rw [hW1]; exact ((Below.refl _ _).drew).alloc (Nat.le_refl _) _
  have hz1 : W1.heap.size = w.heap.size + 1 := by rw [hW1, size_alloc]; rfl
  have hcell : ∀ j, W1.cell? ⟨w.heap.size, j, none⟩ = ((flat (M.take i)).toArray ++ Builtin.zeroCells (Value.agg #[.int .i64 0, .int .i64 0, .string ⟨#[]⟩, .int .i64 0]).cells (M.length + 1 - i) ++ Builtin.zeroCells (Value.agg #[.int .i64 0, .int .i64 0, .string ⟨#[]⟩, .int .i64 0]).cells (G - (M.length + 1)))[j]? := fun j => by
    rw [hW1, World.cell?_alloc_at (w := w.drew) _ _ w.heap.size j rfl]
  have hzl : (Builtin.zeroCells (Value.agg #[.int .i64 0, .int .i64 0, .string ⟨#[]⟩, .int .i64 0]).cells (M.length + 1 - i)).size = (M.length + 1 - i) * 4 := by simp [Builtin.zeroCells, Value.cells]
  have hfl : (flat (M.take i)).length = i * 4 := by rw [flat_len, List.length_take, Nat.min_eq_left (Nat.le_of_lt hi)]
  have hT1 : W1.there w.heap.size 0 ((M.length + 1) * 4) := fun j hj => by
    rw [Nat.zero_add]
    refine ⟨?_, by rw [hW1]; exact World.frozen?_alloc_at (w := w.drew) _ _ w.heap.size j rfl⟩
    rw [hcell, Array.getElem?_eq_getElem (by simp only [Array.size_append, List.size_toArray, hfl, hzl]; omega)]
    rfl
  have hE1 : EntsAt W1 (some ⟨w.heap.size, 0, none⟩) (M.take i) := ents_of (by omega) fun j u hu => by
    have hj := (List.getElem?_eq_some_iff.1 hu).1
    rw [Nat.zero_add, hcell, Array.getElem?_append_left (by simp only [Array.size_append, List.size_toArray]; omega), Array.getElem?_append_left (by simpa using hj)]
    simpa using hu
  clear hcell hzl hfl hold hfit hik hkk hW1 hG
  have hx1 : EntsAt W1 (some ⟨vb, 0, none⟩) [x] := hx.ents.keep hb1
  have hg1 : EntsAt W1 (some ⟨g, 0, none⟩) M := hE.keep hb1
  have hm1 : [x].length = Nat.min 1 (M.length + 1 - i) := by simp [Nat.min_def]; omega
  have ht1 : W1.there w.heap.size (i * 4) ([x].length * 4) := there_at hT1 (by simp; omega)
  have hcpA : ∀ ty dc, (Builtin.copy_ #[25, 25] ty #[.slice (some ⟨w.heap.size, i * 4, none⟩) (M.length + 1 - i) dc, .slice (some ⟨vb, 0, none⟩) 1 1]).run Try.prog W1 = .ok (goInt [x].length) (W1.setCells w.heap.size (i * 4) (flat [x])) := fun ty dc => run_copy_ents W1 ty w.heap.size (i * 4) _ _ ⟨vb, 0, none⟩ _ _ [x] hm1 hx1 ht1
  obtain ⟨W2, hW2⟩ : ∃ W2, W2 = W1.setCells w.heap.size (i * 4) (flat [x]) := ⟨_, rfl⟩
  have HW2 : Hid (W2 = W1.setCells w.heap.size (i * 4) (flat [x])) := hW2
  rw [← hW2] at hcpA
  have hg2 : EntsAt W2 (some ⟨g, i * 4, none⟩) (M.drop i) := by
    have h0 : EntsAt W2 (some ⟨g, 0, none⟩) M := by
      rcases hg1 with h | ⟨b, o, e, hlt, hr⟩
      · exact Or.inl h
      · cases e
        refine Or.inr ⟨g, 0, rfl, by rw [hW2, size_sets]; exact hlt, fun k c hc j u hu => ?_⟩
        rw [hW2, World.cell?_setCells_out _ _ _ _ _ (fun h _ => absurd h (by show g ≠ w.heap.size; omega))]
        exact hr k c hc j u hu
    simpa using ents_drop h0 i
  have hT2 : W2.there w.heap.size 0 ((M.length + 1) * 4) := by rw [hW2]; exact World.there_setCells hT1 _ _ _
  have hne : ((i : Int) == (M.length : Int)) = false := by simp; omega
  have hrm : (cap : Int) < (M.length : Int) + 1 := by omega
  have hic : i ≤ cap := by omega
  have hci : ¬ cap = i := by omega
  have hGi : ¬ G = i := by omega
  have hGi1 : ¬ G = i + 1 := by omega
  have hiG : (i : Int) ≤ (M.length : Int) + 1 := by omega
  have hiG1 : (i : Int) + 1 ≤ (M.length : Int) + 1 := by omega
  have hwk : IntKind.i64.wrap ((i : Int) + 1) = (i : Int) + 1 := by
    simp [IntKind.wrap, IntKind.bits, IntKind.signed]
    omega
  have hg2d : EntsAt W2.drew (some ⟨g, i * 4, none⟩) (M.drop i) := hg2
  have hT2d : W2.drew.there w.heap.size 0 ((M.length + 1) * 4) := hT2
  clear hx1 hg1 hm1 ht1 hW2
  go_enter Try.func56, Try.ntmps56
  go_wp2_with (at_builtin; refine Lib.wpList_append_run _ rfl _ _ _ _ rfl _ _ rfl rfl _ _ (hrz _) ?_)
  go_region_held_law (fun _ => True) (trivial)
    (first
      | (refine step_copy (some 54) rfl rfl _ _ rfl w.heap.size ((i + 1) * 4) _ _ ⟨g, i * 4, none⟩ _ _ rfl rfl (M.drop i) (by simp [Nat.min_def] <;> omega) hg2d (there_at hT2d (by simp; omega)) ?_; (try simp only [Act.put, List.setIfInBounds_toArray, List.set_cons_zero, List.set_cons_succ])))
  all_goals
    have hlen : Hid ((M.take i ++ x :: M.drop i).length = M.length + 1) := by show (M.take i ++ x :: M.drop i).length = M.length + 1; simp; omega
    obtain ⟨W3, hW3⟩ : ∃ W3, W3 = W2.drew.setCells w.heap.size ((i + 1) * 4) (flat (M.drop i)) := ⟨_, rfl⟩
    rw [← hW3]
    have HF : Hid (EntsAt W3 (some ⟨w.heap.size, 0, none⟩) (M.take i ++ x :: M.drop i) ∧ W3.there w.heap.size 0 ((M.length + 1) * 4) ∧ w.heap.size < W3.heap.size ∧ OnlyE (some ⟨g, 0, none⟩) w W3) := by
      rw [hW3, HW2.out]
      refine ⟨laid_ents (W := W1.drew) (hE1.keep ((Below.refl _ _).drew)) (by show w.heap.size < W1.heap.size; omega) (Nat.le_of_lt hi) hT1, World.there_setCells (show (W1.setCells w.heap.size (i * 4) (flat [x])).drew.there w.heap.size 0 ((M.length + 1) * 4) from World.there_setCells hT1 _ _ _) _ _ _, ?_, onlyE_new (below_setC (below_setC hb1 (Nat.le_refl _) _ _).drew (Nat.le_refl _) _ _)⟩
      rw [size_sets]
      show w.heap.size < (W1.setCells w.heap.size (i * 4) (flat [x])).heap.size
      rw [size_sets]; omega
    clear hW3 HW2 hg2 hT2 hg2d hT2d hE1 hT1 hb1 hE
    go_wp2_with fail
    go_ret
    exact ⟨_, rfl, Or.inr ⟨w.heap.size, G, by rw [hlen.out]; rfl, hbs, HF.out.2.2.1, by rw [hlen.out]; exact hGn, HF.out.1, by rw [hlen.out]; exact HF.out.2.1⟩, HF.out.2.2.2⟩

end Go.Proofs.Ytobblnlefhkanaa
