/- 'copy' at entries; slices.Insert of one entry at the end, over the seat's translation. -/
import Derived.Test.YtobblnlefhkanaaIxD2
import Derived.Test.YtobblnlefhkanaaIxK0
import Derived.Lib.Overlaps
import Derived.Lib.AppendZerosOnto
namespace Go.Proofs.Ytobblnlefhkanaa
open Go.RowKit

/-- 'copy' of entries: all is read before anything is written. -/
theorem run_copy_ents (w : World) (ty : TypeId) (b o dLen dCap : Nat) (A : Addr) (sLen sCap : Nat) (N : List AEnt) (hn : N.length = Nat.min sLen dLen) (hN : EntsAt w (some A) N) (ht : w.there b o (N.length * 4)) :
    (Builtin.copy_ #[25, 25] ty #[.slice (some ⟨b, o, none⟩) dLen dCap, .slice (some A) sLen sCap]).run Try.prog w = .ok (goInt N.length) (w.setCells b o (flat N)) := by
  obtain ⟨i0, hi, hz, hsz, hby⟩ := Try.info38
  have hsrc : ∀ j v, (flat N)[j]? = some v → w.cell? (A.add j) = some v := by
    by_cases he : N = []
    · subst he
      intro j u hu
      simp [flat] at hu
    · have hN' := hN
      rcases hN with h | ⟨b, o, e, _⟩
      · exact absurd h he
      · cases e
        exact flat_cells hN'
  have hl := run_loadCells_list (P := Try.prog) w A (flat N) hsrc
  have hst := run_storeCells_cells (P := Try.prog) b o (flat N) 0 w (fun j hj => by rw [flat_len] at hj; exact (ht j hj).1) (fun j hj => by rw [flat_len] at hj; exact (ht j hj).2) (flat_one N)
  rw [flat_len] at hl
  simp [Builtin.copy_, run_underlying Try.underlying25, Builtin.lenOf, Builtin.firstCells, sizeOf, typeInfo, hi, hsz, ← hn, hl, hst]

/-- 'copy' as a step of a region that draws, and of one that does not. -/
theorem step_copy {ops : Array Oper} {o : Oper} {act : Act} {w : World} {K : Act → World → Prop} {Q : Exit → Act → World → Prop} {E : Prop} (d : Option Tmp) (hd : o.dst = d) (hgd : o.guard = none) (s x : Operand)
    (ho : o.op = .call { callee := .builtin .copy, args := #[s, x], argTypes := #[25, 25] })
    (b k dLen dCap : Nat) (A : Addr) (sLen sCap : Nat) (hs : act.eval s = .slice (some ⟨b, k, none⟩) dLen dCap) (hx : act.eval x = .slice (some A) sLen sCap)
    (N : List AEnt) (hn : N.length = Nat.min sLen dLen) (hN : EntsAt w (some A) N) (ht : w.there b k (N.length * 4))
    (h : K (act.put d (goInt N.length)) (w.setCells b k (flat N))) : if Region.wanted o (yielded ops act.tmps) = true then Oper.wp Try.prog o act w K Q else E := by
  subst hd
  have hw : Region.wanted o (yielded ops act.tmps) = true := by simp [Region.wanted, hgd]
  rw [if_pos hw]
  have hr := run_copy_ents w o.type b k dLen dCap A sLen sCap N hn hN ht
  unfold Oper.wp
  simp [execOp, ho, resolve, invoke, builtin, hs, hx, hr, Result.andThen]
  exact h
theorem copy_ents {ops : Array Oper} {rest : List Oper} {o : Oper} {act : Act} {w : World} {Q : Exit → Act → World → Prop} (hgd : o.guard = none) (s x : Operand)
    (ho : o.op = .call { callee := .builtin .copy, args := #[s, x], argTypes := #[25, 25] })
    (b k dLen dCap : Nat) (A : Addr) (sLen sCap : Nat) (hs : act.eval s = .slice (some ⟨b, k, none⟩) dLen dCap) (hx : act.eval x = .slice (some A) sLen sCap)
    (N : List AEnt) (hn : N.length = Nat.min sLen dLen) (hN : EntsAt w (some A) N) (ht : w.there b k (N.length * 4))
    (h : wpList Try.prog ops Q rest (act.put o.dst (goInt N.length)) (w.setCells b k (flat N))) : wpList Try.prog ops Q (o :: rest) act w := by
  refine wpList_plain hgd fun K hK => ?_
  have hr := run_copy_ents w o.type b k dLen dCap A sLen sCap N hn hN ht
  unfold Oper.wp
  simp [execOp, ho, resolve, invoke, builtin, hs, hx, hr, Result.andThen]
  exact hK _ _ h

theorem take_len (M : List AEnt) (x : AEnt) : M.take M.length ++ x :: M.drop M.length = M ++ [x] := by simp

/-- A block of one entry that may be read. -/
def OneE (vb : Nat) (x : AEnt) (W : World) : Prop := W.heap[vb]? = some (.cells #[.int .i64 x.k, .int .i64 x.n, .string x.s, .int .i64 x.id] 38)
theorem OneE.lt {vb : Nat} {x : AEnt} {W : World} (h : OneE vb x W) : vb < W.heap.size := (Array.getElem?_eq_some_iff.1 h).1
theorem OneE.ents {vb : Nat} {x : AEnt} {W : World} (h : OneE vb x W) : EntsAt W (some ⟨vb, 0, none⟩) [x] := by
  refine ents_of h.lt fun j u hu => ?_
  rw [Nat.zero_add]
  have hj : j < 4 := by have := (List.getElem?_eq_some_iff.1 hu).1; simpa [flat, AEnt.cells] using this
  simp only [World.cell?, (show W.heap[vb]? = _ from h)]
  have h4 : j = 0 ∨ j = 1 ∨ j = 2 ∨ j = 3 := by omega
  rcases h4 with rfl | rfl | rfl | rfl <;> simpa [flat, AEnt.cells] using hu

/-- Of what lay in W only the block of a has turned in W'; blocks may have come. -/
def OnlyE (a : Option Addr) (W W' : World) : Prop := ∀ G, (∀ g, a = some ⟨g, 0, none⟩ → g = G) → Turn G W W'
theorem onlyE_grown {a : Option Addr} {n c : Nat} {W W' : World} (hg : W.grownBy W' (Value.slice a n c).ownBlock) (ha : ∀ A, a = some A → A = ⟨A.block, 0, none⟩) : OnlyE a W W' := fun G hG =>
  ⟨hg.os, hg.tape, hg.output, hg.size, fun k hk hne => hg.block k hk (by
    cases a with
    | none => intro h; cases h
    | some A =>
      intro h
      have h1 := ha A rfl
      have h2 := hG A.block (by rw [← h1])
      cases h
      exact hne h2)⟩
theorem onlyE_new {a : Option Addr} {W W' : World} (h : Below W.heap.size W W') : OnlyE a W W' := fun G _ => (Turn.refl G W).next h

set_option maxRecDepth 100000 in
set_option maxHeartbeats 2000000 in
theorem insert_end (a : Option Addr) (cap vb : Nat) (M : List AEnt) (x : AEnt) (w : World) (base : Nat) (hO : OwnE base (.slice a M.length cap) M w) (hl : M.length ≤ 1048576) (hbs : base ≤ w.heap.size) (hx : OneE vb x w) :
    Calls Try.prog 56 #[.slice a M.length cap, .int .i64 (M.length : Nat), .slice (some ⟨vb, 0, none⟩) 1 1] w
      fun e w' => ∃ v, e = .returned v ∧ RowE base v (M.take M.length ++ x :: M.drop M.length) w' ∧ OnlyE a w w' := by
  rw [take_len]
  have hxe := hx.ents
  have ha : ∀ A, a = some A → A = ⟨A.block, 0, none⟩ := fun A e => by
    rcases hO.form with ⟨h, _⟩ | ⟨g, c, h, _⟩
    · rw [(Value.slice.inj h).1] at e; cases e
    · rw [(Value.slice.inj h).1] at e; cases e; rfl
  have HA : Hid (∀ A, a = some A → A = ⟨A.block, 0, none⟩) := ha
  clear ha
  go_enter Try.func56, Try.ntmps56
  go_wp2_with (at_builtin; refine append_rows rfl _ _ rfl base _ M rfl hO (some ⟨vb, 0, none⟩) _ 1 [x] rfl rfl hxe (fun h => by cases h) (by simp; omega) hbs ?_; intro a3 n3 c3 w3 ho hg hn hc; clear hn hc)
  all_goals
    go_ret
    exact ⟨_, rfl, ho.row, onlyE_grown hg HA.out⟩

end Go.Proofs.Ytobblnlefhkanaa
