/- What is done in the laws' own type, loaded whole, over the seat's translation. -/
import Derived.Test.YtacindondkcaiaaGreatAcT
import Derived.Test.YtacindondkcaiaaGreatAcP0
namespace Go.Proofs.YtacindondkcaiaaGreat
open Go.RowKit

theorem lact_size : (Tryz.prog.info? 33).map (·.size) = some 19 := by kernel_rfl
theorem ld_lact {ops : Array Oper} {rest : List Oper} {op : Oper} {a : Act} {w : World} {Q : Exit → Act → World → Prop} (hgd : op.guard = none) (x : Operand) (ho : op.op = .load 33 x)
    (B : Nat) (hx : a.eval x = .pointer (some ⟨B, 0, none⟩)) (cs : List Value) (hc : w.rangeAt B 0 cs) (hl : cs.length = 19) (h : wpList Tryz.prog ops Q rest (a.put op.dst (.agg cs.toArray)) w) : wpList Tryz.prog ops Q (op :: rest) a w :=
  wpList_load_mid hgd _ x ho B 0 hx cs _ hc Tryz.underlying33 rfl (by rw [lact_size, hl]) h
theorem NewAct.put {w : World} {b0 b1 C : Nat} {x : AAct} {W : World} (h : NewAct w b0 b1 x W) (h0 : C < b0) (h1 : C < b1) (hw : w.heap.size ≤ C) (o : Nat) (vs : List Value) : NewAct w b0 b1 x (W.setCells C o vs) := by
  induction vs generalizing o W with
  | nil => exact h
  | cons v r ih => exact ih (h.set h0 h1 hw) _
theorem BoxF.range {B : Nat} {L : List Value} {W : World} (h : BoxF B (lst L) W) (hl : L.length = 19) : W.rangeAt B 0 L := fun j v hv => by
  have hj := (List.getElem?_eq_some_iff.1 hv).1
  rw [Nat.zero_add, h j (by omega)]
  simp [lst, hv]
theorem BoxF.there {B : Nat} {f : Nat → Value} {W : World} (h : BoxF B f W) (hf : FreeF B W) : W.there B 0 19 := fun j hj => by
  rw [Nat.zero_add]
  exact ⟨by rw [h j hj]; rfl, hf j hj⟩

end Go.Proofs.YtacindondkcaiaaGreat
