/- A box of a column that may be written. -/
import Derived.Test.YtddcmibggdighaaColC1
namespace Go.Proofs.Ytddcmibggdighaa
open Go.RowKit

/-- The box at B holds a column in W, and may be written. -/
abbrev Own7 (B : Nat) (nm : ByteArray) (kd : Int) (nd oc : Bool) (k n : Int) (s : ByteArray) (W : World) : Prop :=
  W.cell? ⟨B, 0, none⟩ = some (.string nm) ∧ W.cell? ⟨B, 1, none⟩ = some (.int .i64 kd) ∧ W.cell? ⟨B, 2, none⟩ = some (.bool nd) ∧ W.cell? ⟨B, 3, none⟩ = some (.bool oc) ∧
    W.cell? ⟨B, 4, none⟩ = some (.int .i64 k) ∧ W.cell? ⟨B, 5, none⟩ = some (.int .i64 n) ∧ W.cell? ⟨B, 6, none⟩ = some (.string s) ∧
    W.frozen? ⟨B, 0, none⟩ = false ∧ W.frozen? ⟨B, 1, none⟩ = false ∧ W.frozen? ⟨B, 2, none⟩ = false ∧ W.frozen? ⟨B, 3, none⟩ = false ∧ W.frozen? ⟨B, 4, none⟩ = false ∧ W.frozen? ⟨B, 5, none⟩ = false ∧ W.frozen? ⟨B, 6, none⟩ = false
theorem own7_next {B : Nat} {nm : ByteArray} {kd : Int} {nd oc : Bool} {k n : Int} {s : ByteArray} {W W' : World} (h : Own7 B nm kd nd oc k n s W) (hB : B < W.heap.size) (hb : Below W.heap.size W W') : Own7 B nm kd nd oc k n s W' := by
  have hc := fun o => (bcell hb).1 B o hB
  have hf := fun o => (bcell hb).2 B o hB
  unfold Own7
  simp only [hc, hf]
  exact h
theorem own7_box (w : World) (nm : ByteArray) (kd : Int) (nd oc : Bool) (k n : Int) (s : ByteArray) (t : TypeId) :
    Own7 w.heap.size nm kd nd oc k n s (w.alloc (.cells #[.string nm, .int .i64 kd, .bool nd, .bool oc, .int .i64 k, .int .i64 n, .string s] t)) := by
  refine ⟨?_, ?_, ?_, ?_, ?_, ?_, ?_, ?_, ?_, ?_, ?_, ?_, ?_, ?_⟩
  all_goals go_simp

end Go.Proofs.Ytddcmibggdighaa
