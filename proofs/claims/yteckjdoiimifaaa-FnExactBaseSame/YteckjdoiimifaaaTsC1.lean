/- The contracts of laws.toChange and laws.toChangeS, over the seat's translation. -/
import Derived.Test.YteckjdoiimifaaaTsZ
namespace Go.Proofs.Yteckjdoiimifaaa
open Go.RowKit

/-- The box at B holds a change in W, and may be written. -/
abbrev Own10 (B : Nat) (kd : Int) (nm nw cnm : ByteArray) (ckd : Int) (nd oc : Bool) (k n : Int) (s : ByteArray) (W : World) : Prop :=
  W.cell? ⟨B, 0, none⟩ = some (.int .i64 kd) ∧ W.cell? ⟨B, 1, none⟩ = some (.string nm) ∧ W.cell? ⟨B, 2, none⟩ = some (.string nw) ∧ W.cell? ⟨B, 3, none⟩ = some (.string cnm) ∧ W.cell? ⟨B, 4, none⟩ = some (.int .i64 ckd) ∧ W.cell? ⟨B, 5, none⟩ = some (.bool nd) ∧ W.cell? ⟨B, 6, none⟩ = some (.bool oc) ∧ W.cell? ⟨B, 7, none⟩ = some (.int .i64 k) ∧ W.cell? ⟨B, 8, none⟩ = some (.int .i64 n) ∧ W.cell? ⟨B, 9, none⟩ = some (.string s) ∧
    W.frozen? ⟨B, 0, none⟩ = false ∧ W.frozen? ⟨B, 1, none⟩ = false ∧ W.frozen? ⟨B, 2, none⟩ = false ∧ W.frozen? ⟨B, 3, none⟩ = false ∧ W.frozen? ⟨B, 4, none⟩ = false ∧ W.frozen? ⟨B, 5, none⟩ = false ∧ W.frozen? ⟨B, 6, none⟩ = false ∧ W.frozen? ⟨B, 7, none⟩ = false ∧ W.frozen? ⟨B, 8, none⟩ = false ∧ W.frozen? ⟨B, 9, none⟩ = false
theorem own10_next {B : Nat} {kd : Int} {nm nw cnm : ByteArray} {ckd : Int} {nd oc : Bool} {k n : Int} {s : ByteArray} {W W' : World} (h : Own10 B kd nm nw cnm ckd nd oc k n s W) (hB : B < W.heap.size) (hb : Below W.heap.size W W') : Own10 B kd nm nw cnm ckd nd oc k n s W' := by
  have hc := fun o => (bcell hb).1 B o hB
  have hf := fun o => (bcell hb).2 B o hB
  unfold Own10
  simp only [hc, hf]
  exact h
theorem own10_box (w : World) (kd : Int) (nm nw cnm : ByteArray) (ckd : Int) (nd oc : Bool) (k n : Int) (s : ByteArray) (t : TypeId) : Own10 w.heap.size kd nm nw cnm ckd nd oc k n s (w.alloc (.cells #[.int .i64 kd, .string nm, .string nw, .string cnm, .int .i64 ckd, .bool nd, .bool oc, .int .i64 k, .int .i64 n, .string s] t)) := by
  refine ⟨?_, ?_, ?_, ?_, ?_, ?_, ?_, ?_, ?_, ?_, ?_, ?_, ?_, ?_, ?_, ?_, ?_, ?_, ?_, ?_⟩
  all_goals go_simp

set_option maxRecDepth 100000 in
set_option maxHeartbeats 2000000 in
theorem to_change (kd : Int) (nm nw cnm : ByteArray) (ckd : Int) (nd oc : Bool) (k n : Int) (s : ByteArray) (w : World) :
    Calls Try.prog 71 #[.agg #[.int .i64 kd, .string nm, .string nw, .string cnm, .int .i64 ckd, .bool nd, .bool oc, .int .i64 k, .int .i64 n, .string s]] w fun e w' => e = .returned (.agg #[.int .i64 kd, .string nm, .string nw, .string cnm, .int .i64 ckd, .bool nd, .bool oc, .int .i64 k, .int .i64 n, .string s]) ∧ Below w.heap.size w w' := by
  go_enter Try.func71, Try.ntmps71
  go_wp2_with fail
  refine (to_col _ _ _ _ _ _ _ _).mono ?_
  rintro e w' ⟨rfl, hb⟩
  have hO := own10_next (own10_box _ _ _ _ _ _ _ _ _ _ _ _) (by simp) hb
  have hR := own10_next (own10_next (own10_box _ _ _ _ _ _ _ _ _ _ _ _) (by simp) ((Below.refl _ _).alloc (Nat.le_refl _) _)) (by simp) hb
  have hw : Hid (Below w.heap.size w w') := ((((Below.refl w.heap.size w).alloc (Nat.le_refl _) _).alloc (by simp) _).alloc (by simp; omega) _).trans (hb.mono (by simp; omega))
  rw [size_alloc, size_alloc] at hO
  rw [size_alloc] at hR
  clear hb
  go_wp2_with fail
  refine bodyPost_ret (v := .agg #[.int .i64 kd, .string nm, .string nw, .string cnm, .int .i64 ckd, .bool nd, .bool oc, .int .i64 k, .int .i64 n, .string s]) (by simp [results, Try.results71, go_sem, hR]) rfl ⟨rfl, ?_⟩
  repeat' (first | refine Below.setCell ?_ (by simp [Nat.add_assoc]) _ | exact hw.out)

end Go.Proofs.Yteckjdoiimifaaa
