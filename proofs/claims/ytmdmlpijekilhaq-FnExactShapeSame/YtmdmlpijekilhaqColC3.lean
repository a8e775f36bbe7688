/- Contracts of laws.toCol and laws.szCol, over the seat's translation. -/
import Derived.Test.YtmdmlpijekilhaqColC2
import Derived.Test.YtmdmlpijekilhaqCv
namespace Go.Proofs.Ytmdmlpijekilhaq
open Go.RowKit

/-- The box at B holds a column in W, and may be written. -/
abbrev Own7 (B : Nat) (nm : ByteArray) (kd : Int) (nd oc : Bool) (k n : Int) (s : ByteArray) (W : World) : Prop :=
  W.cell? ⟨B, 0, none⟩ = some (.string nm) ∧ W.cell? ⟨B, 1, none⟩ = some (.int .i64 kd) ∧ W.cell? ⟨B, 2, none⟩ = some (.bool nd) ∧ W.cell? ⟨B, 3, none⟩ = some (.bool oc) ∧
    W.cell? ⟨B, 4, none⟩ = some (.int .i64 k) ∧ W.cell? ⟨B, 5, none⟩ = some (.int .i64 n) ∧ W.cell? ⟨B, 6, none⟩ = some (.string s) ∧
    W.frozen? ⟨B, 0, none⟩ = false ∧ W.frozen? ⟨B, 1, none⟩ = false ∧ W.frozen? ⟨B, 2, none⟩ = false ∧ W.frozen? ⟨B, 3, none⟩ = false ∧ W.frozen? ⟨B, 4, none⟩ = false ∧ W.frozen? ⟨B, 5, none⟩ = false ∧ W.frozen? ⟨B, 6, none⟩ = false
theorem own7_next {B : Nat} {nm : ByteArray} {kd : Int} {nd oc : Bool} {k n : Int} {s : ByteArray} {W W' : World} (h : Own7 B nm kd nd oc k n s W) (hB : B < W.heap.size) (hb : Below W.heap.size W W') : Own7 B nm kd nd oc k n s W' := by
  have hc := fun o => (bcell hb).1 B o hB
  have hf := fun o => (bcell hb).2 B o hB
  unfold Own7
  simp only [hc, hf]
  exact h
theorem own7_box (w : World) (nm : ByteArray) (kd : Int) (nd oc : Bool) (k n : Int) (s : ByteArray) (t : TypeId) :
    Own7 w.heap.size nm kd nd oc k n s (w.alloc (.cells #[.string nm, .int .i64 kd, .bool nd, .bool oc, .int .i64 k, .int .i64 n, .string s] t)) := by
  refine ⟨?_, ?_, ?_, ?_, ?_, ?_, ?_, ?_, ?_, ?_, ?_, ?_, ?_, ?_⟩
  all_goals go_simp

set_option maxHeartbeats 1000000 in
theorem to_col (nm : ByteArray) (kd : Int) (nd oc : Bool) (k n : Int) (s : ByteArray) (w : World) :
    Calls Try.prog 38 #[.agg #[.string nm, .int .i64 kd, .bool nd, .bool oc, .int .i64 k, .int .i64 n, .string s]] w fun e w' => e = .returned (.agg #[.string nm, .int .i64 kd, .bool nd, .bool oc, .int .i64 k, .int .i64 n, .string s]) ∧ Below w.heap.size w w' := by
  go_enter Try.func38, Try.ntmps38
  go_wp2_with fail
  refine (to_val _ _ _ _).mono ?_
  rintro e w' ⟨rfl, hb⟩
  have hO := own7_next (own7_box _ _ _ _ _ _ _ _ _) (by simp) hb
  have hR := own7_next (own7_next (own7_box _ _ _ _ _ _ _ _ _) (by simp) ((Below.refl _ _).alloc (Nat.le_refl _) _)) (by simp) hb
  have hw : Hid (Below w.heap.size w w') := ((((Below.refl w.heap.size w).alloc (Nat.le_refl _) _).alloc (by simp) _).alloc (by simp; omega) _).trans (hb.mono (by simp; omega))
  rw [size_alloc, size_alloc] at hO
  rw [size_alloc] at hR
  clear hb
  go_wp2_with fail
  refine bodyPost_ret (v := .agg #[.string nm, .int .i64 kd, .bool nd, .bool oc, .int .i64 k, .int .i64 n, .string s]) (by simp [results, Try.results38, go_sem, hR]) rfl ⟨rfl, ?_⟩
  repeat' (first | refine Below.setCell ?_ (by simp [Nat.add_assoc]) _ | exact hw.out)

end Go.Proofs.Ytmdmlpijekilhaq
