/- A column in a box, and the contract of spec.ColOk, over the seat's translation. -/
import Derived.Test.YtddcmibggdighaaA3
import Derived.Test.YtddcmibggdighaaColN1
import Derived.Deep.QuietTactic
namespace Go.Proofs.Ytddcmibggdighaa
open Go.RowKit

def colOk (nm : ByteArray) (kd : Int) (oc : Bool) (k n : Int) (s : ByteArray) : Bool :=
  nameOk nm && ((kd == 1 || kd == 2) && (valOk k n s && ((k == 0 || k == kd) && (!oc || k == 0))))

/-- The box at B holds the column in W, and W lies over w. -/
abbrev Held7 (w : World) (B : Nat) (nm : ByteArray) (kd : Int) (nd oc : Bool) (k n : Int) (s : ByteArray) (W : World) : Prop :=
  W.cell? ⟨B, 0, none⟩ = some (.string nm) ∧ W.cell? ⟨B, 1, none⟩ = some (.int .i64 kd) ∧ W.cell? ⟨B, 2, none⟩ = some (.bool nd) ∧ W.cell? ⟨B, 3, none⟩ = some (.bool oc) ∧
    W.cell? ⟨B, 4, none⟩ = some (.int .i64 k) ∧ W.cell? ⟨B, 5, none⟩ = some (.int .i64 n) ∧ W.cell? ⟨B, 6, none⟩ = some (.string s) ∧ B + 1 ≤ W.heap.size ∧ Below B w W

theorem held7_next {w : World} {B : Nat} {nm : ByteArray} {kd : Int} {nd oc : Bool} {k n : Int} {s : ByteArray} {W W' : World} (h : Held7 w B nm kd nd oc k n s W) (hb : Below W.heap.size W W') : Held7 w B nm kd nd oc k n s W' := by
  obtain ⟨a, b, c, d, e, f, g, hz, i⟩ := h
  have hc := (bcell hb).1
  have hq := hb.size
  exact ⟨by rw [hc _ _ (by omega)]; exact a, by rw [hc _ _ (by omega)]; exact b, by rw [hc _ _ (by omega)]; exact c, by rw [hc _ _ (by omega)]; exact d, by rw [hc _ _ (by omega)]; exact e, by rw [hc _ _ (by omega)]; exact f, by rw [hc _ _ (by omega)]; exact g, by omega, i.trans (hb.mono (by omega))⟩
theorem held7_box (w : World) (nm : ByteArray) (kd : Int) (nd oc : Bool) (k n : Int) (s : ByteArray) (t : TypeId) :
    Held7 w w.heap.size nm kd nd oc k n s (w.alloc (.cells #[.string nm, .int .i64 kd, .bool nd, .bool oc, .int .i64 k, .int .i64 n, .string s] t)) := by
  refine ⟨?_, ?_, ?_, ?_, ?_, ?_, ?_, ?_, (Below.refl _ _).alloc (Nat.le_refl _) _⟩
  all_goals go_simp

set_option maxHeartbeats 1000000 in
theorem spec_col (nm : ByteArray) (kd : Int) (nd oc : Bool) (k n : Int) (s : ByteArray) (w : World) (hnm : nm.size ≤ maxLen) (hs : s.size ≤ maxLen) :
    Calls Try.prog 30 #[.agg #[.string nm, .int .i64 kd, .bool nd, .bool oc, .int .i64 k, .int .i64 n, .string s]] w fun e w' => e = .returned (.bool (colOk nm kd oc k n s)) ∧ Below w.heap.size w w' := by
  go_enter Try.func30, Try.ntmps30
  go_wp2_with (first
    | (go_at_call 37; refine (l2_name _ _ hnm).mono ?_; rintro e w' ⟨rfl, rfl⟩)
    | (go_at_call 16; refine (spec_ok _ _ _ _ hs).mono ?_; rintro e w' ⟨rfl, hb⟩; have hN := held7_next (held7_box _ _ _ _ _ _ _ _ _) hb; clear hb))
  all_goals
    go_ret
    first
      | (refine ⟨?_, (Below.refl _ _).alloc (Nat.le_refl _) _⟩
         simp_all [colOk]
         done)
      | (have hE := ‹Held7 _ _ _ _ _ _ _ _ _ _›
         refine ⟨?_, hE.2.2.2.2.2.2.2.2⟩
         simp_all [colOk])

end Go.Proofs.Ytddcmibggdighaa
