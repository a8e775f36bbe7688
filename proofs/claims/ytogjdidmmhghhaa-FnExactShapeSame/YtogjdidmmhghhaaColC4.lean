/- The contract of laws.szCol and the walk of laws.FnExactColOk, over the seat's translation. -/
import Derived.Test.YtogjdidmmhghhaaColC3
namespace Go.Proofs.Ytogjdidmmhghhaa
open Go.RowKit

/-- What is left of l when so much is taken: -1, if there is not so much. -/
def left (l : Int) (z : Nat) : Int := if (z : Int) ≤ l then l - z else -1

theorem left_pos {l : Int} {z : Nat} (h : (z : Int) ≤ l) : left l z = l - z := if_pos h
theorem left_neg {l : Int} {z : Nat} (h : ¬ (z : Int) ≤ l) : left l z = -1 := if_neg h

theorem sz_val (k n l : Int) (s : ByteArray) (w : World) (hs : s.size ≤ maxLen) (h0 : 0 ≤ l) (h1 : l ≤ 1048576) :
    Calls Try.prog 20 #[.agg #[.int .i64 k, .int .i64 n, .string s], .int .i64 l] w fun e w' => e = .returned (.int .i64 (left l s.size)) ∧ Below w.heap.size w w' := by
  by_cases h : (s.size : Int) ≤ l
  · rw [left_pos h]; exact sz_fits k n l s w hs h0 h1 h
  · rw [left_neg h]; exact sz_big k n l s w hs h0 h1 (by omega)

set_option maxHeartbeats 1000000 in
theorem sz_col (nm : ByteArray) (kd : Int) (nd oc : Bool) (k n : Int) (s : ByteArray) (l : Int) (w : World) (hnm : nm.size ≤ maxLen) (hs : s.size ≤ maxLen) (h0 : 0 ≤ l) (h1 : l ≤ 1048576) :
    Calls Try.prog 12 #[.agg #[.string nm, .int .i64 kd, .bool nd, .bool oc, .int .i64 k, .int .i64 n, .string s], .int .i64 l] w fun e w' => e = .returned (.int .i64 (left l (nm.size + s.size))) ∧ Below w.heap.size w w' := by
  have hz : nm.size ≤ 9223372036854775807 := by unfold maxLen at hnm; omega
  by_cases ha : (nm.size : Int) ≤ l
  · by_cases hb : (s.size : Int) ≤ l - nm.size
    · rw [left_pos (by omega)]
      go_enter Try.func12, Try.ntmps12
      go_wp2_with fail
      refine (sz_fits _ _ _ _ _ hs (by omega) (by omega) hb).mono ?_
      rintro e w' ⟨rfl, hq⟩
      go_wp2_with fail
      go_ret
      refine ⟨?_, ((Below.refl _ _).alloc (Nat.le_refl _) _).trans (hq.mono (by simp))⟩
      rw [show l - ((nm.size + s.size : Nat) : Int) = l - nm.size - s.size by omega]
      rfl
    · rw [left_neg (by omega)]
      go_enter Try.func12, Try.ntmps12
      go_wp2_with fail
      refine (sz_big _ _ _ _ _ hs (by omega) (by omega) (by omega)).mono ?_
      rintro e w' ⟨rfl, hq⟩
      go_wp2_with fail
      go_ret
      exact ⟨rfl, ((Below.refl _ _).alloc (Nat.le_refl _) _).trans (hq.mono (by simp))⟩
  · rw [left_neg (by omega)]
    go_enter Try.func12, Try.ntmps12
    go_wp2_with fail
    go_ret
    exact ⟨rfl, (Below.refl _ _).alloc (Nat.le_refl _) _⟩

end Go.Proofs.Ytogjdidmmhghhaa
