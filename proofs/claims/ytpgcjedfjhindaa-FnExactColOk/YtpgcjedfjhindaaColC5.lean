/- The walk of laws.FnExactColOk, over the seat's translation. -/
import Derived.Test.YtpgcjedfjhindaaColC4
namespace Go.Proofs.Ytpgcjedfjhindaa
open Go.RowKit

set_option maxHeartbeats 1000000 in
theorem law_col (nm : ByteArray) (kd : Int) (nd oc : Bool) (k n : Int) (s : ByteArray) (w : World) (hnm : nm.size ≤ maxLen) (hs : s.size ≤ maxLen) :
    Calls Try.prog 3 #[.agg #[.string nm, .int .i64 kd, .bool nd, .bool oc, .int .i64 k, .int .i64 n, .string s]] w fun e w' => e = .returned (.bool true) ∧ Below w.heap.size w w' := by
  have hB := held7_box w nm kd nd oc k n s 25
  by_cases hl : ((nm.size + s.size : Nat) : Int) ≤ 1048576
  · have hl' := left_pos hl
    have hp : (0 : Int) ≤ 1048576 - ((nm.size + s.size : Nat) : Int) := by omega
    go_enter Try.func3, Try.ntmps3
    go_wp2_with fail
    refine (sz_col _ _ _ _ _ _ _ _ _ hnm hs (by omega) (by omega)).mono ?_
    rintro e w1 ⟨rfl, hb⟩
    rw [hl']
    clear hl'
    generalize 1048576 - ((nm.size + s.size : Nat) : Int) = z at hp ⊢
    have h1 := held7_next hB hb
    clear hB hb
    go_wp2_with fail
    refine (to_col _ _ _ _ _ _ _ _).mono ?_
    rintro e w2 ⟨rfl, hb⟩
    have h2 := held7_next h1 hb
    clear h1 hb
    go_wp2_with fail
    refine (spec_col _ _ _ _ _ _ _ _ hnm hs).mono ?_
    rintro e w3 ⟨rfl, hb⟩
    have h3 := held7_next h2 hb
    clear h2 hb
    go_wp2_with fail
    refine (to_col _ _ _ _ _ _ _ _).mono ?_
    rintro e w4 ⟨rfl, hb⟩
    have h4 := held7_next h3 hb
    clear h3 hb
    go_wp2_with fail
    refine (impl_col _ _ _ _ _ _ _ _ hnm hs).mono ?_
    rintro e w5 ⟨rfl, hb⟩
    have h5 := held7_next h4 hb
    clear h4 hb
    go_wp2_with fail
    go_ret
    exact ⟨rfl, h5.2.2.2.2.2.2.2.2⟩
  · have hl' := left_neg hl
    go_enter Try.func3, Try.ntmps3
    go_wp2_with fail
    refine (sz_col _ _ _ _ _ _ _ _ _ hnm hs (by omega) (by omega)).mono ?_
    rintro e w1 ⟨rfl, hb⟩
    rw [hl']
    have h1 := held7_next hB hb
    go_wp2_with fail
    go_ret
    exact ⟨rfl, h1.2.2.2.2.2.2.2.2⟩

end Go.Proofs.Ytpgcjedfjhindaa
