/- The walk of laws.FnExactValOk, over the seat's translation. -/
import Derived.Test.YtcibeejabdnckaaCv
namespace Go.Proofs.Ytcibeejabdnckaa
open Go.RowKit

set_option maxHeartbeats 400000 in
theorem law_ok (k n : Int) (s : ByteArray) (w : World) (hs : s.size ≤ maxLen) :
    Calls Try.prog 4 #[.agg #[.int .i64 k, .int .i64 n, .string s]] w fun e w' => e = .returned (.bool true) ∧ Below w.heap.size w w' := by
  by_cases hl : (1048576 : Int) < s.size
  · go_enter Try.func4, Try.ntmps4
    go_wp2_with fail
    refine (sz_big _ _ _ _ _ hs (by omega) (by omega) hl).mono ?_
    rintro e w1 ⟨rfl, hb⟩
    go_wp2_with fail
    go_ret
    exact ⟨rfl, ((Below.refl _ _).alloc (Nat.le_refl _) _).trans (hb.mono (by simp))⟩
  · have hl' : (s.size : Int) ≤ 1048576 := by omega
    clear hl
    have hB := held_box w k n s 30
    go_enter Try.func4, Try.ntmps4
    go_wp2_with fail
    refine (sz_fits _ _ _ _ _ hs (by omega) (by omega) hl').mono ?_
    rintro e w1 ⟨rfl, hb⟩
    have h1 := held_next hB hb
    clear hB hb
    go_wp2_with fail
    refine (to_val _ _ _ _).mono ?_
    rintro e w2 ⟨rfl, hb⟩
    have h2 := held_next h1 hb
    clear h1 hb
    go_wp2_with fail
    refine (spec_ok _ _ _ _ hs).mono ?_
    rintro e w3 ⟨rfl, hb⟩
    have h3 := held_next h2 hb
    clear h2 hb
    go_wp2_with fail
    refine (to_val _ _ _ _).mono ?_
    rintro e w4 ⟨rfl, hb⟩
    have h4 := held_next h3 hb
    clear h3 hb
    go_wp2_with fail
    refine (impl_ok _ _ _ _ hs).mono ?_
    rintro e w5 ⟨rfl, hb⟩
    have h5 := held_next h4 hb
    clear h4 hb
    go_wp2_with fail
    go_ret
    exact ⟨rfl, h5.2.2.2.2⟩

end Go.Proofs.Ytcibeejabdnckaa
