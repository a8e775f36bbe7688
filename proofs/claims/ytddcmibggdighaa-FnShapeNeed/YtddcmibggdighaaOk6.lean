/- Contract of impl.ValOk, over the seat's translation. -/
import Derived.Test.YtddcmibggdighaaOk4
import Derived.Test.YtddcmibggdighaaOk5
namespace Go.Proofs.Ytddcmibggdighaa
open Go.RowKit

theorem value_any (k n : Int) (s : ByteArray) (w : World) (hs : s.size ≤ maxLen) :
    Calls Try.prog 36 #[.agg #[.int .i64 k, .int .i64 n, .string s]] w fun e w' => ∃ t v, e = .returned (.tuple #[.iface t v, .bool (valOk k n s)]) ∧ Below w.heap.size w w' := by
  by_cases h0 : k = 0
  · subst h0; exact (value_none n s w).mono fun e w' h => ⟨_, _, h⟩
  · by_cases h1 : k = 1
    · subst h1; exact (value_num n s w).mono fun e w' h => ⟨_, _, h⟩
    · by_cases h2 : k = 2
      · subst h2; exact (value_text n s w hs).mono fun e w' h => ⟨_, _, h⟩
      · exact (value_other k n s w (beq_eq_false_iff_ne.2 h0) (beq_eq_false_iff_ne.2 h1) (beq_eq_false_iff_ne.2 h2)).mono fun e w' h => ⟨_, _, h⟩

theorem impl_ok (k n : Int) (s : ByteArray) (w : World) (hs : s.size ≤ maxLen) :
    Calls Try.prog 29 #[.agg #[.int .i64 k, .int .i64 n, .string s]] w fun e w' => e = .returned (.bool (valOk k n s)) ∧ Below w.heap.size w w' := by
  go_enter Try.func29, Try.ntmps29
  go_wp2_with fail
  refine (value_any _ _ _ _ hs).mono ?_
  rintro e w' ⟨t, v, rfl, hb⟩
  go_wp2_with fail
  go_ret
  exact ⟨rfl, ((Below.refl _ _).alloc (Nat.le_refl _) _).trans (hb.mono (by simp))⟩

end Go.Proofs.Ytddcmibggdighaa
