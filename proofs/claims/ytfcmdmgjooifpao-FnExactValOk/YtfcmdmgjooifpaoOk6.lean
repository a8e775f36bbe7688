/- Contracts of impl.ValOk, laws.toVal, laws.szVal, and the walk of laws.FnExactValOk, over the seat's translation. -/
import Derived.Test.YtfcmdmgjooifpaoOk4
import Derived.Test.YtfcmdmgjooifpaoOk5
namespace Go.Proofs.Ytfcmdmgjooifpao
open Go.RowKit

theorem value_any (k n : Int) (s : ByteArray) (w : World) (hs : s.size ≤ maxLen) :
    Calls Try.prog 10 #[.agg #[.int .i64 k, .int .i64 n, .string s]] w fun e w' => ∃ t v, e = .returned (.tuple #[.iface t v, .bool (valOk k n s)]) ∧ Below w.heap.size w w' := by
  by_cases h0 : k = 0
  · subst h0; exact (value_none n s w).mono fun e w' h => ⟨_, _, h⟩
  · by_cases h1 : k = 1
    · subst h1; exact (value_num n s w).mono fun e w' h => ⟨_, _, h⟩
    · by_cases h2 : k = 2
      · subst h2; exact (value_text n s w hs).mono fun e w' h => ⟨_, _, h⟩
      · exact (value_other k n s w (beq_eq_false_iff_ne.2 h0) (beq_eq_false_iff_ne.2 h1) (beq_eq_false_iff_ne.2 h2)).mono fun e w' h => ⟨_, _, h⟩

theorem impl_ok (k n : Int) (s : ByteArray) (w : World) (hs : s.size ≤ maxLen) :
    Calls Try.prog 7 #[.agg #[.int .i64 k, .int .i64 n, .string s]] w fun e w' => e = .returned (.bool (valOk k n s)) ∧ Below w.heap.size w w' := by
  go_enter Try.func7, Try.ntmps7
  go_wp2_with fail
  refine (value_any _ _ _ _ hs).mono ?_
  rintro e w' ⟨t, v, rfl, hb⟩
  go_wp2_with fail
  go_ret
  exact ⟨rfl, ((Below.refl _ _).alloc (Nat.le_refl _) _).trans (hb.mono (by simp))⟩

theorem to_val (k n : Int) (s : ByteArray) (w : World) :
    Calls Try.prog 6 #[.agg #[.int .i64 k, .int .i64 n, .string s]] w fun e w' => e = .returned (.agg #[.int .i64 k, .int .i64 n, .string s]) ∧ Below w.heap.size w w' := by
  go_enter Try.func6, Try.ntmps6
  go_wp2
  exact bodyPost_ret (v := .agg #[.int .i64 k, .int .i64 n, .string s]) (by simp [results, Try.results6, go_sem]) rfl ⟨rfl, ((((Below.refl _ _).alloc (Nat.le_refl _) _).alloc (by simp) _).alloc (by simp; omega) _)⟩

theorem sz_big (k n l : Int) (s : ByteArray) (w : World) (hs : s.size ≤ maxLen) (h0 : 0 ≤ l) (h1 : l ≤ 1048576) (h : l < s.size) :
    Calls Try.prog 4 #[.agg #[.int .i64 k, .int .i64 n, .string s], .int .i64 l] w fun e w' => e = .returned (.int .i64 (-1)) ∧ Below w.heap.size w w' := by
  unfold maxLen at hs
  go_enter Try.func4, Try.ntmps4
  go_wp2
  go_ret
  exact ⟨rfl, (Below.refl _ _).alloc (Nat.le_refl _) _⟩

theorem sz_fits (k n l : Int) (s : ByteArray) (w : World) (hs : s.size ≤ maxLen) (h0 : 0 ≤ l) (h1 : l ≤ 1048576) (h : s.size ≤ l) :
    Calls Try.prog 4 #[.agg #[.int .i64 k, .int .i64 n, .string s], .int .i64 l] w fun e w' => e = .returned (.int .i64 (l - s.size)) ∧ Below w.heap.size w w' := by
  unfold maxLen at hs
  go_enter Try.func4, Try.ntmps4
  go_wp2
  go_ret
  exact ⟨rfl, (Below.refl _ _).alloc (Nat.le_refl _) _⟩

set_option maxHeartbeats 400000 in
theorem law_ok (k n : Int) (s : ByteArray) (w : World) (hs : s.size ≤ maxLen) :
    Calls Try.prog 3 #[.agg #[.int .i64 k, .int .i64 n, .string s]] w fun e w' => e = .returned (.bool true) ∧ Below w.heap.size w w' := by
  by_cases hl : (1048576 : Int) < s.size
  · go_enter Try.func3, Try.ntmps3
    go_wp2_with fail
    refine (sz_big _ _ _ _ _ hs (by omega) (by omega) hl).mono ?_
    rintro e w1 ⟨rfl, hb⟩
    go_wp2_with fail
    go_ret
    exact ⟨rfl, ((Below.refl _ _).alloc (Nat.le_refl _) _).trans (hb.mono (by simp))⟩
  · have hl' : (s.size : Int) ≤ 1048576 := by omega
    clear hl
    have hB := held_box w k n s 23
    go_enter Try.func3, Try.ntmps3
    go_wp2_with fail
    refine (sz_fits _ _ _ _ _ hs (by omega) (by omega) hl').mono ?_
    rintro e w1 ⟨rfl, hb⟩
    have h1 := held_next hB hb
    clear hB hb
    go_wp2_with fail
    refine (to_val _ _ _ _).mono ?_
    rintro e w2 ⟨rfl, hb⟩
    have h2 := held_next h1 hb
    clear h1 hb
    go_wp2_with fail
    refine (spec_ok _ _ _ _ hs).mono ?_
    rintro e w3 ⟨rfl, hb⟩
    have h3 := held_next h2 hb
    clear h2 hb
    go_wp2_with fail
    refine (to_val _ _ _ _).mono ?_
    rintro e w4 ⟨rfl, hb⟩
    have h4 := held_next h3 hb
    clear h3 hb
    go_wp2_with fail
    refine (impl_ok _ _ _ _ hs).mono ?_
    rintro e w5 ⟨rfl, hb⟩
    have h5 := held_next h4 hb
    clear h4 hb
    go_wp2_with fail
    go_ret
    exact ⟨rfl, h5.2.2.2.2⟩

end Go.Proofs.Ytfcmdmgjooifpao
