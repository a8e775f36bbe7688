/- Contracts of impl.ValText and of spec.ValText at every value, over the seat's translation; the table of powers of ten is as the program's text lays it. -/
import Derived.Test.YtmfilahccefcoaaDoorOk4
import Derived.Test.YtmfilahccefcoaaDoorOk5
import Derived.Test.YtmfilahccefcoaaDoorRd4
import Derived.Test.YtmfilahccefcoaaDoorRd6
namespace Go.Proofs.YtmfilahccefcoaaDoor
open Go.RowKit

def textV (k n : Int) (s : ByteArray) : List UInt8 :=
  if valOk k n s then (if k = 0 then [110, 111, 110, 101] else if k = 1 then Lib.itoa n else 39 :: (s.data.toList ++ [39])) else []

theorem m_num_text (n : Int) (w : World) : (method 202 51 (.int .i64 n) "loop.example/custumal/impl.text").run Tryd.prog w = .ok (79, .int .i64 n) w := by kernel_rfl
theorem m_text_text (s : ByteArray) (w : World) : (method 202 46 (.string s) "loop.example/custumal/impl.text").run Tryd.prog w = .ok (75, .string s) w := by kernel_rfl
theorem m_none_text (w : World) : (method 202 66 (.agg #[]) "loop.example/custumal/impl.text").run Tryd.prog w = .ok (83, .agg #[]) w := by kernel_rfl

theorem none_text (w : World) : Calls Tryd.prog 83 #[.agg #[]] w fun e w' => e = .returned (.string ⟨#[110, 111, 110, 101]⟩) ∧ Below w.heap.size w w' := by
  go_enter Tryd.func83, Tryd.ntmps83
  go_wp2
  go_ret
  exact ⟨rfl, (Below.refl _ _).alloc (Nat.le_refl _) _⟩

theorem quote_text (s : ByteArray) (w : World) (hs : s.size ≤ 4) : Calls Tryd.prog 75 #[.string s] w fun e w' => e = .returned (.string ⟨(39 :: (s.data.toList ++ [39])).toArray⟩) ∧ w' = w := by
  go_enter Tryd.func75, Tryd.ntmps75
  go_wp2
  go_ret
  refine ⟨ret_str ?_, rfl⟩
  apply ByteArray.ext
  simp

theorem num_text (n : Int) (w : World) (h0 : -999 ≤ n) (h1 : n ≤ 999) (htab : Lib.TabIs Tryd.prog w "internal/strconv.uint64pow10" .u64 Lib.pow10Tab) : Calls Tryd.prog 79 #[.int .i64 n] w fun e w' => e = .returned (.string ⟨(Lib.itoa n).toArray⟩) ∧ Below w.heap.size w w' := by
  have Htab : Hid (Lib.TabIs Tryd.prog w "internal/strconv.uint64pow10" .u64 Lib.pow10Tab) := htab
  clear htab
  go_enter Tryd.func79, Tryd.ntmps79
  go_wp2_with fail
  refine (Tryd.strconv_Itoa _ (by omega) (by omega) _ Htab.out).mono ?_
  rintro e w2 ⟨rfl, q, os, rfl⟩
  go_wp2_with fail
  go_ret
  exact ⟨rfl, below_grow _ _ _⟩

theorem textV_no {k n : Int} {s : ByteArray} (h : valOk k n s = false) : textV k n s = [] := by unfold textV; rw [h]; rfl

/-- A value that is not right has the empty text. -/
theorem impl_text_no (k n : Int) (s : ByteArray) (w : World) (T : TypeId) (v : Value) (hv : ∀ w, Calls Tryd.prog 18 #[.agg #[.int .i64 k, .int .i64 n, .string s]] w fun e w' => e = .returned (.tuple #[.iface T v, .bool false]) ∧ Below w.heap.size w w') :
    Calls Tryd.prog 6 #[.agg #[.int .i64 k, .int .i64 n, .string s]] w fun e w' => e = .returned (.string ⟨#[]⟩) ∧ Below w.heap.size w w' := by
  have Hv : Hid (∀ w, Calls Tryd.prog 18 #[.agg #[.int .i64 k, .int .i64 n, .string s]] w fun e w' => e = .returned (.tuple #[.iface T v, .bool false]) ∧ Below w.heap.size w w') := hv
  clear hv
  go_enter Tryd.func6, Tryd.ntmps6
  go_wp2_with fail
  refine (Hv.out _).mono ?_
  rintro e w1 ⟨rfl, hb⟩
  go_wp2_with fail
  go_ret
  exact ⟨rfl, ((Below.refl _ _).alloc (Nat.le_refl _) _).trans (hb.mono (by simp))⟩

set_option maxHeartbeats 400000 in
theorem impl_text (k n : Int) (s : ByteArray) (w : World) (hs : s.size ≤ maxLen) (htab : Lib.TabIs Tryd.prog w "internal/strconv.uint64pow10" .u64 Lib.pow10Tab) :
    Calls Tryd.prog 6 #[.agg #[.int .i64 k, .int .i64 n, .string s]] w fun e w' => e = .returned (.string ⟨(textV k n s).toArray⟩) ∧ Below w.heap.size w w' := by
  cases hok : valOk k n s
  · rw [textV_no hok]
    by_cases h0 : k = 0
    · subst h0; exact impl_text_no 0 n s w _ _ (fun w => by have := value_none n s w; rw [hok] at this; exact this)
    · by_cases h1 : k = 1
      · subst h1; exact impl_text_no 1 n s w _ _ (fun w => by have := value_num n s w; rw [hok] at this; exact this)
      · by_cases h2 : k = 2
        · subst h2; exact impl_text_no 2 n s w _ _ (fun w => by have := value_text n s w hs; rw [hok] at this; exact this)
        · exact impl_text_no k n s w _ _ (fun w => by have := value_other k n s w (beq_eq_false_iff_ne.2 h0) (beq_eq_false_iff_ne.2 h1) (beq_eq_false_iff_ne.2 h2); rw [hok] at this; exact this)
  · have Htab : Hid (Lib.TabIs Tryd.prog w "internal/strconv.uint64pow10" .u64 Lib.pow10Tab) := htab
    clear htab
    by_cases h0 : k = 0
    · subst h0
      have e0 : textV 0 n s = [110, 111, 110, 101] := by unfold textV; rw [hok]; rfl
      rw [e0]
      have hm := m_none_text
      have Hok : Hid (valOk 0 n s = true) := hok
      clear hok e0
      go_enter Tryd.func6, Tryd.ntmps6
      go_wp2_with fail
      refine (value_none _ _ _).mono ?_
      rintro e w1 ⟨rfl, hb⟩
      rw [Hok.out]
      have Hb : Hid (Below w.heap.size w w1) := ((Below.refl _ _).alloc (Nat.le_refl _) _).trans (hb.mono (by simp))
      clear hb
      go_wp2_with fail
      refine (none_text _).mono ?_
      rintro e w2 ⟨rfl, hb⟩
      go_wp2_with fail
      go_ret
      exact ⟨rfl, Hb.out.trans (hb.mono Hb.out.size)⟩
    · by_cases h1 : k = 1
      · subst h1
        have e0 : textV 1 n s = Lib.itoa n := by unfold textV; rw [hok]; rfl
        rw [e0]
        have hr : -999 ≤ n ∧ n ≤ 999 := by simp [valOk] at hok; simpa [numOk] using hok.2
        have hm := m_num_text n
        have Hok : Hid (valOk 1 n s = true) := hok
        clear hok e0
        go_enter Tryd.func6, Tryd.ntmps6
        go_wp2_with fail
        refine (value_num _ _ _).mono ?_
        rintro e w1 ⟨rfl, hb⟩
        rw [Hok.out]
        have Hb : Hid (Below w.heap.size w w1) := ((Below.refl _ _).alloc (Nat.le_refl _) _).trans (hb.mono (by simp))
        clear hb
        go_wp2_with fail
        refine (num_text _ _ hr.1 hr.2 (Joins.tab_stays Tab.global Htab.out Hb.out (Nat.le_refl _))).mono ?_
        rintro e w2 ⟨rfl, hb⟩
        go_wp2_with fail
        go_ret
        exact ⟨rfl, Hb.out.trans (hb.mono Hb.out.size)⟩
      · have h2 : k = 2 := by
          unfold valOk at hok
          rw [if_neg h0, if_neg h1] at hok
          by_cases h2 : k = 2
          · exact h2
          · rw [if_neg h2] at hok; cases hok
        subst h2
        have e0 : textV 2 n s = 39 :: (s.data.toList ++ [39]) := by unfold textV; rw [hok]; rfl
        rw [e0]
        have h4 : s.size ≤ 4 := by simp [valOk, textOk] at hok; exact hok.2.2
        have hm := m_text_text s
        have Hok : Hid (valOk 2 n s = true) := hok
        clear hok e0 h0 h1
        go_enter Tryd.func6, Tryd.ntmps6
        go_wp2_with fail
        refine (value_text _ _ _ hs).mono ?_
        rintro e w1 ⟨rfl, hb⟩
        rw [Hok.out]
        have Hb : Hid (Below w.heap.size w w1) := ((Below.refl _ _).alloc (Nat.le_refl _) _).trans (hb.mono (by simp))
        clear hb
        go_wp2_with fail
        refine (quote_text _ _ h4).mono ?_
        rintro e w2 ⟨rfl, rfl⟩
        go_wp2_with fail
        go_ret
        exact ⟨rfl, Hb.out⟩

set_option maxHeartbeats 400000 in
theorem spec_text_no (k n : Int) (s : ByteArray) (w : World) (hs : s.size ≤ maxLen) (hok : valOk k n s = false) :
    Calls Tryd.prog 8 #[.agg #[.int .i64 k, .int .i64 n, .string s]] w fun e w' => e = .returned (.string ⟨#[]⟩) ∧ Below w.heap.size w w' := by
  go_enter Tryd.func8, Tryd.ntmps8
  go_wp2_with fail
  refine (spec_ok _ _ _ _ hs).mono ?_
  rintro e w1 ⟨rfl, hb⟩
  go_wp2_with fail
  go_ret
  exact ⟨rfl, ((Below.refl _ _).alloc (Nat.le_refl _) _).trans (hb.mono (by simp))⟩

set_option maxHeartbeats 400000 in
theorem spec_text_none (w : World) :
    Calls Tryd.prog 8 #[.agg #[.int .i64 0, .int .i64 0, .string ⟨#[]⟩]] w fun e w' => e = .returned (.string ⟨#[110, 111, 110, 101]⟩) ∧ Below w.heap.size w w' := by
  have hok : valOk 0 0 ⟨#[]⟩ = true := by simp [valOk]
  have hB := held_box w 0 0 ⟨#[]⟩ 24
  go_enter Tryd.func8, Tryd.ntmps8
  go_wp2_with fail
  refine (spec_ok _ _ _ _ (by decide)).mono ?_
  rintro e w1 ⟨rfl, hb⟩
  have h1 := held_next hB hb
  clear hB hb
  go_wp2_with fail
  go_ret
  exact ⟨rfl, h1.2.2.2.2⟩

theorem bytes_nil {s : ByteArray} (h : s.toList = []) : s = ⟨#[]⟩ := by
  rw [ByteArray.toList_eq] at h
  cases s
  simp at h
  rw [h]

theorem spec_text (k n : Int) (s : ByteArray) (w : World) (hs : s.size ≤ maxLen) :
    Calls Tryd.prog 8 #[.agg #[.int .i64 k, .int .i64 n, .string s]] w fun e w' => e = .returned (.string ⟨(textV k n s).toArray⟩) ∧ Below w.heap.size w w' := by
  cases hok : valOk k n s
  · rw [textV_no hok]; exact spec_text_no k n s w hs hok
  · have hok' := hok
    unfold textV
    rw [hok]
    unfold valOk at hok'
    by_cases h0 : k = 0
    · subst h0
      rw [if_pos rfl, Bool.and_eq_true] at hok'
      have hn : n = 0 := by simpa using hok'.1
      have hl : s = ⟨#[]⟩ := bytes_nil (by simpa using hok'.2)
      subst hn hl
      exact spec_text_none w
    · rw [if_neg h0] at hok'
      by_cases h1 : k = 1
      · subst h1
        rw [if_pos rfl, Bool.and_eq_true] at hok'
        have hl : s = ⟨#[]⟩ := bytes_nil (by simpa using hok'.1)
        subst hl
        exact text_num n w hok'.2
      · rw [if_neg h1] at hok'
        by_cases h2 : k = 2
        · subst h2
          rw [if_pos rfl, Bool.and_eq_true] at hok'
          have hn : n = 0 := by simpa using hok'.1
          subst hn
          exact text_text s w hs hok'.2
        · rw [if_neg h2] at hok'; cases hok'

end Go.Proofs.YtmfilahccefcoaaDoor
