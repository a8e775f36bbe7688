/- Contract of spec.ValAs at every value and kind, over the seat's translation. -/
import Derived.Test.YtmdmlpijekilhaaDoorAs2
namespace Go.Proofs.YtmdmlpijekilhaaDoor
open Go.RowKit

set_option maxHeartbeats 400000 in
theorem spec_as_no (k n : Int) (s : ByteArray) (c : Int) (w : World) (hs : s.size ≤ maxLen) (hok : valOk k n s = false) :
    Calls Tryd.prog 15 #[.agg #[.int .i64 k, .int .i64 n, .string s], .int .i64 c] w fun e w' => e = .returned (.agg #[.int .i64 0, .int .i64 0, .string ⟨#[]⟩]) ∧ Below w.heap.size w w' := by
  obtain ⟨m, b, hN⟩ : ∃ m b, numL s.data.toList = (m, b) := ⟨_, _, rfl⟩
  have HN := (show Hid _ from hN)
  clear hN
  go_enter Tryd.func15, Tryd.ntmps15
  go_wp2_with fail
  refine (num_any _ _ hs).mono ?_
  rw [HN.out]
  rintro e w0 ⟨rfl, rfl⟩
  go_wp2_with fail
  refine (spec_ok _ _ _ _ hs).mono ?_
  rintro e w1 ⟨rfl, hb⟩
  obtain ⟨hc, hf⟩ := bcell hb
  have hz : w.heap.size + 2 ≤ w1.heap.size := by have := hb.size; simp at this; omega
  have hz0 : w.heap.size < w1.heap.size := by omega
  have hz1 : w.heap.size + 1 < w1.heap.size := by omega
  have Hb : Hid (Below w.heap.size w w1) := (((Below.refl _ _).alloc (Nat.le_refl _) _).alloc (by simp) _).trans (hb.mono (by simp; omega))
  clear hb
  go_wp2_with fail
  exact bodyPost_ret (v := .agg #[.int .i64 0, .int .i64 0, .string ⟨#[]⟩]) (by simp [results, Tryd.results15, go_sem, hc]) rfl ⟨rfl, ((Hb.out.setCell (by simp) _).setCell (by simp) _).setCell (by simp) _⟩

set_option maxHeartbeats 400000 in
theorem spec_as_lo (k n : Int) (s : ByteArray) (c : Int) (w : World) (hs : s.size ≤ maxLen) (hok : valOk k n s = true) (hlo : c < 1) :
    Calls Tryd.prog 15 #[.agg #[.int .i64 k, .int .i64 n, .string s], .int .i64 c] w fun e w' => e = .returned (.agg #[.int .i64 0, .int .i64 0, .string ⟨#[]⟩]) ∧ Below w.heap.size w w' := by
  obtain ⟨m, b, hN⟩ : ∃ m b, numL s.data.toList = (m, b) := ⟨_, _, rfl⟩
  have HN := (show Hid _ from hN)
  clear hN
  go_enter Tryd.func15, Tryd.ntmps15
  go_wp2_with fail
  refine (num_any _ _ hs).mono ?_
  rw [HN.out]
  rintro e w0 ⟨rfl, rfl⟩
  go_wp2_with fail
  refine (spec_ok _ _ _ _ hs).mono ?_
  rintro e w1 ⟨rfl, hb⟩
  obtain ⟨hc, hf⟩ := bcell hb
  have hz : w.heap.size + 2 ≤ w1.heap.size := by have := hb.size; simp at this; omega
  have hz0 : w.heap.size < w1.heap.size := by omega
  have hz1 : w.heap.size + 1 < w1.heap.size := by omega
  have Hb : Hid (Below w.heap.size w w1) := (((Below.refl _ _).alloc (Nat.le_refl _) _).alloc (by simp) _).trans (hb.mono (by simp; omega))
  clear hb
  go_wp2_with fail
  exact bodyPost_ret (v := .agg #[.int .i64 0, .int .i64 0, .string ⟨#[]⟩]) (by simp [results, Tryd.results15, go_sem, hc]) rfl ⟨rfl, ((Hb.out.setCell (by simp) _).setCell (by simp) _).setCell (by simp) _⟩

set_option maxHeartbeats 400000 in
theorem spec_as_hi (k n : Int) (s : ByteArray) (c : Int) (w : World) (hs : s.size ≤ maxLen) (hok : valOk k n s = true) (hlo : ¬ c < 1) (hhi : 2 < c) :
    Calls Tryd.prog 15 #[.agg #[.int .i64 k, .int .i64 n, .string s], .int .i64 c] w fun e w' => e = .returned (.agg #[.int .i64 0, .int .i64 0, .string ⟨#[]⟩]) ∧ Below w.heap.size w w' := by
  obtain ⟨m, b, hN⟩ : ∃ m b, numL s.data.toList = (m, b) := ⟨_, _, rfl⟩
  have HN := (show Hid _ from hN)
  clear hN
  go_enter Tryd.func15, Tryd.ntmps15
  go_wp2_with fail
  refine (num_any _ _ hs).mono ?_
  rw [HN.out]
  rintro e w0 ⟨rfl, rfl⟩
  go_wp2_with fail
  refine (spec_ok _ _ _ _ hs).mono ?_
  rintro e w1 ⟨rfl, hb⟩
  obtain ⟨hc, hf⟩ := bcell hb
  have hz : w.heap.size + 2 ≤ w1.heap.size := by have := hb.size; simp at this; omega
  have hz0 : w.heap.size < w1.heap.size := by omega
  have hz1 : w.heap.size + 1 < w1.heap.size := by omega
  have Hb : Hid (Below w.heap.size w w1) := (((Below.refl _ _).alloc (Nat.le_refl _) _).alloc (by simp) _).trans (hb.mono (by simp; omega))
  clear hb
  go_wp2_with fail
  exact bodyPost_ret (v := .agg #[.int .i64 0, .int .i64 0, .string ⟨#[]⟩]) (by simp [results, Tryd.results15, go_sem, hc]) rfl ⟨rfl, ((Hb.out.setCell (by simp) _).setCell (by simp) _).setCell (by simp) _⟩

set_option maxHeartbeats 400000 in
theorem spec_as_01 (n : Int) (s : ByteArray) (w : World) (hs : s.size ≤ maxLen) (hok : valOk 0 n s = true) :
    Calls Tryd.prog 15 #[.agg #[.int .i64 0, .int .i64 n, .string s], .int .i64 1] w fun e w' => e = .returned (.agg #[.int .i64 0, .int .i64 0, .string ⟨#[]⟩]) ∧ Below w.heap.size w w' := by
  obtain ⟨m, b, hN⟩ : ∃ m b, numL s.data.toList = (m, b) := ⟨_, _, rfl⟩
  have HN := (show Hid _ from hN)
  clear hN
  go_enter Tryd.func15, Tryd.ntmps15
  go_wp2_with fail
  refine (num_any _ _ hs).mono ?_
  rw [HN.out]
  rintro e w0 ⟨rfl, rfl⟩
  go_wp2_with fail
  refine (spec_ok _ _ _ _ hs).mono ?_
  rintro e w1 ⟨rfl, hb⟩
  obtain ⟨hc, hf⟩ := bcell hb
  have hz : w.heap.size + 2 ≤ w1.heap.size := by have := hb.size; simp at this; omega
  have hz0 : w.heap.size < w1.heap.size := by omega
  have hz1 : w.heap.size + 1 < w1.heap.size := by omega
  have Hb : Hid (Below w.heap.size w w1) := (((Below.refl _ _).alloc (Nat.le_refl _) _).alloc (by simp) _).trans (hb.mono (by simp; omega))
  clear hb
  go_wp2_with fail
  exact bodyPost_ret (v := .agg #[.int .i64 0, .int .i64 0, .string ⟨#[]⟩]) (by simp [results, Tryd.results15, go_sem, hc]) rfl ⟨rfl, ((Hb.out.setCell (by simp) _).setCell (by simp) _).setCell (by simp) _⟩

set_option maxHeartbeats 400000 in
theorem spec_as_02 (n : Int) (s : ByteArray) (w : World) (hs : s.size ≤ maxLen) (hok : valOk 0 n s = true) :
    Calls Tryd.prog 15 #[.agg #[.int .i64 0, .int .i64 n, .string s], .int .i64 2] w fun e w' => e = .returned (.agg #[.int .i64 0, .int .i64 0, .string ⟨#[]⟩]) ∧ Below w.heap.size w w' := by
  obtain ⟨m, b, hN⟩ : ∃ m b, numL s.data.toList = (m, b) := ⟨_, _, rfl⟩
  have HN := (show Hid _ from hN)
  clear hN
  go_enter Tryd.func15, Tryd.ntmps15
  go_wp2_with fail
  refine (num_any _ _ hs).mono ?_
  rw [HN.out]
  rintro e w0 ⟨rfl, rfl⟩
  go_wp2_with fail
  refine (spec_ok _ _ _ _ hs).mono ?_
  rintro e w1 ⟨rfl, hb⟩
  obtain ⟨hc, hf⟩ := bcell hb
  have hz : w.heap.size + 2 ≤ w1.heap.size := by have := hb.size; simp at this; omega
  have hz0 : w.heap.size < w1.heap.size := by omega
  have hz1 : w.heap.size + 1 < w1.heap.size := by omega
  have Hb : Hid (Below w.heap.size w w1) := (((Below.refl _ _).alloc (Nat.le_refl _) _).alloc (by simp) _).trans (hb.mono (by simp; omega))
  clear hb
  go_wp2_with fail
  exact bodyPost_ret (v := .agg #[.int .i64 0, .int .i64 0, .string ⟨#[]⟩]) (by simp [results, Tryd.results15, go_sem, hc]) rfl ⟨rfl, ((Hb.out.setCell (by simp) _).setCell (by simp) _).setCell (by simp) _⟩

set_option maxHeartbeats 400000 in
theorem spec_as_11 (n : Int) (s : ByteArray) (w : World) (hs : s.size ≤ maxLen) (hok : valOk 1 n s = true) :
    Calls Tryd.prog 15 #[.agg #[.int .i64 1, .int .i64 n, .string s], .int .i64 1] w fun e w' => e = .returned (.agg #[.int .i64 1, .int .i64 n, .string s]) ∧ Below w.heap.size w w' := by
  obtain ⟨m, b, hN⟩ : ∃ m b, numL s.data.toList = (m, b) := ⟨_, _, rfl⟩
  have HN := (show Hid _ from hN)
  clear hN
  go_enter Tryd.func15, Tryd.ntmps15
  go_wp2_with fail
  refine (num_any _ _ hs).mono ?_
  rw [HN.out]
  rintro e w0 ⟨rfl, rfl⟩
  go_wp2_with fail
  refine (spec_ok _ _ _ _ hs).mono ?_
  rintro e w1 ⟨rfl, hb⟩
  obtain ⟨hc, hf⟩ := bcell hb
  have hz : w.heap.size + 2 ≤ w1.heap.size := by have := hb.size; simp at this; omega
  have hz0 : w.heap.size < w1.heap.size := by omega
  have hz1 : w.heap.size + 1 < w1.heap.size := by omega
  have Hb : Hid (Below w.heap.size w w1) := (((Below.refl _ _).alloc (Nat.le_refl _) _).alloc (by simp) _).trans (hb.mono (by simp; omega))
  clear hb
  go_wp2_with fail
  exact bodyPost_ret (v := .agg #[.int .i64 1, .int .i64 n, .string s]) (by simp [results, Tryd.results15, go_sem, hc]) rfl ⟨rfl, ((Hb.out.setCell (by simp) _).setCell (by simp) _).setCell (by simp) _⟩

set_option maxHeartbeats 400000 in
theorem spec_as_22 (n : Int) (s : ByteArray) (w : World) (hs : s.size ≤ maxLen) (hok : valOk 2 n s = true) :
    Calls Tryd.prog 15 #[.agg #[.int .i64 2, .int .i64 n, .string s], .int .i64 2] w fun e w' => e = .returned (.agg #[.int .i64 2, .int .i64 n, .string s]) ∧ Below w.heap.size w w' := by
  obtain ⟨m, b, hN⟩ : ∃ m b, numL s.data.toList = (m, b) := ⟨_, _, rfl⟩
  have HN := (show Hid _ from hN)
  clear hN
  go_enter Tryd.func15, Tryd.ntmps15
  go_wp2_with fail
  refine (num_any _ _ hs).mono ?_
  rw [HN.out]
  rintro e w0 ⟨rfl, rfl⟩
  go_wp2_with fail
  refine (spec_ok _ _ _ _ hs).mono ?_
  rintro e w1 ⟨rfl, hb⟩
  obtain ⟨hc, hf⟩ := bcell hb
  have hz : w.heap.size + 2 ≤ w1.heap.size := by have := hb.size; simp at this; omega
  have hz0 : w.heap.size < w1.heap.size := by omega
  have hz1 : w.heap.size + 1 < w1.heap.size := by omega
  have Hb : Hid (Below w.heap.size w w1) := (((Below.refl _ _).alloc (Nat.le_refl _) _).alloc (by simp) _).trans (hb.mono (by simp; omega))
  clear hb
  go_wp2_with fail
  exact bodyPost_ret (v := .agg #[.int .i64 2, .int .i64 n, .string s]) (by simp [results, Tryd.results15, go_sem, hc]) rfl ⟨rfl, ((Hb.out.setCell (by simp) _).setCell (by simp) _).setCell (by simp) _⟩

set_option maxHeartbeats 400000 in
theorem spec_as_12 (n : Int) (s : ByteArray) (w : World) (hs : s.size ≤ maxLen) (hok : valOk 1 n s = true) (h0 : -999 ≤ n) (h1 : n ≤ 999) :
    Calls Tryd.prog 15 #[.agg #[.int .i64 1, .int .i64 n, .string s], .int .i64 2] w fun e w' => e = .returned (.agg #[.int .i64 2, .int .i64 0, .string ⟨(Lib.itoa n).toArray⟩]) ∧ Below w.heap.size w w' := by
  obtain ⟨m, b, hN⟩ : ∃ m b, numL s.data.toList = (m, b) := ⟨_, _, rfl⟩
  have HN := (show Hid _ from hN)
  clear hN
  go_enter Tryd.func15, Tryd.ntmps15
  go_wp2_with fail
  refine (num_any _ _ hs).mono ?_
  rw [HN.out]
  rintro e w0 ⟨rfl, rfl⟩
  go_wp2_with fail
  refine (spec_ok _ _ _ _ hs).mono ?_
  rintro e w1 ⟨rfl, hb⟩
  obtain ⟨hc, hf⟩ := bcell hb
  have hz : w.heap.size + 2 ≤ w1.heap.size := by have := hb.size; simp at this; omega
  have hz0 : w.heap.size < w1.heap.size := by omega
  have hz1 : w.heap.size + 1 < w1.heap.size := by omega
  have Hb : Hid (Below w.heap.size w w1) := (((Below.refl _ _).alloc (Nat.le_refl _) _).alloc (by simp) _).trans (hb.mono (by simp; omega))
  clear hb
  go_wp2_with fail
  refine (dec_any _ _ h0 h1).mono ?_
  rintro e w2 ⟨rfl, hb⟩
  obtain ⟨hc2, hf2⟩ := bcell hb
  have hy0 : w.heap.size < w2.heap.size := by have := hb.size; omega
  have hy1 : w.heap.size + 1 < w2.heap.size := by have := hb.size; omega
  replace Hb : Hid (Below w.heap.size w w2) := Hb.out.trans (hb.mono Hb.out.size)
  clear hb
  go_wp2_with fail
  exact bodyPost_ret (v := .agg #[.int .i64 2, .int .i64 0, .string ⟨(Lib.itoa n).toArray⟩]) (by simp [results, Tryd.results15, go_sem, hc, hz1, hc2]) rfl ⟨rfl, ((Hb.out.setCell (by simp) _).setCell (by simp) _).setCell (by simp) _⟩

set_option maxHeartbeats 400000 in
theorem spec_as_21f (n : Int) (s : ByteArray) (w : World) (hs : s.size ≤ maxLen) (hok : valOk 2 n s = true) (m : Int) (hN : numL s.data.toList = (m, false)) :
    Calls Tryd.prog 15 #[.agg #[.int .i64 2, .int .i64 n, .string s], .int .i64 1] w fun e w' => e = .returned (.agg #[.int .i64 0, .int .i64 0, .string ⟨#[]⟩]) ∧ Below w.heap.size w w' := by
  have HN := (show Hid _ from hN)
  clear hN
  go_enter Tryd.func15, Tryd.ntmps15
  go_wp2_with fail
  refine (num_any _ _ hs).mono ?_
  rw [HN.out]
  rintro e w0 ⟨rfl, rfl⟩
  go_wp2_with fail
  refine (spec_ok _ _ _ _ hs).mono ?_
  rintro e w1 ⟨rfl, hb⟩
  obtain ⟨hc, hf⟩ := bcell hb
  have hz : w.heap.size + 2 ≤ w1.heap.size := by have := hb.size; simp at this; omega
  have hz0 : w.heap.size < w1.heap.size := by omega
  have hz1 : w.heap.size + 1 < w1.heap.size := by omega
  have Hb : Hid (Below w.heap.size w w1) := (((Below.refl _ _).alloc (Nat.le_refl _) _).alloc (by simp) _).trans (hb.mono (by simp; omega))
  clear hb
  go_wp2_with fail
  exact bodyPost_ret (v := .agg #[.int .i64 0, .int .i64 0, .string ⟨#[]⟩]) (by simp [results, Tryd.results15, go_sem, hc]) rfl ⟨rfl, ((Hb.out.setCell (by simp) _).setCell (by simp) _).setCell (by simp) _⟩

set_option maxHeartbeats 400000 in
theorem spec_as_21b (n : Int) (s : ByteArray) (w : World) (hs : s.size ≤ maxLen) (hok : valOk 2 n s = true) (m : Int) (hN : numL s.data.toList = (m, true)) (hk : numOk m = false) :
    Calls Tryd.prog 15 #[.agg #[.int .i64 2, .int .i64 n, .string s], .int .i64 1] w fun e w' => e = .returned (.agg #[.int .i64 0, .int .i64 0, .string ⟨#[]⟩]) ∧ Below w.heap.size w w' := by
  have HN := (show Hid _ from hN)
  clear hN
  go_enter Tryd.func15, Tryd.ntmps15
  go_wp2_with fail
  refine (num_any _ _ hs).mono ?_
  rw [HN.out]
  rintro e w0 ⟨rfl, rfl⟩
  go_wp2_with fail
  refine (spec_ok _ _ _ _ hs).mono ?_
  rintro e w1 ⟨rfl, hb⟩
  obtain ⟨hc, hf⟩ := bcell hb
  have hz : w.heap.size + 2 ≤ w1.heap.size := by have := hb.size; simp at this; omega
  have hz0 : w.heap.size < w1.heap.size := by omega
  have hz1 : w.heap.size + 1 < w1.heap.size := by omega
  have Hb : Hid (Below w.heap.size w w1) := (((Below.refl _ _).alloc (Nat.le_refl _) _).alloc (by simp) _).trans (hb.mono (by simp; omega))
  clear hb
  go_wp2_with fail
  refine (l1_num _ _).mono ?_
  rintro e w2 ⟨rfl, rfl⟩
  go_wp2_with fail
  exact bodyPost_ret (v := .agg #[.int .i64 0, .int .i64 0, .string ⟨#[]⟩]) (by simp [results, Tryd.results15, go_sem, hc]) rfl ⟨rfl, ((Hb.out.setCell (by simp) _).setCell (by simp) _).setCell (by simp) _⟩

set_option maxHeartbeats 400000 in
theorem spec_as_21t (n : Int) (s : ByteArray) (w : World) (hs : s.size ≤ maxLen) (hok : valOk 2 n s = true) (m : Int) (hN : numL s.data.toList = (m, true)) (hk : numOk m = true) :
    Calls Tryd.prog 15 #[.agg #[.int .i64 2, .int .i64 n, .string s], .int .i64 1] w fun e w' => e = .returned (.agg #[.int .i64 1, .int .i64 m, .string ⟨#[]⟩]) ∧ Below w.heap.size w w' := by
  have HN := (show Hid _ from hN)
  clear hN
  go_enter Tryd.func15, Tryd.ntmps15
  go_wp2_with fail
  refine (num_any _ _ hs).mono ?_
  rw [HN.out]
  rintro e w0 ⟨rfl, rfl⟩
  go_wp2_with fail
  refine (spec_ok _ _ _ _ hs).mono ?_
  rintro e w1 ⟨rfl, hb⟩
  obtain ⟨hc, hf⟩ := bcell hb
  have hz : w.heap.size + 2 ≤ w1.heap.size := by have := hb.size; simp at this; omega
  have hz0 : w.heap.size < w1.heap.size := by omega
  have hz1 : w.heap.size + 1 < w1.heap.size := by omega
  have Hb : Hid (Below w.heap.size w w1) := (((Below.refl _ _).alloc (Nat.le_refl _) _).alloc (by simp) _).trans (hb.mono (by simp; omega))
  clear hb
  go_wp2_with fail
  refine (l1_num _ _).mono ?_
  rintro e w2 ⟨rfl, rfl⟩
  go_wp2_with fail
  exact bodyPost_ret (v := .agg #[.int .i64 1, .int .i64 m, .string ⟨#[]⟩]) (by simp [results, Tryd.results15, go_sem, hc]) rfl ⟨rfl, ((Hb.out.setCell (by simp) _).setCell (by simp) _).setCell (by simp) _⟩

theorem spec_as (k n : Int) (s : ByteArray) (c : Int) (w : World) (hs : s.size ≤ maxLen) :
    Calls Tryd.prog 15 #[.agg #[.int .i64 k, .int .i64 n, .string s], .int .i64 c] w fun e w' => e = .returned (valA (asV k n s c)) ∧ Below w.heap.size w w' := by
  cases hok : valOk k n s
  · rw [asV_no hok]; exact spec_as_no k n s c w hs hok
  · by_cases h1 : c = 1
    · subst h1
      rcases ok_kind hok with rfl | rfl | rfl
      · rw [asV_00]; exact spec_as_01 n s w hs hok
      · rw [asV_11 hok]
        have h := spec_as_11 n s w hs hok
        obtain ⟨e, _, _⟩ := ok_num hok
        subst e
        exact h
      · obtain ⟨m, b, hN⟩ : ∃ m b, numL s.data.toList = (m, b) := ⟨_, _, rfl⟩
        have hr := readNum_numL hN
        cases b
        · rw [asV_21n hok hr]; exact spec_as_21f n s w hs hok m hN
        · cases hk : numOk m
          · rw [hk] at hr
            rw [asV_21n hok hr]; exact spec_as_21b n s w hs hok m hN hk
          · rw [hk] at hr
            rw [asV_21s hok hr]; exact spec_as_21t n s w hs hok m hN hk
    · by_cases h2 : c = 2
      · subst h2
        rcases ok_kind hok with rfl | rfl | rfl
        · rw [asV_00]; exact spec_as_02 n s w hs hok
        · rw [asV_12 hok]
          obtain ⟨_, h3, h4⟩ := ok_num hok
          exact spec_as_12 n s w hs hok h3 h4
        · rw [asV_22 hok]
          have e : valA (2, 0, s.data.toList) = .agg #[.int .i64 2, .int .i64 0, .string s] := by unfold valA; rw [bytes_eta]
          rw [e]
          have h := spec_as_22 n s w hs hok
          obtain ⟨e, _⟩ := ok_text hok
          subst e
          exact h
      · rw [asV_other h1 h2]
        by_cases hl : c < 1
        · exact spec_as_lo k n s c w hs hok hl
        · exact spec_as_hi k n s c w hs hok hl (by omega)

end Go.Proofs.YtmdmlpijekilhaaDoor
