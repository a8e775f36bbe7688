/- Contracts of spec.l2Name and impl.nameOk: one to three letters; over the seat's translation. -/
import Derived.Test.YtddcmibggdighaaA2
namespace Go.Proofs.Ytddcmibggdighaa
open Go.RowKit

def lets (l : List UInt8) : Bool := l.all fun c => letter (c.toNat : Int)
def nameOk (s : ByteArray) : Bool := lets s.data.toList && (decide (1 ≤ s.size) && decide (s.size ≤ 3))

theorem lets_next (s : ByteArray) (k : Nat) (h : k < s.size) (a : lets (s.data.toList.take k) = true) (b : letter (s[k].toNat : Int) = true) : lets (s.data.toList.take (k + 1)) = true := by
  rw [take_snoc s k h]; unfold lets at *; rw [List.all_append, a]; simp [b]
theorem lets_bad (s : ByteArray) (k : Nat) (h : k < s.size) (b : letter (s[k].toNat : Int) = false) : nameOk s = false := by
  have e : lets s.data.toList = false := by
    unfold lets
    rw [List.all_eq_false]
    exact ⟨s[k], by simp [ByteArray.getElem_eq_getElem_data], by simp [b]⟩
  simp [nameOk, e]
theorem lets_end (s : ByteArray) (k : Nat) (h : ¬ k < s.size) (a : lets (s.data.toList.take k) = true) : lets s.data.toList = true := by
  rw [List.take_of_length_le (by simp; omega)] at a; exact a
theorem lt_true {c : Int} (h : 97 ≤ c ∧ c ≤ 122) : letter c = true := by
  simp only [letter, Bool.and_eq_true, decide_eq_true_eq]; omega
theorem lt_false {c : Int} (h : ¬ (97 ≤ c ∧ c ≤ 122)) : letter c = false := by
  rw [Bool.eq_false_iff]; simp only [letter, ne_eq, Bool.and_eq_true, decide_eq_true_eq]; omega

set_option maxHeartbeats 400000 in
theorem l2_name (s : ByteArray) (w : World) (hs : s.size ≤ maxLen) : Calls Try.prog 37 #[.string s] w fun e w' => e = .returned (.bool (nameOk s)) ∧ w' = w := by
  unfold maxLen at hs
  go_enter Try.func37, Try.ntmps37
  go_wp2
  go_loop [3] (fun i => ∃ k : Nat, k ≤ s.size ∧ i = .int .i64 k ∧ Hid (lets (s.data.toList.take k) = true)) (fun i => s.size - (intOf i).toNat)
  case atStart => exact ⟨0, Nat.zero_le _, rfl, (rfl : lets (s.data.toList.take 0) = true)⟩
  case round =>
    obtain ⟨k, hk, rfl, hsg⟩ := hrel
    by_cases hlt : k < s.size
    · have hb : s[k].toNat < 256 := s[k].toNat_lt
      go_wp2
      all_goals
        first
          | (go_ret
             refine ⟨ret_bool ?_, rfl⟩
             rw [lets_bad s k hlt (lt_false (by omega))])
          | (go_round
             case rel => exact ⟨k + 1, by omega, by go_num, lets_next s k hlt hsg.out (lt_true (by omega))⟩
             case measure => simp [intOf]; omega)
    · go_wp2
      all_goals
        go_ret
        refine ⟨ret_bool ?_, rfl⟩
        unfold nameOk
        rw [lets_end s k hlt hsg.out]
        simp only [Bool.true_and]
        rw [Bool.eq_iff_iff]
        simp only [Bool.and_eq_true, decide_eq_true_eq, Bool.false_eq_true, false_iff]
        omega

theorem long_bad (s : ByteArray) (h : ¬ s.size ≤ 3) : nameOk s = false := by simp [nameOk, h]
theorem none_bad (s : ByteArray) (h : s.size = 0) : nameOk s = false := by simp [nameOk, h]
theorem name_of (s : ByteArray) (h1 : 1 ≤ s.size) (h : s.size ≤ 3) (a : lets s.data.toList = true) : nameOk s = true := by simp [nameOk, h1, h, a]
theorem size_of_empty (s : ByteArray) (h : s.toList.isEmpty = true) : s.size = 0 := by
  rw [List.isEmpty_iff] at h
  have := congrArg List.length h
  simpa [ByteArray.toList_eq] using this
theorem empty_of_size (s : ByteArray) (h : s.size = 0) : s.toList = [] := by
  rw [← List.length_eq_zero_iff]; simpa [ByteArray.toList_eq] using h

set_option maxHeartbeats 400000 in
theorem name_ok (s : ByteArray) (w : World) (hs : s.size ≤ maxLen) : Calls Try.prog 35 #[.string s] w fun e w' => e = .returned (.bool (nameOk s)) ∧ Below w.heap.size w w' := by
  unfold maxLen at hs
  by_cases h0 : s.size = 0
  · have he := empty_of_size s h0
    go_enter Try.func35, Try.ntmps35
    go_wp2
    go_ret
    exact ⟨ret_bool (none_bad s h0).symm, Below.refl _ _⟩
  have hne : s.toList.isEmpty = false := by rw [Bool.eq_false_iff]; exact fun h => h0 (size_of_empty s h)
  by_cases h4 : (3 : Int) < s.size
  · go_enter Try.func35, Try.ntmps35
    go_wp2
    go_ret
    exact ⟨ret_bool (long_bad s (by omega)).symm, Below.refl _ _⟩
  · have h4' : s.size ≤ 3 := by omega
    go_enter Try.func35, Try.ntmps35
    go_wp2
    go_loopw [4] (fun _ w' => ∃ pos : Nat, w' = w.iter s pos ∧ pos ≤ s.size ∧ Hid (lets (s.data.toList.take pos) = true)) (fun _ w' => s.size - w'.iterPos w.heap.size)
    case atStart => exact ⟨0, rfl, Nat.zero_le _, (rfl : lets (s.data.toList.take 0) = true)⟩
    case round =>
      obtain ⟨pos, rfl, hpos, hsg⟩ := hrel
      by_cases hp : pos < s.size
      · by_cases ha : s[pos].toNat < 128
        · have hnx : ∀ ty, (Instr.next (.pointer (some ⟨w.heap.size, 0, none⟩)) true ty).run Try.prog (w.iter s pos) = _ := fun ty => run_next_ascii w s pos ty hp ha
          go_wp2_with (go_at_call 38; refine (letter_ok _ _).mono ?_; rintro e w' ⟨rfl, rfl⟩)
          · go_ret
            have hf : letter (s[pos].toNat : Int) = false := by simp_all
            exact ⟨ret_bool (lets_bad s pos hp hf).symm, (Below.refl _ _).alloc (Nat.le_refl _) _⟩
          · have ht : letter (s[pos].toNat : Int) = true := by simp_all
            go_roundw
            case rel => exact ⟨pos + 1, rfl, by omega, lets_next s pos hp hsg.out ht⟩
            case measure => simp; omega
        · have hnx : ∀ ty, (Instr.next (.pointer (some ⟨w.heap.size, 0, none⟩)) true ty).run Try.prog (w.iter s pos) = _ := fun ty => run_next_any w s pos ty hp
          have hd := (decode_high s pos hp (by omega)).1
          have hf : letter (s[pos].toNat : Int) = false := lt_false (by omega)
          have hg : letter ((Utf8.decode s pos).1 : Int) = false := lt_false (by omega)
          go_wp2_with (go_at_call 38; refine (letter_ok _ _).mono ?_; rintro e w' ⟨rfl, rfl⟩)
          go_ret
          exact ⟨ret_bool (lets_bad s pos hp hf).symm, (Below.refl _ _).alloc (Nat.le_refl _) _⟩
      · have hnx : ∀ ty, (Instr.next (.pointer (some ⟨w.heap.size, 0, none⟩)) true ty).run Try.prog (w.iter s pos) = _ := fun ty => run_next_end w s pos ty hp
        go_wp2
        go_ret
        exact ⟨ret_bool (name_of s (by omega) h4' (lets_end s pos hp hsg.out)).symm, (Below.refl _ _).alloc (Nat.le_refl _) _⟩

end Go.Proofs.Ytddcmibggdighaa
