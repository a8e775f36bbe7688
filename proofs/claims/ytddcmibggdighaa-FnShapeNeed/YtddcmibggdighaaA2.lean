/- Contracts of spec.l1Text and textValue.ok, over the seat's translation. -/
import Derived.Test.YtddcmibggdighaaA1
import Derived.Laws.RangeAny
namespace Go.Proofs.Ytddcmibggdighaa
open Go.RowKit

def signs (l : List UInt8) : Bool := l.all fun c => sign (c.toNat : Int)
def textOk (s : ByteArray) : Bool := signs s.data.toList && decide (s.size ≤ 4)

theorem take_snoc (s : ByteArray) (k : Nat) (h : k < s.size) : s.data.toList.take (k + 1) = s.data.toList.take k ++ [s[k]] := by
  rw [List.take_succ_eq_append_getElem (by simpa using h)]; rfl
theorem signs_next (s : ByteArray) (k : Nat) (h : k < s.size) (a : signs (s.data.toList.take k) = true) (b : sign (s[k].toNat : Int) = true) : signs (s.data.toList.take (k + 1)) = true := by
  rw [take_snoc s k h]; unfold signs at *; rw [List.all_append, a]; simp [b]
theorem signs_bad (s : ByteArray) (k : Nat) (h : k < s.size) (b : sign (s[k].toNat : Int) = false) : textOk s = false := by
  have e : signs s.data.toList = false := by
    unfold signs
    rw [List.all_eq_false]
    exact ⟨s[k], by simp [ByteArray.getElem_eq_getElem_data], by simp [b]⟩
  simp [textOk, e]
theorem signs_end (s : ByteArray) (k : Nat) (h : ¬ k < s.size) (a : signs (s.data.toList.take k) = true) : signs s.data.toList = true := by
  rw [List.take_of_length_le (by simp; omega)] at a; exact a

theorem sg_true {c : Int} (h : (97 ≤ c ∧ c ≤ 122) ∨ (48 ≤ c ∧ c ≤ 57) ∨ c = 45) : sign c = true := by
  simp only [sign, Bool.and_eq_true, Bool.or_eq_true, beq_iff_eq, decide_eq_true_eq]; omega
theorem sg_false {c : Int} (h : ¬ ((97 ≤ c ∧ c ≤ 122) ∨ (48 ≤ c ∧ c ≤ 57) ∨ c = 45)) : sign c = false := by
  rw [Bool.eq_false_iff]; simp only [sign, ne_eq, Bool.and_eq_true, Bool.or_eq_true, beq_iff_eq, decide_eq_true_eq]; omega

set_option maxHeartbeats 400000 in
theorem l1_text (s : ByteArray) (w : World) (hs : s.size ≤ maxLen) : Calls Try.prog 32 #[.string s] w fun e w' => e = .returned (.bool (textOk s)) ∧ w' = w := by
  unfold maxLen at hs
  go_enter Try.func32, Try.ntmps32
  go_wp2
  go_loop [3] (fun i => ∃ k : Nat, k ≤ s.size ∧ i = .int .i64 k ∧ Hid (signs (s.data.toList.take k) = true)) (fun i => s.size - (intOf i).toNat)
  case atStart => exact ⟨0, Nat.zero_le _, rfl, (rfl : signs (s.data.toList.take 0) = true)⟩
  case round =>
    obtain ⟨k, hk, rfl, hsg⟩ := hrel
    by_cases hlt : k < s.size
    · have hb : s[k].toNat < 256 := s[k].toNat_lt
      go_wp2
      all_goals
        try simp only [bne_iff_ne, ne_eq, bne_eq_false_iff_eq] at *
        first
          | (go_ret
             refine ⟨ret_bool ?_, rfl⟩
             rw [signs_bad s k hlt (sg_false (by omega))])
          | (go_round
             case rel => exact ⟨k + 1, by omega, by go_num, signs_next s k hlt hsg.out (sg_true (by omega))⟩
             case measure => simp [intOf]; omega)
    · go_wp2
      go_ret
      refine ⟨ret_bool ?_, rfl⟩
      unfold textOk
      rw [signs_end s k hlt hsg.out]
      simp only [Bool.true_and]
      rw [Bool.eq_iff_iff]
      simp only [decide_eq_true_eq]
      omega

theorem big_bad (s : ByteArray) (h : ¬ s.size ≤ 4) : textOk s = false := by simp [textOk, h]
theorem small_ok (s : ByteArray) (h : s.size ≤ 4) (a : signs s.data.toList = true) : textOk s = true := by simp [textOk, h, a]

set_option maxHeartbeats 400000 in
theorem text_ok (s : ByteArray) (w : World) (hs : s.size ≤ maxLen) : Calls Try.prog 96 #[.string s] w fun e w' => e = .returned (.bool (textOk s)) ∧ Below w.heap.size w w' := by
  unfold maxLen at hs
  by_cases h4 : (4 : Int) < s.size
  · go_enter Try.func96, Try.ntmps96
    go_wp2
    go_ret
    exact ⟨ret_bool (big_bad s (by omega)).symm, Below.refl _ _⟩
  · have h4' : s.size ≤ 4 := by omega
    go_enter Try.func96, Try.ntmps96
    go_wp2
    go_loopw [4] (fun _ w' => ∃ pos : Nat, w' = w.iter s pos ∧ pos ≤ s.size ∧ Hid (signs (s.data.toList.take pos) = true)) (fun _ w' => s.size - w'.iterPos w.heap.size)
    case atStart => exact ⟨0, rfl, Nat.zero_le _, (rfl : signs (s.data.toList.take 0) = true)⟩
    case round =>
      obtain ⟨pos, rfl, hpos, hsg⟩ := hrel
      by_cases hp : pos < s.size
      · by_cases ha : s[pos].toNat < 128
        · have hnx : ∀ ty, (Instr.next (.pointer (some ⟨w.heap.size, 0, none⟩)) true ty).run Try.prog (w.iter s pos) = _ := fun ty => run_next_ascii w s pos ty hp ha
          go_wp2_with (go_at_call 99; refine (sign_ok _ _).mono ?_; rintro e w' ⟨rfl, rfl⟩)
          · go_ret
            have hf : sign (s[pos].toNat : Int) = false := by simp_all
            exact ⟨ret_bool (signs_bad s pos hp hf).symm, (Below.refl _ _).alloc (Nat.le_refl _) _⟩
          · have ht : sign (s[pos].toNat : Int) = true := by simp_all
            go_roundw
            case rel => exact ⟨pos + 1, rfl, by omega, signs_next s pos hp hsg.out ht⟩
            case measure => simp; omega
        · have hnx : ∀ ty, (Instr.next (.pointer (some ⟨w.heap.size, 0, none⟩)) true ty).run Try.prog (w.iter s pos) = _ := fun ty => run_next_any w s pos ty hp
          have hd := (decode_high s pos hp (by omega)).1
          have hf : sign (s[pos].toNat : Int) = false := sg_false (by omega)
          have hg : sign ((Utf8.decode s pos).1 : Int) = false := sg_false (by omega)
          go_wp2_with (go_at_call 99; refine (sign_ok _ _).mono ?_; rintro e w' ⟨rfl, rfl⟩)
          go_ret
          exact ⟨ret_bool (signs_bad s pos hp hf).symm, (Below.refl _ _).alloc (Nat.le_refl _) _⟩
      · have hnx : ∀ ty, (Instr.next (.pointer (some ⟨w.heap.size, 0, none⟩)) true ty).run Try.prog (w.iter s pos) = _ := fun ty => run_next_end w s pos ty hp
        go_wp2
        go_ret
        exact ⟨ret_bool (small_ok s h4' (signs_end s pos hp hsg.out)).symm, (Below.refl _ _).alloc (Nat.le_refl _) _⟩

end Go.Proofs.Ytddcmibggdighaa
