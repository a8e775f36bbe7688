/- Contracts of the specification's l1Num and of impl's letterOk, digitOk, signOk, numValue.val and textValue.val, over the seat's translation. -/
import Derived.Test.YtobblnlefhkanaaRows
import Derived.WalkKit
import Derived.WalkSpells
import Derived.WalkLawsBesides
import Derived.Deep.RegionHeld3
import Derived.Laws.RangeAny
import Derived.Laws.StructEq
namespace Go.Proofs.Ytobblnlefhkanaa
open Go.RowKit

def numOk (n : Int) : Bool := decide (-999 ≤ n) && decide (n ≤ 999)
def sign (c : Int) : Bool := (decide (97 ≤ c) && decide (c ≤ 122)) || (decide (48 ≤ c) && decide (c ≤ 57)) || c == 45
def letter (c : Int) : Bool := decide (97 ≤ c) && decide (c ≤ 122)
def digit (c : Int) : Bool := decide (48 ≤ c) && decide (c ≤ 57)

theorem ret_bool {a b : Bool} (h : a = b) : Ending.returned (.bool a) = .returned (.bool b) := by rw [h]

theorem l1_num (n : Int) (w : World) : Calls Try.prog 45 #[.int .i64 n] w fun e w' => e = .returned (.bool (numOk n)) ∧ w' = w := by
  go_enter Try.func45, Try.ntmps45
  go_wp2
  all_goals
    go_ret
    refine ⟨ret_bool ?_, rfl⟩
    rw [Bool.eq_iff_iff]
    simp only [numOk, Bool.and_eq_true, decide_eq_true_eq, Bool.false_eq_true, false_iff]
    omega

theorem digit_ok (n : Int) (w : World) : Calls Try.prog 104 #[.int .i32 n] w fun e w' => e = .returned (.bool (digit n)) ∧ w' = w := by
  go_enter Try.func104, Try.ntmps104
  go_wp2
  all_goals
    go_ret
    refine ⟨ret_bool ?_, rfl⟩
    rw [Bool.eq_iff_iff]
    simp only [digit, Bool.and_eq_true, decide_eq_true_eq, Bool.false_eq_true, false_iff]
    omega

theorem letter_ok (n : Int) (w : World) : Calls Try.prog 103 #[.int .i32 n] w fun e w' => e = .returned (.bool (letter n)) ∧ w' = w := by
  go_enter Try.func103, Try.ntmps103
  go_wp2
  all_goals
    go_ret
    refine ⟨ret_bool ?_, rfl⟩
    rw [Bool.eq_iff_iff]
    simp only [letter, Bool.and_eq_true, decide_eq_true_eq, Bool.false_eq_true, false_iff]
    omega

theorem sign_ok (n : Int) (w : World) : Calls Try.prog 102 #[.int .i32 n] w fun e w' => e = .returned (.bool (sign n)) ∧ w' = w := by
  go_enter Try.func102, Try.ntmps102
  go_wp2_with (first
    | (go_at_call 103; refine (letter_ok _ _).mono ?_; rintro e w' ⟨rfl, rfl⟩)
    | (go_at_call 104; refine (digit_ok _ _).mono ?_; rintro e w' ⟨rfl, rfl⟩))
  all_goals
    go_ret
    refine ⟨ret_bool ?_, rfl⟩
    rw [Bool.eq_iff_iff]
    simp only [sign, letter, digit, Bool.and_eq_true, Bool.or_eq_true, beq_iff_eq, decide_eq_true_eq, true_iff] at *
    omega

theorem num_val (n : Int) (w : World) : Calls Try.prog 96 #[.int .i64 n] w fun e w' => e = .returned (.agg #[.int .i64 1, .int .i64 n, .string ⟨#[]⟩]) ∧ Below w.heap.size w w' := by
  go_enter Try.func96, Try.ntmps96
  go_wp2
  exact bodyPost_ret (v := .agg #[.int .i64 1, .int .i64 n, .string ⟨#[]⟩]) (by simp [results, Try.results96, go_sem]) rfl ⟨rfl, ((Below.refl _ _).alloc (Nat.le_refl _) _)⟩

theorem text_val (s : ByteArray) (w : World) : Calls Try.prog 101 #[.string s] w fun e w' => e = .returned (.agg #[.int .i64 2, .int .i64 0, .string s]) ∧ Below w.heap.size w w' := by
  go_enter Try.func101, Try.ntmps101
  go_wp2
  exact bodyPost_ret (v := .agg #[.int .i64 2, .int .i64 0, .string s]) (by simp [results, Try.results101, go_sem]) rfl ⟨rfl, ((Below.refl _ _).alloc (Nat.le_refl _) _)⟩

end Go.Proofs.Ytobblnlefhkanaa

/- Contracts of spec.l1Text and textValue.ok, over the seat's translation. -/
namespace Go.Proofs.Ytobblnlefhkanaa
open Go.RowKit

def signs (l : List UInt8) : Bool := l.all fun c => sign (c.toNat : Int)
def textOk (s : ByteArray) : Bool := signs s.data.toList && decide (s.size ≤ 4)

theorem take_snoc (s : ByteArray) (k : Nat) (h : k < s.size) : s.data.toList.take (k + 1) = s.data.toList.take k ++ [s[k]] := by
  rw [List.take_succ_eq_append_getElem (by simpa using h)]; rfl
theorem signs_next (s : ByteArray) (k : Nat) (h : k < s.size) (a : signs (s.data.toList.take k) = true) (b : sign (s[k].toNat : Int) = true) : signs (s.data.toList.take (k + 1)) = true := by
  rw [take_snoc s k h]; unfold signs at *; rw [List.all_append, a]; simp [b]
theorem signs_bad (s : ByteArray) (k : Nat) (h : k < s.size) (b : sign (s[k].toNat : Int) = false) : textOk s = false := by
  have e : signs s.data.toList = false := by
    unfold signs
    rw [List.all_eq_false]
    exact ⟨s[k], by simp [ByteArray.getElem_eq_getElem_data], by simp [b]⟩
  simp [textOk, e]
theorem signs_end (s : ByteArray) (k : Nat) (h : ¬ k < s.size) (a : signs (s.data.toList.take k) = true) : signs s.data.toList = true := by
  rw [List.take_of_length_le (by simp; omega)] at a; exact a

theorem sg_true {c : Int} (h : (97 ≤ c ∧ c ≤ 122) ∨ (48 ≤ c ∧ c ≤ 57) ∨ c = 45) : sign c = true := by
  simp only [sign, Bool.and_eq_true, Bool.or_eq_true, beq_iff_eq, decide_eq_true_eq]; omega
theorem sg_false {c : Int} (h : ¬ ((97 ≤ c ∧ c ≤ 122) ∨ (48 ≤ c ∧ c ≤ 57) ∨ c = 45)) : sign c = false := by
  rw [Bool.eq_false_iff]; simp only [sign, ne_eq, Bool.and_eq_true, Bool.or_eq_true, beq_iff_eq, decide_eq_true_eq]; omega

set_option maxHeartbeats 400000 in
theorem l1_text (s : ByteArray) (w : World) (hs : s.size ≤ maxLen) : Calls Try.prog 46 #[.string s] w fun e w' => e = .returned (.bool (textOk s)) ∧ w' = w := by
  unfold maxLen at hs
  go_enter Try.func46, Try.ntmps46
  go_wp2
  go_loop [3] (fun i => ∃ k : Nat, k ≤ s.size ∧ i = .int .i64 k ∧ Hid (signs (s.data.toList.take k) = true)) (fun i => s.size - (intOf i).toNat)
  case atStart => exact ⟨0, Nat.zero_le _, rfl, (rfl : signs (s.data.toList.take 0) = true)⟩
  case round =>
    obtain ⟨k, hk, rfl, hsg⟩ := hrel
    by_cases hlt : k < s.size
    · have hb : s[k].toNat < 256 := s[k].toNat_lt
      go_wp2
      all_goals
        try simp only [bne_iff_ne, ne_eq, bne_eq_false_iff_eq] at *
        first
          | (go_ret
             refine ⟨ret_bool ?_, rfl⟩
             rw [signs_bad s k hlt (sg_false (by omega))])
          | (go_round
             case rel => exact ⟨k + 1, by omega, by go_num, signs_next s k hlt hsg.out (sg_true (by omega))⟩
             case measure => simp [intOf]; omega)
    · go_wp2
      go_ret
      refine ⟨ret_bool ?_, rfl⟩
      unfold textOk
      rw [signs_end s k hlt hsg.out]
      simp only [Bool.true_and]
      rw [Bool.eq_iff_iff]
      simp only [decide_eq_true_eq]
      omega

theorem big_bad (s : ByteArray) (h : ¬ s.size ≤ 4) : textOk s = false := by simp [textOk, h]
theorem small_ok (s : ByteArray) (h : s.size ≤ 4) (a : signs s.data.toList = true) : textOk s = true := by simp [textOk, h, a]

set_option maxHeartbeats 400000 in
theorem text_ok (s : ByteArray) (w : World) (hs : s.size ≤ maxLen) : Calls Try.prog 99 #[.string s] w fun e w' => e = .returned (.bool (textOk s)) ∧ Below w.heap.size w w' := by
  unfold maxLen at hs
  by_cases h4 : (4 : Int) < s.size
  · go_enter Try.func99, Try.ntmps99
    go_wp2
    go_ret
    exact ⟨ret_bool (big_bad s (by omega)).symm, Below.refl _ _⟩
  · have h4' : s.size ≤ 4 := by omega
    go_enter Try.func99, Try.ntmps99
    go_wp2
    go_loopw [4] (fun _ w' => ∃ pos : Nat, w' = w.iter s pos ∧ pos ≤ s.size ∧ Hid (signs (s.data.toList.take pos) = true)) (fun _ w' => s.size - w'.iterPos w.heap.size)
    case atStart => exact ⟨0, rfl, Nat.zero_le _, (rfl : signs (s.data.toList.take 0) = true)⟩
    case round =>
      obtain ⟨pos, rfl, hpos, hsg⟩ := hrel
      by_cases hp : pos < s.size
      · by_cases ha : s[pos].toNat < 128
        · have hnx : ∀ ty, (Instr.next (.pointer (some ⟨w.heap.size, 0, none⟩)) true ty).run Try.prog (w.iter s pos) = _ := fun ty => run_next_ascii w s pos ty hp ha
          go_wp2_with (go_at_call 102; refine (sign_ok _ _).mono ?_; rintro e w' ⟨rfl, rfl⟩)
          · go_ret
            have hf : sign (s[pos].toNat : Int) = false := by simp_all
            exact ⟨ret_bool (signs_bad s pos hp hf).symm, (Below.refl _ _).alloc (Nat.le_refl _) _⟩
          · have ht : sign (s[pos].toNat : Int) = true := by simp_all
            go_roundw
            case rel => exact ⟨pos + 1, rfl, by omega, signs_next s pos hp hsg.out ht⟩
            case measure => simp; omega
        · have hnx : ∀ ty, (Instr.next (.pointer (some ⟨w.heap.size, 0, none⟩)) true ty).run Try.prog (w.iter s pos) = _ := fun ty => run_next_any w s pos ty hp
          have hd := (decode_high s pos hp (by omega)).1
          have hf : sign (s[pos].toNat : Int) = false := sg_false (by omega)
          have hg : sign ((Utf8.decode s pos).1 : Int) = false := sg_false (by omega)
          go_wp2_with (go_at_call 102; refine (sign_ok _ _).mono ?_; rintro e w' ⟨rfl, rfl⟩)
          go_ret
          exact ⟨ret_bool (signs_bad s pos hp hf).symm, (Below.refl _ _).alloc (Nat.le_refl _) _⟩
      · have hnx : ∀ ty, (Instr.next (.pointer (some ⟨w.heap.size, 0, none⟩)) true ty).run Try.prog (w.iter s pos) = _ := fun ty => run_next_end w s pos ty hp
        go_wp2
        go_ret
        exact ⟨ret_bool (small_ok s h4' (signs_end s pos hp hsg.out)).symm, (Below.refl _ _).alloc (Nat.le_refl _) _⟩

end Go.Proofs.Ytobblnlefhkanaa

/- Contract of spec.ValOk, and a box that holds a value, over the seat's translation. -/
namespace Go.Proofs.Ytobblnlefhkanaa
open Go.RowKit

def valOk (k n : Int) (s : ByteArray) : Bool :=
  if k = 0 then n == 0 && s.toList == [] else if k = 1 then s.toList == [] && numOk n else if k = 2 then n == 0 && textOk s else false

set_option maxHeartbeats 400000 in
theorem spec_ok (k n : Int) (s : ByteArray) (w : World) (hs : s.size ≤ maxLen) :
    Calls Try.prog 33 #[.agg #[.int .i64 k, .int .i64 n, .string s]] w fun e w' => e = .returned (.bool (valOk k n s)) ∧ Below w.heap.size w w' := by
  go_enter Try.func33, Try.ntmps33
  go_wp2_with (first
    | (go_at_call 45; refine (l1_num _ _).mono ?_; rintro e w' ⟨rfl, rfl⟩)
    | (go_at_call 46; refine (l1_text _ _ hs).mono ?_; rintro e w' ⟨rfl, rfl⟩))
  all_goals
    go_ret
    refine ⟨?_, (Below.refl _ _).alloc (Nat.le_refl _) _⟩
    simp_all [valOk]

theorem bcell {W w1 : World} (hb : Below W.heap.size W w1) : (∀ b o, b < W.heap.size → w1.cell? ⟨b, o, none⟩ = W.cell? ⟨b, o, none⟩) ∧ (∀ b o, b < W.heap.size → w1.frozen? ⟨b, o, none⟩ = W.frozen? ⟨b, o, none⟩) :=
  ⟨fun b o h => hb.cell (p := ⟨b, o, none⟩) h, fun b o h => hb.frozen (p := ⟨b, o, none⟩) h⟩

/-- The box at B holds the value in W, and W lies over w. -/
abbrev Held1 (w : World) (B : Nat) (k n : Int) (s : ByteArray) (W : World) : Prop :=
  W.cell? ⟨B, 0, none⟩ = some (.int .i64 k) ∧ W.cell? ⟨B, 1, none⟩ = some (.int .i64 n) ∧ W.cell? ⟨B, 2, none⟩ = some (.string s) ∧ B + 1 ≤ W.heap.size ∧ Below B w W

theorem held_next {w : World} {B : Nat} {k n : Int} {s : ByteArray} {W W' : World} (h : Held1 w B k n s W) (hb : Below W.heap.size W W') : Held1 w B k n s W' := by
  obtain ⟨a, b, c, g, i⟩ := h
  have hc := (bcell hb).1
  have hz := hb.size
  exact ⟨by rw [hc _ _ (by omega)]; exact a, by rw [hc _ _ (by omega)]; exact b, by rw [hc _ _ (by omega)]; exact c, by omega, i.trans (hb.mono (by omega))⟩
theorem held_drew {w : World} {B : Nat} {k n : Int} {s : ByteArray} {W : World} (h : Held1 w B k n s W) : Held1 w B k n s W.drew :=
  held_next h (Below.refl _ _).drew
theorem held_box (w : World) (k n : Int) (s : ByteArray) (t : TypeId) : Held1 w w.heap.size k n s (w.alloc (.cells #[.int .i64 k, .int .i64 n, .string s] t)) := by
  refine ⟨?_, ?_, ?_, ?_, ?_⟩
  · go_simp
  · go_simp
  · go_simp
  · simp
  · exact (Below.refl _ _).alloc (Nat.le_refl _) _

end Go.Proofs.Ytobblnlefhkanaa

/- Contracts of numValue.ok and of noneValue's ok and val, over the seat's translation. -/
namespace Go.Proofs.Ytobblnlefhkanaa
open Go.RowKit

theorem num_ok (n : Int) (w : World) : Calls Try.prog 94 #[.int .i64 n] w fun e w' => e = .returned (.bool (numOk n)) ∧ w' = w := by
  go_enter Try.func94, Try.ntmps94
  go_wp2
  all_goals
    go_ret
    refine ⟨ret_bool ?_, rfl⟩
    rw [Bool.eq_iff_iff]
    simp only [numOk, Bool.and_eq_true, decide_eq_true_eq, Bool.false_eq_true, false_iff]
    omega

theorem none_ok (w : World) : Calls Try.prog 89 #[.agg #[]] w fun e w' => e = .returned (.bool true) ∧ Below w.heap.size w w' := by
  go_enter Try.func89, Try.ntmps89
  go_wp2
  go_ret
  exact ⟨rfl, (Below.refl _ _).alloc (Nat.le_refl _) _⟩

theorem none_val (w : World) : Calls Try.prog 91 #[.agg #[]] w fun e w' => e = .returned (.agg #[.int .i64 0, .int .i64 0, .string ⟨#[]⟩]) ∧ Below w.heap.size w w' := by
  go_enter Try.func91, Try.ntmps91
  go_wp2
  exact bodyPost_ret (v := .agg #[.int .i64 0, .int .i64 0, .string ⟨#[]⟩]) (by simp [results, Try.results91, go_sem]) rfl ⟨rfl, (((Below.refl _ _).alloc (Nat.le_refl _) _).alloc (by simp) _)⟩

end Go.Proofs.Ytobblnlefhkanaa

/- The methods of the three kinds behind the interface, and the contract of impl.valueOf at a number, over the seat's translation. -/
namespace Go.Proofs.Ytobblnlefhkanaa
open Go.RowKit

theorem m_num_ok (n : Int) (w : World) : (method 215 92 (.int .i64 n) "loop.example/custumal/impl.ok").run Try.prog w = .ok (94, .int .i64 n) w := by kernel_rfl
theorem m_num_val (n : Int) (w : World) : (method 215 92 (.int .i64 n) "loop.example/custumal/impl.val").run Try.prog w = .ok (96, .int .i64 n) w := by kernel_rfl
theorem m_text_ok (s : ByteArray) (w : World) : (method 215 93 (.string s) "loop.example/custumal/impl.ok").run Try.prog w = .ok (99, .string s) w := by kernel_rfl
theorem m_text_val (s : ByteArray) (w : World) : (method 215 93 (.string s) "loop.example/custumal/impl.val").run Try.prog w = .ok (101, .string s) w := by kernel_rfl
theorem m_none_ok (w : World) : (method 215 91 (.agg #[]) "loop.example/custumal/impl.ok").run Try.prog w = .ok (89, .agg #[]) w := by kernel_rfl
theorem m_none_val (w : World) : (method 215 91 (.agg #[]) "loop.example/custumal/impl.val").run Try.prog w = .ok (91, .agg #[]) w := by kernel_rfl

set_option maxHeartbeats 400000 in
theorem value_num (n : Int) (s : ByteArray) (w : World) :
    Calls Try.prog 64 #[.agg #[.int .i64 1, .int .i64 n, .string s]] w fun e w' => e = .returned (.tuple #[.iface 92 (.int .i64 n), .bool (valOk 1 n s)]) ∧ Below w.heap.size w w' := by
  have hm1 := m_num_ok n
  have hm2 := m_num_val n
  have hB := held_box w 1 n s 36
  go_enter Try.func64, Try.ntmps64
  go_wp2
  cases hn : numOk n
  · clear hB
    first
      | (go_region_with (go_at_call 94; refine (num_ok _ _).mono ?_; rintro e w' ⟨rfl, rfl⟩))
      | fail
    all_goals
      go_wp2
      go_ret2
      refine ⟨?_, ((Below.refl _ _).alloc (Nat.le_refl _) _).drew⟩
      simp [valOk, hn, go_sem]
  · by_cases hse : s.toList = []
    all_goals
      go_region_held3 (fun W => Held1 w w.heap.size 1 n s W) (first | assumption | exact held_drew (by assumption))
        (first
          | (go_at_call 94; refine (num_ok _ _).mono ?_; rintro e w' ⟨rfl, rfl⟩)
          | (go_at_call 96; refine (num_val _ _).mono ?_; rintro e w' ⟨rfl, hb⟩; have hN := held_next (by assumption) hb; clear hb))
      go_wp2
      go_ret2
      have hE := ‹Held1 w w.heap.size 1 n s _›
      refine ⟨?_, hE.2.2.2.2⟩
      simp [valOk, hn, hse]

end Go.Proofs.Ytobblnlefhkanaa
