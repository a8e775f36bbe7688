/- The contracts of l10Open and l1Draw, over the seat's translation. -/
import Derived.Test.YtgjhmpgofmmniaaG01
import Derived.Deep.RegionHeld3
import Derived.Test.YtgjhmpgofmmniaaRows
import Derived.WalkKit
import Derived.WalkSpells
import Derived.WalkLawsBesides
import Derived.Laws.RangeAny
import Derived.Laws.StructEq
namespace Go.Proofs.Ytgjhmpgofmmniaa
open Go.RowKit

theorem IsCode.less {B : Nat} {x : Option Addr} {len l : Nat} {W : World} (h : IsCode B x len W) (hl : l ≤ len) : IsCode B x l W := by
  rcases h with h | ⟨cb, co, hx, hlt, hc⟩
  · exact Or.inl (by omega)
  · exact Or.inr ⟨cb, co, hx, hlt, fun i hi => hc i (by omega)⟩

theorem rd_new (w : World) (B : Nat) (x : Option Addr) (len cap : Nat) (t : TypeId) (hB : B ≤ w.heap.size) (hl : len ≤ 2000) (hc : IsCode B x len w) : Rd B w.heap.size 0 (w.alloc (.cells #[.slice x len cap, .int .i64 0] t)) := by
  refine ⟨hB, by simp, x, len, cap, hl, ?_, ?_, ?_, hc.keep ((alloc_below w _).mono hB)⟩
  · go_simp
  · go_simp
  · go_simp

set_option maxHeartbeats 400000 in
theorem l10_open (B g : Nat) (x : Option Addr) (len cap : Nat) (w : World) (hgw : w.heap.size = g) (hB : B ≤ w.heap.size) (hlc : len ≤ cap) (hcap : cap ≤ maxLen) (hc : IsCode B x len w) :
    Calls Try.prog 27 #[.slice x len cap] w fun e w' => e = .returned (.pointer (some ⟨g, 0, none⟩)) ∧ Rd B g 0 w' ∧ Below w.heap.size w w' := by
  subst hgw
  unfold maxLen at hcap
  by_cases h : (2000 : Int) < len
  · have hx : ∃ cb co, x = some ⟨cb, co, none⟩ := by
      rcases hc with h0 | ⟨cb, co, hx, _⟩
      · omega
      · exact ⟨cb, co, hx⟩
    obtain ⟨cb, co, rfl⟩ := hx
    have Hc : Hid (IsCode B (some ⟨cb, co, none⟩) 2000 w) := hc.less (by omega)
    clear hc
    go_enter Try.func27, Try.ntmps27
    go_wp2
    go_ret
    exact ⟨rfl, rd_new w B _ _ _ _ hB (by omega) Hc.out, alloc_below _ _⟩
  · have Hc : Hid (IsCode B x len w) := hc
    clear hc
    go_enter Try.func27, Try.ntmps27
    go_wp2
    go_ret
    exact ⟨rfl, rd_new w B _ _ _ _ hB (by omega) Hc.out, alloc_below _ _⟩

set_option maxHeartbeats 1000000 in
theorem l1_draw (B g p : Nat) (w : World) (hr : Rd B g p w) (hp : p < 800000) :
    Calls Try.prog 43 #[.pointer (some ⟨g, 0, none⟩)] w fun e w' => ∃ (k n : Int) (s : ByteArray) (q : Nat), e = .returned (.agg #[.int .i64 k, .int .i64 n, .string s]) ∧ s.size ≤ 5 ∧ q ≤ p + 5 ∧ Rd B g q w' ∧ Upd g w w' := by
  have hg : g < w.heap.size := hr.2.1
  have hne : w.heap.size ≠ g := by omega
  have hBw : B ≤ w.heap.size := by have := hr.1; omega
  have b1 := alloc_below w (.cells #[.int .i64 0, .int .i64 0, .string ⟨#[]⟩] 27)
  have Hr : Hid (Rd B g p (w.alloc (.cells #[.int .i64 0, .int .i64 0, .string ⟨#[]⟩] 27))) := hr.keep b1
  have Hu0 : Hid (Upd g w (w.alloc (.cells #[.int .i64 0, .int .i64 0, .string ⟨#[]⟩] 27))) := Upd.ofBelow b1
  clear hr b1
  go_enter Try.func43, Try.ntmps43
  go_wp2_with fail
  refine (pick_any B g p _ _ Hr.out (by omega) (by omega) (by omega)).mono ?_
  rintro e w1 ⟨v, rfl, hv, hr1, hu1⟩
  have HX1 : Hid (Box3 w.heap.size (.int .i64 0) (.int .i64 0) (.string ⟨#[]⟩) w1) := (box3 w _ _ _ 27).upd hu1 hne
  have Hr1 : Hid (Rd B g (p + 1) w1) := hr1
  have Hu1 : Hid (Upd g w w1) := Hu0.out.trans hu1
  clear hr1 hu1 Hr Hu0
  go_wp2_with fail
  refine (l1_some B g (p + 1) _ _ Hr1.out (by omega)).mono ?_
  rintro e w2 ⟨k, n, s, q, rfl, hs, hq, hr2, hu2⟩
  have HX2 : Hid (Box3 w.heap.size (.int .i64 0) (.int .i64 0) (.string ⟨#[]⟩) w2) := HX1.out.upd hu2 hne
  have Hr2 : Hid (Rd B g q w2) := hr2
  have Hu2 : Hid (Upd g w w2) := Hu1.out.trans hu2
  clear hr2 hu2 Hr1 Hu1 HX1
  go_wp2_with fail
  refine (l1_bent B g q _ _ _ _ Hr2.out (by omega) hs).mono ?_
  rintro e w3 ⟨k', n', s', q', rfl, hs', hq', hr3, hu3⟩
  obtain ⟨_, c0, c1, c2, f0, f1, f2⟩ := HX2.out.upd hu3 hne
  have Hr3 : Hid (Rd B g q' w3) := hr3
  have Hu3 : Hid (Upd g w w3) := Hu2.out.trans hu3
  clear hr3 hu3 Hr2 Hu2 HX2
  go_wp2_with fail
  exact bodyPost_ret (v := .agg #[.int .i64 k', .int .i64 n', .string s']) (by simp [results, Try.results43, go_sem, c0, c1, c2]) rfl ⟨_, _, _, q', rfl, hs', by omega, Hr3.out.other (Upd.set3 _ _ _ _) hne (by omega), Hu3.out.other (Upd.set3 _ _ _ _) (by omega)⟩

theorem rd_on {B g q : Nat} {w2 : World} {o : Obj} (h : Rd B g q w2) : Rd B g q (w2.alloc o).drew := h.keep (alloc_below w2 o).drew
theorem box_on {b g : Nat} {x y z : Value} {w2 w3 : World} {o : Obj} (h : Box3 b x y z w2) (hu : Upd g (w2.alloc o).drew w3) (hne : b ≠ g) : Box3 b x y z w3 := (h.keep (alloc_below w2 o).drew).upd hu hne
theorem box_new {g : Nat} {x y z : Value} {w2 w3 : World} {t : TypeId} (hu : Upd g (w2.alloc (.cells #[x, y, z] t)).drew w3) (hne : w2.heap.size ≠ g) : w3.cell? ⟨w2.heap.size, 0, none⟩ = some x ∧ w3.cell? ⟨w2.heap.size, 1, none⟩ = some y ∧ w3.cell? ⟨w2.heap.size, 2, none⟩ = some z := by
  have h : Box3 w2.heap.size x y z (w2.alloc (.cells #[x, y, z] t)).drew := (box3 w2 x y z t).keep (Below.refl _ _).drew
  obtain ⟨_, a, b, c, _⟩ := h.upd hu hne
  exact ⟨a, b, c⟩
theorem below_on {B g : Nat} {w w2 w3 : World} {o : Obj} (h : Below B w w2) (hu : Upd g (w2.alloc o).drew w3) (hB : B ≤ g) (hs : B ≤ w2.heap.size) : Below B w w3 := by
  have h1 : Below w2.heap.size w2 (w2.alloc o).drew := (alloc_below w2 o).drew
  have hz := h1.size
  exact (h.trans (h1.mono hs)).trans (hu.below hB (by omega))

end Go.Proofs.Ytgjhmpgofmmniaa

/- Contracts of the specification's l1Num and of impl's letterOk, digitOk, signOk, numValue.val and textValue.val, over the seat's translation. -/
namespace Go.Proofs.Ytgjhmpgofmmniaa
open Go.RowKit

def numOk (n : Int) : Bool := decide (-999 ≤ n) && decide (n ≤ 999)
def sign (c : Int) : Bool := (decide (97 ≤ c) && decide (c ≤ 122)) || (decide (48 ≤ c) && decide (c ≤ 57)) || c == 45
def letter (c : Int) : Bool := decide (97 ≤ c) && decide (c ≤ 122)
def digit (c : Int) : Bool := decide (48 ≤ c) && decide (c ≤ 57)

theorem ret_bool {a b : Bool} (h : a = b) : Ending.returned (.bool a) = .returned (.bool b) := by rw [h]

theorem l1_num (n : Int) (w : World) : Calls Try.prog 49 #[.int .i64 n] w fun e w' => e = .returned (.bool (numOk n)) ∧ w' = w := by
  go_enter Try.func49, Try.ntmps49
  go_wp2
  all_goals
    go_ret
    refine ⟨ret_bool ?_, rfl⟩
    rw [Bool.eq_iff_iff]
    simp only [numOk, Bool.and_eq_true, decide_eq_true_eq, Bool.false_eq_true, false_iff]
    omega

theorem digit_ok (n : Int) (w : World) : Calls Try.prog 104 #[.int .i32 n] w fun e w' => e = .returned (.bool (digit n)) ∧ w' = w := by
  go_enter Try.func104, Try.ntmps104
  go_wp2
  all_goals
    go_ret
    refine ⟨ret_bool ?_, rfl⟩
    rw [Bool.eq_iff_iff]
    simp only [digit, Bool.and_eq_true, decide_eq_true_eq, Bool.false_eq_true, false_iff]
    omega

theorem letter_ok (n : Int) (w : World) : Calls Try.prog 103 #[.int .i32 n] w fun e w' => e = .returned (.bool (letter n)) ∧ w' = w := by
  go_enter Try.func103, Try.ntmps103
  go_wp2
  all_goals
    go_ret
    refine ⟨ret_bool ?_, rfl⟩
    rw [Bool.eq_iff_iff]
    simp only [letter, Bool.and_eq_true, decide_eq_true_eq, Bool.false_eq_true, false_iff]
    omega

theorem sign_ok (n : Int) (w : World) : Calls Try.prog 102 #[.int .i32 n] w fun e w' => e = .returned (.bool (sign n)) ∧ w' = w := by
  go_enter Try.func102, Try.ntmps102
  go_wp2_with (first
    | (go_at_call 103; refine (letter_ok _ _).mono ?_; rintro e w' ⟨rfl, rfl⟩)
    | (go_at_call 104; refine (digit_ok _ _).mono ?_; rintro e w' ⟨rfl, rfl⟩))
  all_goals
    go_ret
    refine ⟨ret_bool ?_, rfl⟩
    rw [Bool.eq_iff_iff]
    simp only [sign, letter, digit, Bool.and_eq_true, Bool.or_eq_true, beq_iff_eq, decide_eq_true_eq, true_iff] at *
    omega

theorem num_val (n : Int) (w : World) : Calls Try.prog 96 #[.int .i64 n] w fun e w' => e = .returned (.agg #[.int .i64 1, .int .i64 n, .string ⟨#[]⟩]) ∧ Below w.heap.size w w' := by
  go_enter Try.func96, Try.ntmps96
  go_wp2
  exact bodyPost_ret (v := .agg #[.int .i64 1, .int .i64 n, .string ⟨#[]⟩]) (by simp [results, Try.results96, go_sem]) rfl ⟨rfl, ((Below.refl _ _).alloc (Nat.le_refl _) _)⟩

theorem text_val (s : ByteArray) (w : World) : Calls Try.prog 101 #[.string s] w fun e w' => e = .returned (.agg #[.int .i64 2, .int .i64 0, .string s]) ∧ Below w.heap.size w w' := by
  go_enter Try.func101, Try.ntmps101
  go_wp2
  exact bodyPost_ret (v := .agg #[.int .i64 2, .int .i64 0, .string s]) (by simp [results, Try.results101, go_sem]) rfl ⟨rfl, ((Below.refl _ _).alloc (Nat.le_refl _) _)⟩

end Go.Proofs.Ytgjhmpgofmmniaa

/- Contracts of spec.l1Text and textValue.ok, over the seat's translation. -/
namespace Go.Proofs.Ytgjhmpgofmmniaa
open Go.RowKit

def signs (l : List UInt8) : Bool := l.all fun c => sign (c.toNat : Int)
def textOk (s : ByteArray) : Bool := signs s.data.toList && decide (s.size ≤ 4)

theorem take_snoc (s : ByteArray) (k : Nat) (h : k < s.size) : s.data.toList.take (k + 1) = s.data.toList.take k ++ [s[k]] := by
  rw [List.take_succ_eq_append_getElem (by simpa using h)]; rfl
theorem signs_next (s : ByteArray) (k : Nat) (h : k < s.size) (a : signs (s.data.toList.take k) = true) (b : sign (s[k].toNat : Int) = true) : signs (s.data.toList.take (k + 1)) = true := by
  rw [take_snoc s k h]; unfold signs at *; rw [List.all_append, a]; simp [b]
theorem signs_bad (s : ByteArray) (k : Nat) (h : k < s.size) (b : sign (s[k].toNat : Int) = false) : textOk s = false := by
  have e : signs s.data.toList = false := by
    unfold signs
    rw [List.all_eq_false]
    exact ⟨s[k], by simp [ByteArray.getElem_eq_getElem_data], by simp [b]⟩
  simp [textOk, e]
theorem signs_end (s : ByteArray) (k : Nat) (h : ¬ k < s.size) (a : signs (s.data.toList.take k) = true) : signs s.data.toList = true := by
  rw [List.take_of_length_le (by simp; omega)] at a; exact a

theorem sg_true {c : Int} (h : (97 ≤ c ∧ c ≤ 122) ∨ (48 ≤ c ∧ c ≤ 57) ∨ c = 45) : sign c = true := by
  simp only [sign, Bool.and_eq_true, Bool.or_eq_true, beq_iff_eq, decide_eq_true_eq]; omega
theorem sg_false {c : Int} (h : ¬ ((97 ≤ c ∧ c ≤ 122) ∨ (48 ≤ c ∧ c ≤ 57) ∨ c = 45)) : sign c = false := by
  rw [Bool.eq_false_iff]; simp only [sign, ne_eq, Bool.and_eq_true, Bool.or_eq_true, beq_iff_eq, decide_eq_true_eq]; omega

set_option maxHeartbeats 400000 in
theorem l1_text (s : ByteArray) (w : World) (hs : s.size ≤ maxLen) : Calls Try.prog 50 #[.string s] w fun e w' => e = .returned (.bool (textOk s)) ∧ w' = w := by
  unfold maxLen at hs
  go_enter Try.func50, Try.ntmps50
  go_wp2
  go_loop [3] (fun i => ∃ k : Nat, k ≤ s.size ∧ i = .int .i64 k ∧ Hid (signs (s.data.toList.take k) = true)) (fun i => s.size - (intOf i).toNat)
  case atStart => exact ⟨0, Nat.zero_le _, rfl, (rfl : signs (s.data.toList.take 0) = true)⟩
  case round =>
    obtain ⟨k, hk, rfl, hsg⟩ := hrel
    by_cases hlt : k < s.size
    · have hb : s[k].toNat < 256 := s[k].toNat_lt
      go_wp2
      all_goals
        try simp only [bne_iff_ne, ne_eq, bne_eq_false_iff_eq] at *
        first
          | (go_ret
             refine ⟨ret_bool ?_, rfl⟩
             rw [signs_bad s k hlt (sg_false (by omega))])
          | (go_round
             case rel => exact ⟨k + 1, by omega, by go_num, signs_next s k hlt hsg.out (sg_true (by omega))⟩
             case measure => simp [intOf]; omega)
    · go_wp2
      go_ret
      refine ⟨ret_bool ?_, rfl⟩
      unfold textOk
      rw [signs_end s k hlt hsg.out]
      simp only [Bool.true_and]
      rw [Bool.eq_iff_iff]
      simp only [decide_eq_true_eq]
      omega

theorem big_bad (s : ByteArray) (h : ¬ s.size ≤ 4) : textOk s = false := by simp [textOk, h]
theorem small_ok (s : ByteArray) (h : s.size ≤ 4) (a : signs s.data.toList = true) : textOk s = true := by simp [textOk, h, a]

set_option maxHeartbeats 400000 in
theorem text_ok (s : ByteArray) (w : World) (hs : s.size ≤ maxLen) : Calls Try.prog 99 #[.string s] w fun e w' => e = .returned (.bool (textOk s)) ∧ Below w.heap.size w w' := by
  unfold maxLen at hs
  by_cases h4 : (4 : Int) < s.size
  · go_enter Try.func99, Try.ntmps99
    go_wp2
    go_ret
    exact ⟨ret_bool (big_bad s (by omega)).symm, Below.refl _ _⟩
  · have h4' : s.size ≤ 4 := by omega
    go_enter Try.func99, Try.ntmps99
    go_wp2
    go_loopw [4] (fun _ w' => ∃ pos : Nat, w' = w.iter s pos ∧ pos ≤ s.size ∧ Hid (signs (s.data.toList.take pos) = true)) (fun _ w' => s.size - w'.iterPos w.heap.size)
    case atStart => exact ⟨0, rfl, Nat.zero_le _, (rfl : signs (s.data.toList.take 0) = true)⟩
    case round =>
      obtain ⟨pos, rfl, hpos, hsg⟩ := hrel
      by_cases hp : pos < s.size
      · by_cases ha : s[pos].toNat < 128
        · have hnx : ∀ ty, (Instr.next (.pointer (some ⟨w.heap.size, 0, none⟩)) true ty).run Try.prog (w.iter s pos) = _ := fun ty => run_next_ascii w s pos ty hp ha
          go_wp2_with (go_at_call 102; refine (sign_ok _ _).mono ?_; rintro e w' ⟨rfl, rfl⟩)
          · go_ret
            have hf : sign (s[pos].toNat : Int) = false := by simp_all
            exact ⟨ret_bool (signs_bad s pos hp hf).symm, (Below.refl _ _).alloc (Nat.le_refl _) _⟩
          · have ht : sign (s[pos].toNat : Int) = true := by simp_all
            go_roundw
            case rel => exact ⟨pos + 1, rfl, by omega, signs_next s pos hp hsg.out ht⟩
            case measure => simp; omega
        · have hnx : ∀ ty, (Instr.next (.pointer (some ⟨w.heap.size, 0, none⟩)) true ty).run Try.prog (w.iter s pos) = _ := fun ty => run_next_any w s pos ty hp
          have hd := (decode_high s pos hp (by omega)).1
          have hf : sign (s[pos].toNat : Int) = false := sg_false (by omega)
          have hg : sign ((Utf8.decode s pos).1 : Int) = false := sg_false (by omega)
          go_wp2_with (go_at_call 102; refine (sign_ok _ _).mono ?_; rintro e w' ⟨rfl, rfl⟩)
          go_ret
          exact ⟨ret_bool (signs_bad s pos hp hf).symm, (Below.refl _ _).alloc (Nat.le_refl _) _⟩
      · have hnx : ∀ ty, (Instr.next (.pointer (some ⟨w.heap.size, 0, none⟩)) true ty).run Try.prog (w.iter s pos) = _ := fun ty => run_next_end w s pos ty hp
        go_wp2
        go_ret
        exact ⟨ret_bool (small_ok s h4' (signs_end s pos hp hsg.out)).symm, (Below.refl _ _).alloc (Nat.le_refl _) _⟩

end Go.Proofs.Ytgjhmpgofmmniaa

/- Contract of spec.ValOk, and a box that holds a value, over the seat's translation. -/
namespace Go.Proofs.Ytgjhmpgofmmniaa
open Go.RowKit

def valOk (k n : Int) (s : ByteArray) : Bool :=
  if k = 0 then n == 0 && s.toList == [] else if k = 1 then s.toList == [] && numOk n else if k = 2 then n == 0 && textOk s else false

set_option maxHeartbeats 400000 in
theorem spec_ok (k n : Int) (s : ByteArray) (w : World) (hs : s.size ≤ maxLen) :
    Calls Try.prog 31 #[.agg #[.int .i64 k, .int .i64 n, .string s]] w fun e w' => e = .returned (.bool (valOk k n s)) ∧ Below w.heap.size w w' := by
  go_enter Try.func31, Try.ntmps31
  go_wp2_with (first
    | (go_at_call 49; refine (l1_num _ _).mono ?_; rintro e w' ⟨rfl, rfl⟩)
    | (go_at_call 50; refine (l1_text _ _ hs).mono ?_; rintro e w' ⟨rfl, rfl⟩))
  all_goals
    go_ret
    refine ⟨?_, (Below.refl _ _).alloc (Nat.le_refl _) _⟩
    simp_all [valOk]

theorem bcell {W w1 : World} (hb : Below W.heap.size W w1) : (∀ b o, b < W.heap.size → w1.cell? ⟨b, o, none⟩ = W.cell? ⟨b, o, none⟩) ∧ (∀ b o, b < W.heap.size → w1.frozen? ⟨b, o, none⟩ = W.frozen? ⟨b, o, none⟩) :=
  ⟨fun b o h => hb.cell (p := ⟨b, o, none⟩) h, fun b o h => hb.frozen (p := ⟨b, o, none⟩) h⟩

/-- The box at B holds the value in W, and W lies over w. -/
abbrev Held1 (w : World) (B : Nat) (k n : Int) (s : ByteArray) (W : World) : Prop :=
  W.cell? ⟨B, 0, none⟩ = some (.int .i64 k) ∧ W.cell? ⟨B, 1, none⟩ = some (.int .i64 n) ∧ W.cell? ⟨B, 2, none⟩ = some (.string s) ∧ B + 1 ≤ W.heap.size ∧ Below B w W

theorem held_next {w : World} {B : Nat} {k n : Int} {s : ByteArray} {W W' : World} (h : Held1 w B k n s W) (hb : Below W.heap.size W W') : Held1 w B k n s W' := by
  obtain ⟨a, b, c, g, i⟩ := h
  have hc := (bcell hb).1
  have hz := hb.size
  exact ⟨by rw [hc _ _ (by omega)]; exact a, by rw [hc _ _ (by omega)]; exact b, by rw [hc _ _ (by omega)]; exact c, by omega, i.trans (hb.mono (by omega))⟩
theorem held_drew {w : World} {B : Nat} {k n : Int} {s : ByteArray} {W : World} (h : Held1 w B k n s W) : Held1 w B k n s W.drew :=
  held_next h (Below.refl _ _).drew
theorem held_box (w : World) (k n : Int) (s : ByteArray) (t : TypeId) : Held1 w w.heap.size k n s (w.alloc (.cells #[.int .i64 k, .int .i64 n, .string s] t)) := by
  refine ⟨?_, ?_, ?_, ?_, ?_⟩
  · go_simp
  · go_simp
  · go_simp
  · simp
  · exact (Below.refl _ _).alloc (Nat.le_refl _) _

end Go.Proofs.Ytgjhmpgofmmniaa

/- Contracts of numValue.ok and of noneValue's ok and val, over the seat's translation. -/
namespace Go.Proofs.Ytgjhmpgofmmniaa
open Go.RowKit

theorem num_ok (n : Int) (w : World) : Calls Try.prog 94 #[.int .i64 n] w fun e w' => e = .returned (.bool (numOk n)) ∧ w' = w := by
  go_enter Try.func94, Try.ntmps94
  go_wp2
  all_goals
    go_ret
    refine ⟨ret_bool ?_, rfl⟩
    rw [Bool.eq_iff_iff]
    simp only [numOk, Bool.and_eq_true, decide_eq_true_eq, Bool.false_eq_true, false_iff]
    omega

theorem none_ok (w : World) : Calls Try.prog 89 #[.agg #[]] w fun e w' => e = .returned (.bool true) ∧ Below w.heap.size w w' := by
  go_enter Try.func89, Try.ntmps89
  go_wp2
  go_ret
  exact ⟨rfl, (Below.refl _ _).alloc (Nat.le_refl _) _⟩

theorem none_val (w : World) : Calls Try.prog 91 #[.agg #[]] w fun e w' => e = .returned (.agg #[.int .i64 0, .int .i64 0, .string ⟨#[]⟩]) ∧ Below w.heap.size w w' := by
  go_enter Try.func91, Try.ntmps91
  go_wp2
  exact bodyPost_ret (v := .agg #[.int .i64 0, .int .i64 0, .string ⟨#[]⟩]) (by simp [results, Try.results91, go_sem]) rfl ⟨rfl, (((Below.refl _ _).alloc (Nat.le_refl _) _).alloc (by simp) _)⟩

end Go.Proofs.Ytgjhmpgofmmniaa
