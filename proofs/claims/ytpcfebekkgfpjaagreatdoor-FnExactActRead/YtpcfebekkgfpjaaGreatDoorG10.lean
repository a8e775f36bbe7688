/- Contracts of impl.ValRead, spec.ValRead and laws.eqVal, over the seat's translation. -/
import Derived.Test.YtpcfebekkgfpjaaGreatDoorG08
import Derived.Test.YtpcfebekkgfpjaaGreatDoorG09
namespace Go.Proofs.YtpcfebekkgfpjaaGreatDoor
open Go.RowKit

/-- What is read: kind, number, text, and whether there is a value. -/
def readV (l : List UInt8) : Int × Int × List UInt8 × Bool :=
  if l = [110, 111, 110, 101] then (0, 0, [], true)
  else if quoted l && textOk ⟨(inner l).toArray⟩ then (2, 0, inner l, true)
  else match readNum l with
    | some n => (1, n, [], true)
    | none => (0, 0, [], false)

theorem inner_le (l : List UInt8) : (inner l).length ≤ l.length := by
  unfold inner Lib.trimSuffix
  have := trim_len l [39]
  split <;> simp <;> omega

theorem readV_none {l : List UInt8} (h : l = [110, 111, 110, 101]) : readV l = (0, 0, [], true) := by unfold readV; rw [if_pos h]
theorem readV_text {l : List UInt8} (h : ¬ l = [110, 111, 110, 101]) (hq : quoted l = true) (ht : textOk ⟨(inner l).toArray⟩ = true) : readV l = (2, 0, inner l, true) := by unfold readV; rw [if_neg h, hq, ht]; rfl
theorem readV_num {l : List UInt8} {n : Int} (h : ¬ l = [110, 111, 110, 101]) (hq : (quoted l && textOk ⟨(inner l).toArray⟩) = false) (hn : readNum l = some n) : readV l = (1, n, [], true) := by unfold readV; rw [if_neg h, hq, hn]; rfl
theorem readV_not {l : List UInt8} (h : ¬ l = [110, 111, 110, 101]) (hq : (quoted l && textOk ⟨(inner l).toArray⟩) = false) (hn : readNum l = none) : readV l = (0, 0, [], false) := by unfold readV; rw [if_neg h, hq, hn]; rfl

set_option maxHeartbeats 1000000 in
theorem impl_read_none (t : ByteArray) (w : World) (hnone : t.data.toList = [110, 111, 110, 101]) :
    Calls Tryz.prog 93 #[.string t] w fun e w' => e = .returned (.tuple #[.agg #[.int .i64 0, .int .i64 0, .string ⟨#[]⟩], .bool true]) ∧ Below w.heap.size w w' := by
  have hn2 : t.toList = [110, 111, 110, 101] := by rw [Lib.toList_data]; exact hnone
  clear hnone
  go_enter Tryz.func93, Tryz.ntmps93
  go_wp2_with fail
  exact bodyPost_ret (v := .tuple #[.agg #[.int .i64 0, .int .i64 0, .string ⟨#[]⟩], .bool true]) (by simp [results, Tryz.results93, go_sem]) rfl ⟨rfl, (Below.refl _ _).alloc (Nat.le_refl _) _⟩

set_option maxHeartbeats 1000000 in
theorem impl_read_text (t : ByteArray) (w : World) (ht : t.size ≤ maxLen) (hnone : ¬ t.data.toList = [110, 111, 110, 101]) (hq : quoted t.data.toList = true) (hk : textOk ⟨(inner t.data.toList).toArray⟩ = true) :
    Calls Tryz.prog 93 #[.string t] w fun e w' => e = .returned (.tuple #[.agg #[.int .i64 2, .int .i64 0, .string ⟨(inner t.data.toList).toArray⟩], .bool true]) ∧ Below w.heap.size w w' := by
  have hn2 : (t.toList == [110, 111, 110, 101]) = false := by rw [beq_eq_false_iff_ne, Lib.toList_data]; exact hnone
  clear hnone
  have hil : (⟨(inner t.data.toList).toArray⟩ : ByteArray).size ≤ maxLen := by have := inner_le t.data.toList; rw [len_of] at this; show (inner t.data.toList).length ≤ _; omega
  go_enter Tryz.func93, Tryz.ntmps93
  go_wp2_with fail
  refine (unquote_any _ _ ht).mono ?_
  rintro e w1 ⟨rfl, rfl⟩
  go_wp2_with fail
  refine (text_ok _ _ hil).mono ?_
  rintro e w2 ⟨rfl, hb⟩
  obtain ⟨hc, hf⟩ := bcell hb
  have hz : w.heap.size < w2.heap.size := by have := hb.size; simp at this; omega
  go_wp2_with fail
  refine (text_val _ _).mono ?_
  rintro e w3 ⟨rfl, hb3⟩
  obtain ⟨hc3, hf3⟩ := bcell hb3
  go_wp2_with fail
  exact bodyPost_ret (v := .tuple #[.agg #[.int .i64 2, .int .i64 0, .string ⟨(inner t.data.toList).toArray⟩], .bool true]) (by simp [results, Tryz.results93, go_sem, hc, hz, hc3]) rfl ⟨rfl, (((((((Below.refl _ _).alloc (Nat.le_refl _) _).trans (hb.mono (by simp))).trans (hb3.mono (by omega))).setCell (Nat.le_refl _) _).setCell (Nat.le_refl _) _).setCell (Nat.le_refl _) _)⟩

set_option maxHeartbeats 1000000 in
theorem impl_read_qs (t : ByteArray) (w : World) (ht : t.size ≤ maxLen) (htab : Lib.TabIs Tryz.prog w "internal/strconv.uint64pow10" .u64 Lib.pow10Tab) (hnone : ¬ t.data.toList = [110, 111, 110, 101]) (hq : quoted t.data.toList = true) (hk : textOk ⟨(inner t.data.toList).toArray⟩ = false) (n : Int) (hn : readNum t.data.toList = some n) :
    Calls Tryz.prog 93 #[.string t] w fun e w' => e = .returned (.tuple #[.agg #[.int .i64 1, .int .i64 n, .string ⟨#[]⟩], .bool true]) ∧ Below w.heap.size w w' := by
  have hn2 : (t.toList == [110, 111, 110, 101]) = false := by rw [beq_eq_false_iff_ne, Lib.toList_data]; exact hnone
  have Htab : Hid (Lib.TabIs Tryz.prog w "internal/strconv.uint64pow10" .u64 Lib.pow10Tab) := htab
  clear hnone htab
  have Hn : Hid (readNum t.data.toList = some n) := hn
  clear hn
  have hil : (⟨(inner t.data.toList).toArray⟩ : ByteArray).size ≤ maxLen := by have := inner_le t.data.toList; rw [len_of] at this; show (inner t.data.toList).length ≤ _; omega
  go_enter Tryz.func93, Tryz.ntmps93
  go_wp2_with fail
  refine (unquote_any _ _ ht).mono ?_
  rintro e w1 ⟨rfl, rfl⟩
  go_wp2_with fail
  refine (text_ok _ _ hil).mono ?_
  rintro e w2 ⟨rfl, hb⟩
  obtain ⟨hc, hf⟩ := bcell hb
  have hz : w.heap.size < w2.heap.size := by have := hb.size; simp at this; omega
  have hB2 : Below w.heap.size w w2 := ((Below.refl _ _).alloc (Nat.le_refl _) _).trans (hb.mono (by simp))
  have Ht2 : Hid _ := Joins.tab_stays Tab.global Htab.out hB2 (Nat.le_refl _)
  have HB2 : Hid _ := hB2
  clear hB2
  go_wp2_with fail
  refine (read_number _ _ ht Ht2.out _ Hn.out).mono ?_
  rintro e w3 ⟨rfl, hb3⟩
  obtain ⟨hc3, hf3⟩ := bcell hb3
  have hz3 : w.heap.size < w3.heap.size := by have := hb3.size; omega
  go_wp2_with fail
  refine (num_val _ _).mono ?_
  rintro e w4 ⟨rfl, hb4⟩
  obtain ⟨hc4, hf4⟩ := bcell hb4
  go_wp2_with fail
  exact bodyPost_ret (v := .tuple #[.agg #[.int .i64 1, .int .i64 n, .string ⟨#[]⟩], .bool true]) (by simp [results, Tryz.results93, go_sem, hc, hz, hc3, hz3, hc4]) rfl ⟨rfl, ((((HB2.out.trans (hb3.mono (by omega))).trans (hb4.mono (by omega))).setCell (Nat.le_refl _) _).setCell (Nat.le_refl _) _).setCell (Nat.le_refl _) _⟩

set_option maxHeartbeats 1000000 in
theorem impl_read_qn (t : ByteArray) (w : World) (ht : t.size ≤ maxLen) (htab : Lib.TabIs Tryz.prog w "internal/strconv.uint64pow10" .u64 Lib.pow10Tab) (hnone : ¬ t.data.toList = [110, 111, 110, 101]) (hq : quoted t.data.toList = true) (hk : textOk ⟨(inner t.data.toList).toArray⟩ = false) (hn : readNum t.data.toList = none) :
    Calls Tryz.prog 93 #[.string t] w fun e w' => e = .returned (.tuple #[.agg #[.int .i64 0, .int .i64 0, .string ⟨#[]⟩], .bool false]) ∧ Below w.heap.size w w' := by
  have hn2 : (t.toList == [110, 111, 110, 101]) = false := by rw [beq_eq_false_iff_ne, Lib.toList_data]; exact hnone
  have Htab : Hid (Lib.TabIs Tryz.prog w "internal/strconv.uint64pow10" .u64 Lib.pow10Tab) := htab
  clear hnone htab
  have Hn : Hid (readNum t.data.toList = none) := hn
  clear hn
  have hil : (⟨(inner t.data.toList).toArray⟩ : ByteArray).size ≤ maxLen := by have := inner_le t.data.toList; rw [len_of] at this; show (inner t.data.toList).length ≤ _; omega
  go_enter Tryz.func93, Tryz.ntmps93
  go_wp2_with fail
  refine (unquote_any _ _ ht).mono ?_
  rintro e w1 ⟨rfl, rfl⟩
  go_wp2_with fail
  refine (text_ok _ _ hil).mono ?_
  rintro e w2 ⟨rfl, hb⟩
  obtain ⟨hc, hf⟩ := bcell hb
  have hz : w.heap.size < w2.heap.size := by have := hb.size; simp at this; omega
  have hB2 : Below w.heap.size w w2 := ((Below.refl _ _).alloc (Nat.le_refl _) _).trans (hb.mono (by simp))
  have Ht2 : Hid _ := Joins.tab_stays Tab.global Htab.out hB2 (Nat.le_refl _)
  have HB2 : Hid _ := hB2
  clear hB2
  go_wp2_with fail
  refine (read_number _ _ ht Ht2.out _ Hn.out).mono ?_
  rintro e w3 ⟨rfl, hb3⟩
  obtain ⟨hc3, hf3⟩ := bcell hb3
  have hz3 : w.heap.size < w3.heap.size := by have := hb3.size; omega
  go_wp2_with fail
  exact bodyPost_ret (v := .tuple #[.agg #[.int .i64 0, .int .i64 0, .string ⟨#[]⟩], .bool false]) (by simp [results, Tryz.results93, go_sem, hc, hz, hc3]) rfl ⟨rfl, (((HB2.out.trans (hb3.mono (by omega))).setCell (Nat.le_refl _) _).setCell (Nat.le_refl _) _).setCell (Nat.le_refl _) _⟩

set_option maxHeartbeats 1000000 in
theorem impl_read_ps (t : ByteArray) (w : World) (ht : t.size ≤ maxLen) (htab : Lib.TabIs Tryz.prog w "internal/strconv.uint64pow10" .u64 Lib.pow10Tab) (hnone : ¬ t.data.toList = [110, 111, 110, 101]) (hq : quoted t.data.toList = false) (n : Int) (hn : readNum t.data.toList = some n) :
    Calls Tryz.prog 93 #[.string t] w fun e w' => e = .returned (.tuple #[.agg #[.int .i64 1, .int .i64 n, .string ⟨#[]⟩], .bool true]) ∧ Below w.heap.size w w' := by
  have hn2 : (t.toList == [110, 111, 110, 101]) = false := by rw [beq_eq_false_iff_ne, Lib.toList_data]; exact hnone
  have Htab : Hid (Lib.TabIs Tryz.prog w "internal/strconv.uint64pow10" .u64 Lib.pow10Tab) := htab
  clear hnone htab
  have Hn : Hid (readNum t.data.toList = some n) := hn
  clear hn
  go_enter Tryz.func93, Tryz.ntmps93
  go_wp2_with fail
  refine (unquote_any _ _ ht).mono ?_
  rintro e w1 ⟨rfl, rfl⟩
  have hB2 : Below w.heap.size w (w.alloc (.cells #[.int .i64 0, .int .i64 0, .string ⟨#[]⟩] 26)) := (Below.refl _ _).alloc (Nat.le_refl _) _
  have Ht2 : Hid _ := Joins.tab_stays Tab.global Htab.out hB2 (Nat.le_refl _)
  have HB2 : Hid _ := hB2
  clear hB2
  go_wp2_with fail
  refine (read_number _ _ ht Ht2.out _ Hn.out).mono ?_
  rintro e w3 ⟨rfl, hb3⟩
  obtain ⟨hc3, hf3⟩ := bcell hb3
  have hz3 : w.heap.size < w3.heap.size := by have := hb3.size; simp at this; omega
  go_wp2_with fail
  refine (num_val _ _).mono ?_
  rintro e w4 ⟨rfl, hb4⟩
  obtain ⟨hc4, hf4⟩ := bcell hb4
  go_wp2_with fail
  exact bodyPost_ret (v := .tuple #[.agg #[.int .i64 1, .int .i64 n, .string ⟨#[]⟩], .bool true]) (by simp [results, Tryz.results93, go_sem, hc3, hz3, hc4]) rfl ⟨rfl, ((((HB2.out.trans (hb3.mono (by simp))).trans (hb4.mono (by omega))).setCell (Nat.le_refl _) _).setCell (Nat.le_refl _) _).setCell (Nat.le_refl _) _⟩

set_option maxHeartbeats 1000000 in
theorem impl_read_pn (t : ByteArray) (w : World) (ht : t.size ≤ maxLen) (htab : Lib.TabIs Tryz.prog w "internal/strconv.uint64pow10" .u64 Lib.pow10Tab) (hnone : ¬ t.data.toList = [110, 111, 110, 101]) (hq : quoted t.data.toList = false) (hn : readNum t.data.toList = none) :
    Calls Tryz.prog 93 #[.string t] w fun e w' => e = .returned (.tuple #[.agg #[.int .i64 0, .int .i64 0, .string ⟨#[]⟩], .bool false]) ∧ Below w.heap.size w w' := by
  have hn2 : (t.toList == [110, 111, 110, 101]) = false := by rw [beq_eq_false_iff_ne, Lib.toList_data]; exact hnone
  have Htab : Hid (Lib.TabIs Tryz.prog w "internal/strconv.uint64pow10" .u64 Lib.pow10Tab) := htab
  clear hnone htab
  have Hn : Hid (readNum t.data.toList = none) := hn
  clear hn
  go_enter Tryz.func93, Tryz.ntmps93
  go_wp2_with fail
  refine (unquote_any _ _ ht).mono ?_
  rintro e w1 ⟨rfl, rfl⟩
  have hB2 : Below w.heap.size w (w.alloc (.cells #[.int .i64 0, .int .i64 0, .string ⟨#[]⟩] 26)) := (Below.refl _ _).alloc (Nat.le_refl _) _
  have Ht2 : Hid _ := Joins.tab_stays Tab.global Htab.out hB2 (Nat.le_refl _)
  have HB2 : Hid _ := hB2
  clear hB2
  go_wp2_with fail
  refine (read_number _ _ ht Ht2.out _ Hn.out).mono ?_
  rintro e w3 ⟨rfl, hb3⟩
  obtain ⟨hc3, hf3⟩ := bcell hb3
  have hz3 : w.heap.size < w3.heap.size := by have := hb3.size; simp at this; omega
  go_wp2_with fail
  exact bodyPost_ret (v := .tuple #[.agg #[.int .i64 0, .int .i64 0, .string ⟨#[]⟩], .bool false]) (by simp [results, Tryz.results93, go_sem, hc3]) rfl ⟨rfl, (((HB2.out.trans (hb3.mono (by simp))).setCell (Nat.le_refl _) _).setCell (Nat.le_refl _) _).setCell (Nat.le_refl _) _⟩

end Go.Proofs.YtpcfebekkgfpjaaGreatDoor

/- Contract of spec.ValRead, over the seat's translation. -/
namespace Go.Proofs.YtpcfebekkgfpjaaGreatDoor
open Go.RowKit

theorem num_as {t : ByteArray} {n : Int} {ok : Bool} (w : World) (ht : t.size ≤ maxLen) (h : numL t.data.toList = (n, ok)) :
    Calls Tryz.prog 78 #[.string t] w fun e w' => e = .returned (.tuple #[.int .i64 n, .bool ok]) ∧ w' = w := by
  have := num_any t w ht
  rw [h] at this
  exact this

theorem text_as {s : ByteArray} {y : List UInt8} (w : World) (hs : s.size ≤ maxLen) (ht : textOk s = true) (hy : 39 :: (s.data.toList ++ [39]) = y) :
    Calls Tryz.prog 60 #[.agg #[.int .i64 2, .int .i64 0, .string s]] w fun e w' => e = .returned (.string ⟨y.toArray⟩) ∧ Below w.heap.size w w' := by
  have := text_text s w hs ht
  rw [hy] at this
  exact this
theorem ext_le {t : ByteArray} (h : t.size ≤ maxLen) : (t.extract 1 (t.size - 1)).size ≤ maxLen := by
  have e : (t.extract 1 (t.size - 1)).size ≤ t.size := by simp; omega
  omega
/-- Two boxes of three cells at B and B + 1, the first of which may be written; W lies over w. -/
abbrev Two (w : World) (B : Nat) (a0 a1 a2 b0 b1 b2 : Value) (W : World) : Prop :=
  W.cell? ⟨B, 0, none⟩ = some a0 ∧ W.cell? ⟨B, 1, none⟩ = some a1 ∧ W.cell? ⟨B, 2, none⟩ = some a2 ∧
  W.cell? ⟨B + 1, 0, none⟩ = some b0 ∧ W.cell? ⟨B + 1, 1, none⟩ = some b1 ∧ W.cell? ⟨B + 1, 2, none⟩ = some b2 ∧
  W.frozen? ⟨B, 0, none⟩ = false ∧ W.frozen? ⟨B, 1, none⟩ = false ∧ W.frozen? ⟨B, 2, none⟩ = false ∧ B + 2 ≤ W.heap.size ∧ Below B w W
theorem two_next {w : World} {B : Nat} {a0 a1 a2 b0 b1 b2 : Value} {W W' : World} (h : Two w B a0 a1 a2 b0 b1 b2 W) (hb : Below W.heap.size W W') : Two w B a0 a1 a2 b0 b1 b2 W' := by
  obtain ⟨q0, q1, q2, r0, r1, r2, f0, f1, f2, z, i⟩ := h
  obtain ⟨hc, hf⟩ := bcell hb
  have hz := hb.size
  exact ⟨by rw [hc _ _ (by omega)]; exact q0, by rw [hc _ _ (by omega)]; exact q1, by rw [hc _ _ (by omega)]; exact q2, by rw [hc _ _ (by omega)]; exact r0, by rw [hc _ _ (by omega)]; exact r1, by rw [hc _ _ (by omega)]; exact r2,
    by rw [hf _ _ (by omega)]; exact f0, by rw [hf _ _ (by omega)]; exact f1, by rw [hf _ _ (by omega)]; exact f2, by omega, i.trans (hb.mono (by omega))⟩
theorem two_box (w : World) (a0 a1 a2 b0 b1 b2 : Value) (t : TypeId) : Two w w.heap.size a0 a1 a2 b0 b1 b2 ((w.alloc (.cells #[a0, a1, a2] t)).alloc (.cells #[b0, b1, b2] t)) := by
  refine ⟨?_, ?_, ?_, ?_, ?_, ?_, ?_, ?_, ?_, ?_, ?_⟩
  · go_simp
  · go_simp
  · go_simp
  · go_simp
  · go_simp
  · go_simp
  · go_simp
  · go_simp
  · go_simp
  · simp
  · exact ((Below.refl _ _).alloc (Nat.le_refl _) _).alloc (by simp) _

set_option maxHeartbeats 1000000 in
theorem spec_read_none (t : ByteArray) (w : World) (ht : t.size ≤ maxLen) (hnone : t.data.toList = [110, 111, 110, 101]) (n : Int) (ok : Bool) (hN : numL t.data.toList = (n, ok)) :
    Calls Tryz.prog 116 #[.string t] w fun e w' => e = .returned (.tuple #[.agg #[.int .i64 0, .int .i64 0, .string ⟨#[]⟩], .bool true]) ∧ Below w.heap.size w w' := by
  have hn2 : t.toList = [110, 111, 110, 101] := by rw [Lib.toList_data]; exact hnone
  have HN : Hid (numL t.data.toList = (n, ok)) := hN
  clear hnone hN
  go_enter Tryz.func116, Tryz.ntmps116
  go_wp2_with fail
  refine (num_as _ ht HN.out).mono ?_
  rintro e w1 ⟨rfl, rfl⟩
  go_wp2_with fail
  exact bodyPost_ret (v := .tuple #[.agg #[.int .i64 0, .int .i64 0, .string ⟨#[]⟩], .bool true]) (by simp [results, Tryz.results116, go_sem]) rfl ⟨rfl, ((Below.refl _ _).alloc (Nat.le_refl _) _).alloc (by simp) _⟩

set_option maxHeartbeats 1000000 in
theorem spec_read_n_bad (t : ByteArray) (w : World) (ht : t.size ≤ maxLen) (hnone : ¬ t.data.toList = [110, 111, 110, 101]) (n : Int) (hN : numL t.data.toList = (n, true)) (hk : numOk n = false) :
    Calls Tryz.prog 116 #[.string t] w fun e w' => e = .returned (.tuple #[.agg #[.int .i64 0, .int .i64 0, .string ⟨#[]⟩], .bool false]) ∧ Below w.heap.size w w' := by
  have hn2 : (t.toList == [110, 111, 110, 101]) = false := by rw [beq_eq_false_iff_ne, Lib.toList_data]; exact hnone
  have HN : Hid (numL t.data.toList = _) := hN
  clear hnone hN
  have HS : Hid ((⟨#[]⟩ : ByteArray).size ≤ maxLen) := (by decide : (⟨#[]⟩ : ByteArray).size ≤ maxLen)
  have hv : valOk 1 n ⟨#[]⟩ = false := by simp [valOk, hk]
  go_enter Tryz.func116, Tryz.ntmps116
  go_wp2_with fail
  refine (num_as _ ht HN.out).mono ?_
  rintro e w1 ⟨rfl, rfl⟩
  go_wp2_with fail
  refine (spec_ok _ _ _ _ HS.out).mono ?_
  rintro e w2 ⟨rfl, hb⟩
  have h2 := two_next (two_box _ _ _ _ _ _ _ _) hb
  clear hb
  go_wp2_with fail
  exact bodyPost_ret (v := .tuple #[.agg #[.int .i64 0, .int .i64 0, .string ⟨#[]⟩], .bool false]) (by simp [results, Tryz.results116, go_sem, h2]) rfl ⟨rfl, ((h2.2.2.2.2.2.2.2.2.2.2.setCell (Nat.le_refl _) _).setCell (Nat.le_refl _) _).setCell (Nat.le_refl _) _⟩

set_option maxHeartbeats 1000000 in
theorem spec_read_n_eq (t : ByteArray) (w : World) (ht : t.size ≤ maxLen) (hnone : ¬ t.data.toList = [110, 111, 110, 101]) (n : Int) (hN : numL t.data.toList = (n, true)) (hk : numOk n = true) (he : Lib.itoa n = t.data.toList) :
    Calls Tryz.prog 116 #[.string t] w fun e w' => e = .returned (.tuple #[.agg #[.int .i64 1, .int .i64 n, .string ⟨#[]⟩], .bool true]) ∧ Below w.heap.size w w' := by
  have hn2 : (t.toList == [110, 111, 110, 101]) = false := by rw [beq_eq_false_iff_ne, Lib.toList_data]; exact hnone
  have HN : Hid (numL t.data.toList = _) := hN
  clear hnone hN
  have HS : Hid ((⟨#[]⟩ : ByteArray).size ≤ maxLen) := (by decide : (⟨#[]⟩ : ByteArray).size ≤ maxLen)
  have hv : valOk 1 n ⟨#[]⟩ = true := by simp [valOk, hk]
  have he2 : Lib.itoa n = t.toList := by rw [Lib.toList_data]; exact he
  clear he
  go_enter Tryz.func116, Tryz.ntmps116
  go_wp2_with fail
  refine (num_as _ ht HN.out).mono ?_
  rintro e w1 ⟨rfl, rfl⟩
  go_wp2_with fail
  refine (spec_ok _ _ _ _ HS.out).mono ?_
  rintro e w2 ⟨rfl, hb⟩
  have h2 := two_next (two_box _ _ _ _ _ _ _ _) hb
  clear hb
  go_wp2_with fail
  refine (text_num _ _ hk).mono ?_
  rintro e w3 ⟨rfl, hb3⟩
  have h3 := two_next h2 hb3
  clear h2 hb3
  go_wp2_with fail
  exact bodyPost_ret (v := .tuple #[.agg #[.int .i64 1, .int .i64 n, .string ⟨#[]⟩], .bool true]) (by simp [results, Tryz.results116, go_sem, h3]) rfl ⟨rfl, ((h3.2.2.2.2.2.2.2.2.2.2.setCell (Nat.le_refl _) _).setCell (Nat.le_refl _) _).setCell (Nat.le_refl _) _⟩

set_option maxHeartbeats 1000000 in
theorem spec_read_n_ne (t : ByteArray) (w : World) (ht : t.size ≤ maxLen) (hnone : ¬ t.data.toList = [110, 111, 110, 101]) (n : Int) (hN : numL t.data.toList = (n, true)) (hk : numOk n = true) (he : ¬ Lib.itoa n = t.data.toList) :
    Calls Tryz.prog 116 #[.string t] w fun e w' => e = .returned (.tuple #[.agg #[.int .i64 0, .int .i64 0, .string ⟨#[]⟩], .bool false]) ∧ Below w.heap.size w w' := by
  have hn2 : (t.toList == [110, 111, 110, 101]) = false := by rw [beq_eq_false_iff_ne, Lib.toList_data]; exact hnone
  have HN : Hid (numL t.data.toList = _) := hN
  clear hnone hN
  have HS : Hid ((⟨#[]⟩ : ByteArray).size ≤ maxLen) := (by decide : (⟨#[]⟩ : ByteArray).size ≤ maxLen)
  have hv : valOk 1 n ⟨#[]⟩ = true := by simp [valOk, hk]
  have he2 : (Lib.itoa n == t.toList) = false := by rw [beq_eq_false_iff_ne, Lib.toList_data]; exact he
  clear he
  go_enter Tryz.func116, Tryz.ntmps116
  go_wp2_with fail
  refine (num_as _ ht HN.out).mono ?_
  rintro e w1 ⟨rfl, rfl⟩
  go_wp2_with fail
  refine (spec_ok _ _ _ _ HS.out).mono ?_
  rintro e w2 ⟨rfl, hb⟩
  have h2 := two_next (two_box _ _ _ _ _ _ _ _) hb
  clear hb
  go_wp2_with fail
  refine (text_num _ _ hk).mono ?_
  rintro e w3 ⟨rfl, hb3⟩
  have h3 := two_next h2 hb3
  clear h2 hb3
  go_wp2_with fail
  exact bodyPost_ret (v := .tuple #[.agg #[.int .i64 0, .int .i64 0, .string ⟨#[]⟩], .bool false]) (by simp [results, Tryz.results116, go_sem, h3]) rfl ⟨rfl, ((h3.2.2.2.2.2.2.2.2.2.2.setCell (Nat.le_refl _) _).setCell (Nat.le_refl _) _).setCell (Nat.le_refl _) _⟩

set_option maxHeartbeats 1000000 in
theorem spec_read_t_bad (t : ByteArray) (w : World) (ht : t.size ≤ maxLen) (hnone : ¬ t.data.toList = [110, 111, 110, 101]) (hN : numL t.data.toList = (0, false)) (l2 : (2 : Int) ≤ t.size) (l6 : (t.size : Int) ≤ 6) (hk : textOk (t.extract 1 (t.size - 1)) = false) :
    Calls Tryz.prog 116 #[.string t] w fun e w' => e = .returned (.tuple #[.agg #[.int .i64 0, .int .i64 0, .string ⟨#[]⟩], .bool false]) ∧ Below w.heap.size w w' := by
  have hn2 : (t.toList == [110, 111, 110, 101]) = false := by rw [beq_eq_false_iff_ne, Lib.toList_data]; exact hnone
  have HN : Hid (numL t.data.toList = _) := hN
  clear hnone hN
  have HS : Hid ((t.extract 1 (t.size - 1)).size ≤ maxLen) := ext_le ht
  have hv : valOk 2 0 (t.extract 1 (t.size - 1)) = false := by simp [valOk, hk]
  go_enter Tryz.func116, Tryz.ntmps116
  go_wp2_with fail
  refine (num_as _ ht HN.out).mono ?_
  rintro e w1 ⟨rfl, rfl⟩
  go_wp2_with fail
  refine (spec_ok _ _ _ _ HS.out).mono ?_
  rintro e w2 ⟨rfl, hb⟩
  have h2 := two_next (two_box _ _ _ _ _ _ _ _) hb
  clear hb
  go_wp2_with fail
  exact bodyPost_ret (v := .tuple #[.agg #[.int .i64 0, .int .i64 0, .string ⟨#[]⟩], .bool false]) (by simp [results, Tryz.results116, go_sem, h2]) rfl ⟨rfl, ((h2.2.2.2.2.2.2.2.2.2.2.setCell (Nat.le_refl _) _).setCell (Nat.le_refl _) _).setCell (Nat.le_refl _) _⟩

set_option maxHeartbeats 1000000 in
theorem spec_read_t_eq (t : ByteArray) (w : World) (ht : t.size ≤ maxLen) (hnone : ¬ t.data.toList = [110, 111, 110, 101]) (hN : numL t.data.toList = (0, false)) (l2 : (2 : Int) ≤ t.size) (l6 : (t.size : Int) ≤ 6) (hk : textOk (t.extract 1 (t.size - 1)) = true) (he : 39 :: ((t.extract 1 (t.size - 1)).data.toList ++ [39]) = t.data.toList) :
    Calls Tryz.prog 116 #[.string t] w fun e w' => e = .returned (.tuple #[.agg #[.int .i64 2, .int .i64 0, .string (t.extract 1 (t.size - 1))], .bool true]) ∧ Below w.heap.size w w' := by
  have hn2 : (t.toList == [110, 111, 110, 101]) = false := by rw [beq_eq_false_iff_ne, Lib.toList_data]; exact hnone
  have HN : Hid (numL t.data.toList = _) := hN
  clear hnone hN
  have HS : Hid ((t.extract 1 (t.size - 1)).size ≤ maxLen) := ext_le ht
  have hv : valOk 2 0 (t.extract 1 (t.size - 1)) = true := by simp [valOk, hk]
  obtain ⟨y, hy⟩ : ∃ y, 39 :: ((t.extract 1 (t.size - 1)).data.toList ++ [39]) = y := ⟨_, rfl⟩
  rw [hy] at he
  have HY : Hid (39 :: ((t.extract 1 (t.size - 1)).data.toList ++ [39]) = y) := hy
  have he2 : (y == t.toList) = true := by rw [beq_iff_eq, Lib.toList_data]; exact he
  clear he hy
  go_enter Tryz.func116, Tryz.ntmps116
  go_wp2_with fail
  refine (num_as _ ht HN.out).mono ?_
  rintro e w1 ⟨rfl, rfl⟩
  go_wp2_with fail
  refine (spec_ok _ _ _ _ HS.out).mono ?_
  rintro e w2 ⟨rfl, hb⟩
  have h2 := two_next (two_box _ _ _ _ _ _ _ _) hb
  clear hb
  go_wp2_with fail
  refine (text_as _ HS.out hk HY.out).mono ?_
  rintro e w3 ⟨rfl, hb3⟩
  have h3 := two_next h2 hb3
  clear h2 hb3
  go_wp2_with fail
  exact bodyPost_ret (v := .tuple #[.agg #[.int .i64 2, .int .i64 0, .string (t.extract 1 (t.size - 1))], .bool true]) (by simp [results, Tryz.results116, go_sem, h3]) rfl ⟨rfl, ((h3.2.2.2.2.2.2.2.2.2.2.setCell (Nat.le_refl _) _).setCell (Nat.le_refl _) _).setCell (Nat.le_refl _) _⟩

set_option maxHeartbeats 1000000 in
theorem spec_read_t_ne (t : ByteArray) (w : World) (ht : t.size ≤ maxLen) (hnone : ¬ t.data.toList = [110, 111, 110, 101]) (hN : numL t.data.toList = (0, false)) (l2 : (2 : Int) ≤ t.size) (l6 : (t.size : Int) ≤ 6) (hk : textOk (t.extract 1 (t.size - 1)) = true) (he : ¬ 39 :: ((t.extract 1 (t.size - 1)).data.toList ++ [39]) = t.data.toList) :
    Calls Tryz.prog 116 #[.string t] w fun e w' => e = .returned (.tuple #[.agg #[.int .i64 0, .int .i64 0, .string ⟨#[]⟩], .bool false]) ∧ Below w.heap.size w w' := by
  have hn2 : (t.toList == [110, 111, 110, 101]) = false := by rw [beq_eq_false_iff_ne, Lib.toList_data]; exact hnone
  have HN : Hid (numL t.data.toList = _) := hN
  clear hnone hN
  have HS : Hid ((t.extract 1 (t.size - 1)).size ≤ maxLen) := ext_le ht
  have hv : valOk 2 0 (t.extract 1 (t.size - 1)) = true := by simp [valOk, hk]
  obtain ⟨y, hy⟩ : ∃ y, 39 :: ((t.extract 1 (t.size - 1)).data.toList ++ [39]) = y := ⟨_, rfl⟩
  rw [hy] at he
  have HY : Hid (39 :: ((t.extract 1 (t.size - 1)).data.toList ++ [39]) = y) := hy
  have he2 : (y == t.toList) = false := by rw [beq_eq_false_iff_ne, Lib.toList_data]; exact he
  clear he hy
  go_enter Tryz.func116, Tryz.ntmps116
  go_wp2_with fail
  refine (num_as _ ht HN.out).mono ?_
  rintro e w1 ⟨rfl, rfl⟩
  go_wp2_with fail
  refine (spec_ok _ _ _ _ HS.out).mono ?_
  rintro e w2 ⟨rfl, hb⟩
  have h2 := two_next (two_box _ _ _ _ _ _ _ _) hb
  clear hb
  go_wp2_with fail
  refine (text_as _ HS.out hk HY.out).mono ?_
  rintro e w3 ⟨rfl, hb3⟩
  have h3 := two_next h2 hb3
  clear h2 hb3
  go_wp2_with fail
  exact bodyPost_ret (v := .tuple #[.agg #[.int .i64 0, .int .i64 0, .string ⟨#[]⟩], .bool false]) (by simp [results, Tryz.results116, go_sem, h3]) rfl ⟨rfl, ((h3.2.2.2.2.2.2.2.2.2.2.setCell (Nat.le_refl _) _).setCell (Nat.le_refl _) _).setCell (Nat.le_refl _) _⟩

set_option maxHeartbeats 1000000 in
theorem spec_read_short (t : ByteArray) (w : World) (ht : t.size ≤ maxLen) (hnone : ¬ t.data.toList = [110, 111, 110, 101]) (hN : numL t.data.toList = (0, false)) (l2 : ¬ (2 : Int) ≤ t.size) (he : ¬ Lib.itoa 0 = t.data.toList) :
    Calls Tryz.prog 116 #[.string t] w fun e w' => e = .returned (.tuple #[.agg #[.int .i64 0, .int .i64 0, .string ⟨#[]⟩], .bool false]) ∧ Below w.heap.size w w' := by
  have hn2 : (t.toList == [110, 111, 110, 101]) = false := by rw [beq_eq_false_iff_ne, Lib.toList_data]; exact hnone
  have HN : Hid (numL t.data.toList = _) := hN
  clear hnone hN
  have HS : Hid ((⟨#[]⟩ : ByteArray).size ≤ maxLen) := (by decide : (⟨#[]⟩ : ByteArray).size ≤ maxLen)
  have hk : numOk 0 = true := by decide
  have hv : valOk 1 0 ⟨#[]⟩ = true := by simp [valOk, hk]
  have he2 : (Lib.itoa 0 == t.toList) = false := by rw [beq_eq_false_iff_ne, Lib.toList_data]; exact he
  clear he
  go_enter Tryz.func116, Tryz.ntmps116
  go_wp2_with fail
  refine (num_as _ ht HN.out).mono ?_
  rintro e w1 ⟨rfl, rfl⟩
  go_wp2_with fail
  refine (spec_ok _ _ _ _ HS.out).mono ?_
  rintro e w2 ⟨rfl, hb⟩
  have h2 := two_next (two_box _ _ _ _ _ _ _ _) hb
  clear hb
  go_wp2_with fail
  refine (text_num _ _ hk).mono ?_
  rintro e w3 ⟨rfl, hb3⟩
  have h3 := two_next h2 hb3
  clear h2 hb3
  go_wp2_with fail
  exact bodyPost_ret (v := .tuple #[.agg #[.int .i64 0, .int .i64 0, .string ⟨#[]⟩], .bool false]) (by simp [results, Tryz.results116, go_sem, h3]) rfl ⟨rfl, ((h3.2.2.2.2.2.2.2.2.2.2.setCell (Nat.le_refl _) _).setCell (Nat.le_refl _) _).setCell (Nat.le_refl _) _⟩

set_option maxHeartbeats 1000000 in
theorem spec_read_long (t : ByteArray) (w : World) (ht : t.size ≤ maxLen) (hnone : ¬ t.data.toList = [110, 111, 110, 101]) (hN : numL t.data.toList = (0, false)) (l2 : (2 : Int) ≤ t.size) (l6 : ¬ (t.size : Int) ≤ 6) (he : ¬ Lib.itoa 0 = t.data.toList) :
    Calls Tryz.prog 116 #[.string t] w fun e w' => e = .returned (.tuple #[.agg #[.int .i64 0, .int .i64 0, .string ⟨#[]⟩], .bool false]) ∧ Below w.heap.size w w' := by
  have hn2 : (t.toList == [110, 111, 110, 101]) = false := by rw [beq_eq_false_iff_ne, Lib.toList_data]; exact hnone
  have HN : Hid (numL t.data.toList = _) := hN
  clear hnone hN
  have HS : Hid ((⟨#[]⟩ : ByteArray).size ≤ maxLen) := (by decide : (⟨#[]⟩ : ByteArray).size ≤ maxLen)
  have hk : numOk 0 = true := by decide
  have hv : valOk 1 0 ⟨#[]⟩ = true := by simp [valOk, hk]
  have he2 : (Lib.itoa 0 == t.toList) = false := by rw [beq_eq_false_iff_ne, Lib.toList_data]; exact he
  clear he
  go_enter Tryz.func116, Tryz.ntmps116
  go_wp2_with fail
  refine (num_as _ ht HN.out).mono ?_
  rintro e w1 ⟨rfl, rfl⟩
  go_wp2_with fail
  refine (spec_ok _ _ _ _ HS.out).mono ?_
  rintro e w2 ⟨rfl, hb⟩
  have h2 := two_next (two_box _ _ _ _ _ _ _ _) hb
  clear hb
  go_wp2_with fail
  refine (text_num _ _ hk).mono ?_
  rintro e w3 ⟨rfl, hb3⟩
  have h3 := two_next h2 hb3
  clear h2 hb3
  go_wp2_with fail
  exact bodyPost_ret (v := .tuple #[.agg #[.int .i64 0, .int .i64 0, .string ⟨#[]⟩], .bool false]) (by simp [results, Tryz.results116, go_sem, h3]) rfl ⟨rfl, ((h3.2.2.2.2.2.2.2.2.2.2.setCell (Nat.le_refl _) _).setCell (Nat.le_refl _) _).setCell (Nat.le_refl _) _⟩

end Go.Proofs.YtpcfebekkgfpjaaGreatDoor
