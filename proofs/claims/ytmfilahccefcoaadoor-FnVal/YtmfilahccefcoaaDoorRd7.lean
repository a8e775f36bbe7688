/- Contracts of impl.ValRead, spec.ValRead and laws.eqVal, over the seat's translation. -/
import Derived.Test.YtmfilahccefcoaaDoorRd4
import Derived.Test.YtmfilahccefcoaaDoorRd6
namespace Go.Proofs.YtmfilahccefcoaaDoor
open Go.RowKit

/-- What is read: kind, number, text, and whether there is a value. -/
def readV (l : List UInt8) : Int × Int × List UInt8 × Bool :=
  if l = [110, 111, 110, 101] then (0, 0, [], true)
  else if quoted l && textOk ⟨(inner l).toArray⟩ then (2, 0, inner l, true)
  else match readNum l with
    | some n => (1, n, [], true)
    | none => (0, 0, [], false)

theorem inner_le (l : List UInt8) : (inner l).length ≤ l.length := by
  unfold inner Lib.trimSuffix
  have := trim_len l [39]
  split <;> simp <;> omega

theorem readV_none {l : List UInt8} (h : l = [110, 111, 110, 101]) : readV l = (0, 0, [], true) := by unfold readV; rw [if_pos h]
theorem readV_text {l : List UInt8} (h : ¬ l = [110, 111, 110, 101]) (hq : quoted l = true) (ht : textOk ⟨(inner l).toArray⟩ = true) : readV l = (2, 0, inner l, true) := by unfold readV; rw [if_neg h, hq, ht]; rfl
theorem readV_num {l : List UInt8} {n : Int} (h : ¬ l = [110, 111, 110, 101]) (hq : (quoted l && textOk ⟨(inner l).toArray⟩) = false) (hn : readNum l = some n) : readV l = (1, n, [], true) := by unfold readV; rw [if_neg h, hq, hn]; rfl
theorem readV_not {l : List UInt8} (h : ¬ l = [110, 111, 110, 101]) (hq : (quoted l && textOk ⟨(inner l).toArray⟩) = false) (hn : readNum l = none) : readV l = (0, 0, [], false) := by unfold readV; rw [if_neg h, hq, hn]; rfl

set_option maxHeartbeats 1000000 in
theorem impl_read_none (t : ByteArray) (w : World) (hnone : t.data.toList = [110, 111, 110, 101]) :
    Calls Tryd.prog 7 #[.string t] w fun e w' => e = .returned (.tuple #[.agg #[.int .i64 0, .int .i64 0, .string ⟨#[]⟩], .bool true]) ∧ Below w.heap.size w w' := by
  have hn2 : t.toList = [110, 111, 110, 101] := by rw [Lib.toList_data]; exact hnone
  clear hnone
  go_enter Tryd.func7, Tryd.ntmps7
  go_wp2_with fail
  exact bodyPost_ret (v := .tuple #[.agg #[.int .i64 0, .int .i64 0, .string ⟨#[]⟩], .bool true]) (by simp [results, Tryd.results7, go_sem]) rfl ⟨rfl, (Below.refl _ _).alloc (Nat.le_refl _) _⟩

set_option maxHeartbeats 1000000 in
theorem impl_read_text (t : ByteArray) (w : World) (ht : t.size ≤ maxLen) (hnone : ¬ t.data.toList = [110, 111, 110, 101]) (hq : quoted t.data.toList = true) (hk : textOk ⟨(inner t.data.toList).toArray⟩ = true) :
    Calls Tryd.prog 7 #[.string t] w fun e w' => e = .returned (.tuple #[.agg #[.int .i64 2, .int .i64 0, .string ⟨(inner t.data.toList).toArray⟩], .bool true]) ∧ Below w.heap.size w w' := by
  have hn2 : (t.toList == [110, 111, 110, 101]) = false := by rw [beq_eq_false_iff_ne, Lib.toList_data]; exact hnone
  clear hnone
  have hil : (⟨(inner t.data.toList).toArray⟩ : ByteArray).size ≤ maxLen := by have := inner_le t.data.toList; rw [len_of] at this; show (inner t.data.toList).length ≤ _; omega
  go_enter Tryd.func7, Tryd.ntmps7
  go_wp2_with fail
  refine (unquote_any _ _ ht).mono ?_
  rintro e w1 ⟨rfl, rfl⟩
  go_wp2_with fail
  refine (text_ok _ _ hil).mono ?_
  rintro e w2 ⟨rfl, hb⟩
  obtain ⟨hc, hf⟩ := bcell hb
  have hz : w.heap.size < w2.heap.size := by have := hb.size; simp at this; omega
  go_wp2_with fail
  refine (text_val _ _).mono ?_
  rintro e w3 ⟨rfl, hb3⟩
  obtain ⟨hc3, hf3⟩ := bcell hb3
  go_wp2_with fail
  exact bodyPost_ret (v := .tuple #[.agg #[.int .i64 2, .int .i64 0, .string ⟨(inner t.data.toList).toArray⟩], .bool true]) (by simp [results, Tryd.results7, go_sem, hc, hz, hc3]) rfl ⟨rfl, (((((((Below.refl _ _).alloc (Nat.le_refl _) _).trans (hb.mono (by simp))).trans (hb3.mono (by omega))).setCell (Nat.le_refl _) _).setCell (Nat.le_refl _) _).setCell (Nat.le_refl _) _)⟩

set_option maxHeartbeats 1000000 in
theorem impl_read_qs (t : ByteArray) (w : World) (ht : t.size ≤ maxLen) (htab : Lib.TabIs Tryd.prog w "internal/strconv.uint64pow10" .u64 Lib.pow10Tab) (hnone : ¬ t.data.toList = [110, 111, 110, 101]) (hq : quoted t.data.toList = true) (hk : textOk ⟨(inner t.data.toList).toArray⟩ = false) (n : Int) (hn : readNum t.data.toList = some n) :
    Calls Tryd.prog 7 #[.string t] w fun e w' => e = .returned (.tuple #[.agg #[.int .i64 1, .int .i64 n, .string ⟨#[]⟩], .bool true]) ∧ Below w.heap.size w w' := by
  have hn2 : (t.toList == [110, 111, 110, 101]) = false := by rw [beq_eq_false_iff_ne, Lib.toList_data]; exact hnone
  have Htab : Hid (Lib.TabIs Tryd.prog w "internal/strconv.uint64pow10" .u64 Lib.pow10Tab) := htab
  clear hnone htab
  have Hn : Hid (readNum t.data.toList = some n) := hn
  clear hn
  have hil : (⟨(inner t.data.toList).toArray⟩ : ByteArray).size ≤ maxLen := by have := inner_le t.data.toList; rw [len_of] at this; show (inner t.data.toList).length ≤ _; omega
  go_enter Tryd.func7, Tryd.ntmps7
  go_wp2_with fail
  refine (unquote_any _ _ ht).mono ?_
  rintro e w1 ⟨rfl, rfl⟩
  go_wp2_with fail
  refine (text_ok _ _ hil).mono ?_
  rintro e w2 ⟨rfl, hb⟩
  obtain ⟨hc, hf⟩ := bcell hb
  have hz : w.heap.size < w2.heap.size := by have := hb.size; simp at this; omega
  have hB2 : Below w.heap.size w w2 := ((Below.refl _ _).alloc (Nat.le_refl _) _).trans (hb.mono (by simp))
  have Ht2 : Hid _ := Joins.tab_stays Tab.global Htab.out hB2 (Nat.le_refl _)
  have HB2 : Hid _ := hB2
  clear hB2
  go_wp2_with fail
  refine (read_number _ _ ht Ht2.out _ Hn.out).mono ?_
  rintro e w3 ⟨rfl, hb3⟩
  obtain ⟨hc3, hf3⟩ := bcell hb3
  have hz3 : w.heap.size < w3.heap.size := by have := hb3.size; omega
  go_wp2_with fail
  refine (num_val _ _).mono ?_
  rintro e w4 ⟨rfl, hb4⟩
  obtain ⟨hc4, hf4⟩ := bcell hb4
  go_wp2_with fail
  exact bodyPost_ret (v := .tuple #[.agg #[.int .i64 1, .int .i64 n, .string ⟨#[]⟩], .bool true]) (by simp [results, Tryd.results7, go_sem, hc, hz, hc3, hz3, hc4]) rfl ⟨rfl, ((((HB2.out.trans (hb3.mono (by omega))).trans (hb4.mono (by omega))).setCell (Nat.le_refl _) _).setCell (Nat.le_refl _) _).setCell (Nat.le_refl _) _⟩

set_option maxHeartbeats 1000000 in
theorem impl_read_qn (t : ByteArray) (w : World) (ht : t.size ≤ maxLen) (htab : Lib.TabIs Tryd.prog w "internal/strconv.uint64pow10" .u64 Lib.pow10Tab) (hnone : ¬ t.data.toList = [110, 111, 110, 101]) (hq : quoted t.data.toList = true) (hk : textOk ⟨(inner t.data.toList).toArray⟩ = false) (hn : readNum t.data.toList = none) :
    Calls Tryd.prog 7 #[.string t] w fun e w' => e = .returned (.tuple #[.agg #[.int .i64 0, .int .i64 0, .string ⟨#[]⟩], .bool false]) ∧ Below w.heap.size w w' := by
  have hn2 : (t.toList == [110, 111, 110, 101]) = false := by rw [beq_eq_false_iff_ne, Lib.toList_data]; exact hnone
  have Htab : Hid (Lib.TabIs Tryd.prog w "internal/strconv.uint64pow10" .u64 Lib.pow10Tab) := htab
  clear hnone htab
  have Hn : Hid (readNum t.data.toList = none) := hn
  clear hn
  have hil : (⟨(inner t.data.toList).toArray⟩ : ByteArray).size ≤ maxLen := by have := inner_le t.data.toList; rw [len_of] at this; show (inner t.data.toList).length ≤ _; omega
  go_enter Tryd.func7, Tryd.ntmps7
  go_wp2_with fail
  refine (unquote_any _ _ ht).mono ?_
  rintro e w1 ⟨rfl, rfl⟩
  go_wp2_with fail
  refine (text_ok _ _ hil).mono ?_
  rintro e w2 ⟨rfl, hb⟩
  obtain ⟨hc, hf⟩ := bcell hb
  have hz : w.heap.size < w2.heap.size := by have := hb.size; simp at this; omega
  have hB2 : Below w.heap.size w w2 := ((Below.refl _ _).alloc (Nat.le_refl _) _).trans (hb.mono (by simp))
  have Ht2 : Hid _ := Joins.tab_stays Tab.global Htab.out hB2 (Nat.le_refl _)
  have HB2 : Hid _ := hB2
  clear hB2
  go_wp2_with fail
  refine (read_number _ _ ht Ht2.out _ Hn.out).mono ?_
  rintro e w3 ⟨rfl, hb3⟩
  obtain ⟨hc3, hf3⟩ := bcell hb3
  have hz3 : w.heap.size < w3.heap.size := by have := hb3.size; omega
  go_wp2_with fail
  exact bodyPost_ret (v := .tuple #[.agg #[.int .i64 0, .int .i64 0, .string ⟨#[]⟩], .bool false]) (by simp [results, Tryd.results7, go_sem, hc, hz, hc3]) rfl ⟨rfl, (((HB2.out.trans (hb3.mono (by omega))).setCell (Nat.le_refl _) _).setCell (Nat.le_refl _) _).setCell (Nat.le_refl _) _⟩

set_option maxHeartbeats 1000000 in
theorem impl_read_ps (t : ByteArray) (w : World) (ht : t.size ≤ maxLen) (htab : Lib.TabIs Tryd.prog w "internal/strconv.uint64pow10" .u64 Lib.pow10Tab) (hnone : ¬ t.data.toList = [110, 111, 110, 101]) (hq : quoted t.data.toList = false) (n : Int) (hn : readNum t.data.toList = some n) :
    Calls Tryd.prog 7 #[.string t] w fun e w' => e = .returned (.tuple #[.agg #[.int .i64 1, .int .i64 n, .string ⟨#[]⟩], .bool true]) ∧ Below w.heap.size w w' := by
  have hn2 : (t.toList == [110, 111, 110, 101]) = false := by rw [beq_eq_false_iff_ne, Lib.toList_data]; exact hnone
  have Htab : Hid (Lib.TabIs Tryd.prog w "internal/strconv.uint64pow10" .u64 Lib.pow10Tab) := htab
  clear hnone htab
  have Hn : Hid (readNum t.data.toList = some n) := hn
  clear hn
  go_enter Tryd.func7, Tryd.ntmps7
  go_wp2_with fail
  refine (unquote_any _ _ ht).mono ?_
  rintro e w1 ⟨rfl, rfl⟩
  have hB2 : Below w.heap.size w (w.alloc (.cells #[.int .i64 0, .int .i64 0, .string ⟨#[]⟩] 24)) := (Below.refl _ _).alloc (Nat.le_refl _) _
  have Ht2 : Hid _ := Joins.tab_stays Tab.global Htab.out hB2 (Nat.le_refl _)
  have HB2 : Hid _ := hB2
  clear hB2
  go_wp2_with fail
  refine (read_number _ _ ht Ht2.out _ Hn.out).mono ?_
  rintro e w3 ⟨rfl, hb3⟩
  obtain ⟨hc3, hf3⟩ := bcell hb3
  have hz3 : w.heap.size < w3.heap.size := by have := hb3.size; simp at this; omega
  go_wp2_with fail
  refine (num_val _ _).mono ?_
  rintro e w4 ⟨rfl, hb4⟩
  obtain ⟨hc4, hf4⟩ := bcell hb4
  go_wp2_with fail
  exact bodyPost_ret (v := .tuple #[.agg #[.int .i64 1, .int .i64 n, .string ⟨#[]⟩], .bool true]) (by simp [results, Tryd.results7, go_sem, hc3, hz3, hc4]) rfl ⟨rfl, ((((HB2.out.trans (hb3.mono (by simp))).trans (hb4.mono (by omega))).setCell (Nat.le_refl _) _).setCell (Nat.le_refl _) _).setCell (Nat.le_refl _) _⟩

set_option maxHeartbeats 1000000 in
theorem impl_read_pn (t : ByteArray) (w : World) (ht : t.size ≤ maxLen) (htab : Lib.TabIs Tryd.prog w "internal/strconv.uint64pow10" .u64 Lib.pow10Tab) (hnone : ¬ t.data.toList = [110, 111, 110, 101]) (hq : quoted t.data.toList = false) (hn : readNum t.data.toList = none) :
    Calls Tryd.prog 7 #[.string t] w fun e w' => e = .returned (.tuple #[.agg #[.int .i64 0, .int .i64 0, .string ⟨#[]⟩], .bool false]) ∧ Below w.heap.size w w' := by
  have hn2 : (t.toList == [110, 111, 110, 101]) = false := by rw [beq_eq_false_iff_ne, Lib.toList_data]; exact hnone
  have Htab : Hid (Lib.TabIs Tryd.prog w "internal/strconv.uint64pow10" .u64 Lib.pow10Tab) := htab
  clear hnone htab
  have Hn : Hid (readNum t.data.toList = none) := hn
  clear hn
  go_enter Tryd.func7, Tryd.ntmps7
  go_wp2_with fail
  refine (unquote_any _ _ ht).mono ?_
  rintro e w1 ⟨rfl, rfl⟩
  have hB2 : Below w.heap.size w (w.alloc (.cells #[.int .i64 0, .int .i64 0, .string ⟨#[]⟩] 24)) := (Below.refl _ _).alloc (Nat.le_refl _) _
  have Ht2 : Hid _ := Joins.tab_stays Tab.global Htab.out hB2 (Nat.le_refl _)
  have HB2 : Hid _ := hB2
  clear hB2
  go_wp2_with fail
  refine (read_number _ _ ht Ht2.out _ Hn.out).mono ?_
  rintro e w3 ⟨rfl, hb3⟩
  obtain ⟨hc3, hf3⟩ := bcell hb3
  have hz3 : w.heap.size < w3.heap.size := by have := hb3.size; simp at this; omega
  go_wp2_with fail
  exact bodyPost_ret (v := .tuple #[.agg #[.int .i64 0, .int .i64 0, .string ⟨#[]⟩], .bool false]) (by simp [results, Tryd.results7, go_sem, hc3]) rfl ⟨rfl, (((HB2.out.trans (hb3.mono (by simp))).setCell (Nat.le_refl _) _).setCell (Nat.le_refl _) _).setCell (Nat.le_refl _) _⟩

end Go.Proofs.YtmfilahccefcoaaDoor
