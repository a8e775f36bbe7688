/- The walk of laws.FnExactTableNew, over the seat's translation. -/
import Derived.Test.YteckjdoiimifaaaTnL1
namespace Go.Proofs.Yteckjdoiimifaaa
open Go.RowKit

theorem eq_table_none (w : World) : Calls Try.prog 10 #[.agg #[.slice none 0 0, .slice none 0 0, .slice none 0 0, .int .i64 0], .agg #[.slice none 0 0, .slice none 0 0, .slice none 0 0, .int .i64 0]] w fun e w' => e = .returned (.bool true) ∧ Below w.heap.size w w' :=
  eq_table_new none none 0 0 [] 0 w (Or.inl rfl) (Or.inl rfl) (Nat.zero_le _)

set_option maxRecDepth 100000 in
set_option maxHeartbeats 4000000 in
theorem law_new_bad (a : Option Addr) (cap : Nat) (L : List ACol) (w : World) (hL : ColsAt w a L) (hf : ∀ c ∈ L, c.fit) (hm : L.length ≤ maxLen) (hl : ((L.length + total L : Nat) : Int) ≤ 1048576) (hok : shapeOk L = false) :
    Calls Try.prog 3 #[.slice a L.length cap] w fun e w' => e = .returned (.bool true) ∧ Below w.heap.size w w' := by
  have hl' := left_pos hl
  have hp : (0 : Int) ≤ 1048576 - ((L.length + total L : Nat) : Int) := by omega
  have h20 : L.length ≤ 1048576 := by omega
  have HL : Hid (ColsAt w a L) := hL
  go_enter Try.func3, Try.ntmps3
  go_wp2_with fail
  refine (sz_cols _ _ _ _ _ hL hf hm (by omega) (by omega)).mono ?_
  rintro e w1 ⟨rfl, hb⟩
  rw [hl']
  clear hl'
  generalize 1048576 - ((L.length + total L : Nat) : Int) = z at hp ⊢
  have B1 : Hid (Below w.heap.size w w1) := hb
  clear hL hb hl
  go_wp2_with fail
  refine (to_cols _ _ _ _ (HL.out.keep B1.out) h20).mono ?_
  rintro e w2 ⟨rfl, hM⟩
  have B2 : Hid (Below w.heap.size w w2) := B1.out.trans (hM.below.mono B1.out.size)
  have hX : Hid (ColsAt w2 (some ⟨w1.heap.size, 0, none⟩) L) := hM.cols
  clear hM B1
  go_wp2_with fail
  refine (spec_new_bad _ _ _ _ hX.out hf hm hok).mono ?_
  rintro e w3 ⟨rfl, hb⟩
  have B3 : Hid (Below w.heap.size w w3) := B2.out.trans (hb.mono B2.out.size)
  clear hb hX B2
  have H3 : Hid (Below w3.heap.size w3 (w3.alloc (.cells #[.slice none 0 0, .slice none 0 0, .slice none 0 0, .int .i64 0] 28)) ∧ Own4 w3.heap.size (.slice none 0 0) (.slice none 0 0) (.slice none 0 0) 0 (w3.alloc (.cells #[.slice none 0 0, .slice none 0 0, .slice none 0 0, .int .i64 0] 28)) ∧ w3.heap.size < (w3.alloc (.cells #[.slice none 0 0, .slice none 0 0, .slice none 0 0, .int .i64 0] 28)).heap.size) := (⟨alloc_next _ _, own4_box _ _ _ _ _ _, by simp⟩ : _ ∧ _ ∧ _)
  go_wp2_with fail
  generalize w3.alloc (.cells #[.slice none 0 0, .slice none 0 0, .slice none 0 0, .int .i64 0] 28) = W4 at *
  refine (to_cols _ _ _ W4 (HL.out.keep (B3.out.trans (H3.out.1.mono B3.out.size))) h20).mono ?_
  rintro e w4 ⟨rfl, hM⟩
  have B4 : Hid (Below w.heap.size w w4) := (B3.out.trans (H3.out.1.mono B3.out.size)).trans (hM.below.mono (Nat.le_trans B3.out.size H3.out.1.size))
  have O4 : Hid (w.heap.size ≤ w3.heap.size ∧ w3.heap.size < W4.heap.size ∧ Own4 w3.heap.size (.slice none 0 0) (.slice none 0 0) (.slice none 0 0) 0 w4) := ⟨B3.out.size, H3.out.2.2, own4_next H3.out.2.1 H3.out.2.2 hM.below⟩
  have X4 : Hid (W4.heap.size < w4.heap.size ∧ ColsAt w4 (some ⟨W4.heap.size, 0, none⟩) L ∧ w4.there W4.heap.size 0 (L.length * 7)) := ⟨hM.2.1, hM.cols, hM.2.2.1⟩
  clear hM H3 B3
  go_wp2_with fail
  refine (impl_new_bad _ _ _ _ X4.out.2.1 hf hm hok).mono ?_
  rintro e w5 ⟨rfl, hb⟩
  have B5 : Hid (Below w.heap.size w w5) := B4.out.trans (hb.mono B4.out.size)
  have O5 : Hid (w.heap.size ≤ w3.heap.size ∧ w3.heap.size < W4.heap.size ∧ Own4 w3.heap.size (.slice none 0 0) (.slice none 0 0) (.slice none 0 0) 0 w5) := ⟨O4.out.1, O4.out.2.1, own4_next O4.out.2.2 (Nat.lt_trans O4.out.2.1 X4.out.1) hb⟩
  have X5 : Hid (W4.heap.size < w5.heap.size ∧ ColsAt w5 (some ⟨W4.heap.size, 0, none⟩) L ∧ w5.there W4.heap.size 0 (L.length * 7)) := ⟨Nat.lt_of_lt_of_le X4.out.1 hb.size, X4.out.2.1.keep hb, there_next X4.out.2.2 X4.out.1 hb⟩
  clear hb B4 O4 X4
  have H5 : Hid (Below w5.heap.size w5 (w5.alloc (.cells #[.slice none 0 0, .slice none 0 0, .slice none 0 0, .int .i64 0] 28)) ∧ Own4 w5.heap.size (.slice none 0 0) (.slice none 0 0) (.slice none 0 0) 0 (w5.alloc (.cells #[.slice none 0 0, .slice none 0 0, .slice none 0 0, .int .i64 0] 28)) ∧ w5.heap.size < (w5.alloc (.cells #[.slice none 0 0, .slice none 0 0, .slice none 0 0, .int .i64 0] 28)).heap.size) := (⟨alloc_next _ _, own4_box _ _ _ _ _ _, by simp⟩ : _ ∧ _ ∧ _)
  have hO5 := own4_next O5.out.2.2 (Nat.lt_trans O5.out.2.1 X5.out.1) H5.out.1
  go_wp2_with fail
  refine (eq_table_none _).mono ?_
  rintro e w6 ⟨rfl, hb⟩
  have D6 : Hid (Dat w w3.heap.size w5.heap.size (.slice none 0 0) (.slice none 0 0) 0 w6) := Dat.next ⟨B5.out.trans (H5.out.1.mono B5.out.size), by have := X5.out.1; have := O5.out.2.1; have := H5.out.2.2; omega, H5.out.2.2, hO5, H5.out.2.1⟩ hb
  have S6 : Hid (w.heap.size ≤ w3.heap.size ∧ w3.heap.size < W4.heap.size ∧ W4.heap.size < w5.heap.size) := ⟨O5.out.1, O5.out.2.1, X5.out.1⟩
  have C6 : Hid (ColsAt w6 (some ⟨W4.heap.size, 0, none⟩) L) := (X5.out.2.1.keep H5.out.1).keep hb
  have T6 : Hid (w6.there W4.heap.size 0 (L.length * 7)) := there_next (there_next X5.out.2.2 X5.out.1 H5.out.1) (Nat.lt_trans X5.out.1 H5.out.2.2) hb
  clear hO5 hb B5 O5 X5 H5
  generalize w3.heap.size = p0 at *
  generalize w5.heap.size = p1 at *
  generalize W4.heap.size = B at *
  go_wp2_with fail
  refine (to_cols _ _ _ _ (HL.out.keep D6.out.1) h20).mono ?_
  rintro e w7 ⟨rfl, hM⟩
  have D7 : Hid (Dat w p0 p1 (.slice none 0 0) (.slice none 0 0) 0 w7) := D6.out.next hM.below
  have C7 : Hid (ColsAt w7 (some ⟨B, 0, none⟩) L) := C6.out.keep hM.below
  have T7 : Hid (w7.there B 0 (L.length * 7)) := there_next T6.out (by have := S6.out; have := D6.out.2.2.1; omega) hM.below
  have Y7 : Hid (ColsAt w7 (some ⟨w6.heap.size, 0, none⟩) L) := hM.cols
  clear hM D6 C6 T6
  go_wp2_with fail
  refine (eq_cols _ _ _ _ _ _ C7.out Y7.out hm).mono ?_
  rintro e w8 ⟨rfl, hb⟩
  have D8 : Hid (Dat w p0 p1 (.slice none 0 0) (.slice none 0 0) 0 w8) := D7.out.next hb
  have T8 : Hid (w8.there B 0 (L.length * 7)) := there_next T7.out (by have := S6.out; have := D7.out.2.2.1; omega) hb
  clear hb D7 C7 T7 Y7
  obtain ⟨m, hm0⟩ : ∃ m, m = 1 + 7 * L.length := ⟨_, rfl⟩
  have HQ : Hid (m = 1 + 7 * L.length) := hm0
  have hmp : (0 : Int) ≤ m := by omega
  have hsm : 1 + 7 * L.length ≤ 100000000 := by omega
  clear hm0
  go_wp2_with fail
  refine (mark_cols B L.length _ 1 _ (by have := S6.out; have := D8.out.2.2.1; omega) T8.out (by omega) hsm).mono ?_
  rintro e w9 ⟨rfl, hK⟩
  rw [← HQ.out]
  have hBw : w.heap.size ≤ B ∧ p0 ≠ B ∧ p1 ≠ B := by have := S6.out; omega
  have D9 : Hid (Dat w p0 p1 (.slice none 0 0) (.slice none 0 0) 0 w9) := D8.out.turn hK.1 hBw.1 hBw.2.1 hBw.2.2
  clear hK D8 T8 hBw
  have hO0 := D9.out.2.2.2.1
  have hO1 := D9.out.2.2.2.2
  go_wp2_with fail
  refine (eq_table_none _).mono ?_
  rintro e w10 ⟨rfl, hb⟩
  have D10 : Hid (Dat w p0 p1 (.slice none 0 0) (.slice none 0 0) 0 w10) := D9.out.next hb
  clear hb D9 hO0 hO1
  have hO1 := D10.out.2.2.2.2
  go_wp2_with fail
  refine (mark_table_nil 0 _).mono ?_
  rintro e w11 ⟨rfl, hb⟩
  have D11 : Hid (Dat w p0 p1 (.slice none 0 0) (.slice none 0 0) 0 w11) := D10.out.next hb
  clear hb D10 hO1
  have hO1 := D11.out.2.2.2.2
  go_wp2_with fail
  refine (held_table_nil 0 _).mono ?_
  rintro e w12 ⟨rfl, hb⟩
  have D12 : Hid (Dat w p0 p1 (.slice none 0 0) (.slice none 0 0) 0 w12) := D11.out.next hb
  clear hb D11 hO1
  go_wp2_with fail
  refine (to_cols _ _ _ _ (HL.out.keep D12.out.1) h20).mono ?_
  rintro e w13 ⟨rfl, hM⟩
  have D13 : Hid (Dat w p0 p1 (.slice none 0 0) (.slice none 0 0) 0 w13) := D12.out.next hM.below
  have Y13 : Hid (ColsAt w13 (some ⟨w12.heap.size, 0, none⟩) L) := hM.cols
  clear hM D12
  go_wp2_with fail
  refine (impl_new_bad _ _ _ _ Y13.out hf hm hok).mono ?_
  rintro e w14 ⟨rfl, hb⟩
  have D14 : Hid (Dat w p0 p1 (.slice none 0 0) (.slice none 0 0) 0 w14) := D13.out.next hb
  clear hb D13 Y13
  have H14 : Hid (Below w14.heap.size w14 (w14.alloc (.cells #[.slice none 0 0, .slice none 0 0, .slice none 0 0, .int .i64 0] 28))) := alloc_next _ _
  have hO0 := (D14.out.next H14.out).2.2.2.1
  go_wp2_with fail
  refine (eq_table_none _).mono ?_
  rintro e w15 ⟨rfl, hb⟩
  have D15 : Hid (Dat w p0 p1 (.slice none 0 0) (.slice none 0 0) 0 w15) := (D14.out.next H14.out).next hb
  clear hb D14 H14 hO0
  have hO1 := D15.out.2.2.2.2
  go_wp2_with fail
  refine (held_table_nil 0 _).mono ?_
  rintro e w16 ⟨rfl, hb⟩
  have B16 : Hid (Below w.heap.size w w16) := (D15.out.next hb).1
  clear hb D15 hO1
  go_wp2_with fail
  go_ret
  exact ⟨rfl, B16.out⟩

set_option maxHeartbeats 1000000 in
theorem law_new (a : Option Addr) (cap : Nat) (L : List ACol) (w : World) (hL : ColsAt w a L) (hf : ∀ c ∈ L, c.fit) (hm : L.length ≤ maxLen) :
    Calls Try.prog 3 #[.slice a L.length cap] w fun e w' => e = .returned (.bool true) ∧ Below w.heap.size w w' := by
  by_cases hl : ((L.length + total L : Nat) : Int) ≤ 1048576
  · cases hok : shapeOk L
    · exact law_new_bad a cap L w hL hf hm hl hok
    · exact law_new_ok a cap L w hL hf hm hl hok
  · have hl' := left_neg hl
    go_enter Try.func3, Try.ntmps3
    go_wp2_with fail
    refine (sz_cols _ _ _ _ _ hL hf hm (by omega) (by omega)).mono ?_
    rintro e w1 ⟨rfl, hb⟩
    rw [hl']
    have h1 : Hid (Below w.heap.size w w1) := hb
    clear hb
    go_wp2_with fail
    go_ret
    exact ⟨rfl, h1.out⟩

end Go.Proofs.Yteckjdoiimifaaa
