/- The walk of laws.FnExactTableNew at columns that are right, over the seat's translation. -/
import Derived.Test.YteckjdoiimifaaaTnT
import Derived.Test.YteckjdoiimifaaaShL
namespace Go.Proofs.Yteckjdoiimifaaa
open Go.RowKit

theorem own4_turn {B C : Nat} {x y z : Value} {n : Int} {W W' : World} (h : Own4 B x y z n W) (ht : Turn C W W') (hB : B < W.heap.size) (hne : B ≠ C) : Own4 B x y z n W' := by
  have hc := fun o => ht.cell hB hne o
  have hf := fun o => ht.frozen hB hne o
  unfold Own4
  simp only [hc, hf]
  exact h

/-- Two boxes of tables lie in W, and W lies over w. -/
def Dat (w : World) (p0 p1 : Nat) (x0 x1 : Value) (nx : Int) (W : World) : Prop :=
  Below w.heap.size w W ∧ p0 < W.heap.size ∧ p1 < W.heap.size ∧ Own4 p0 x0 (.slice none 0 0) (.slice none 0 0) nx W ∧ Own4 p1 x1 (.slice none 0 0) (.slice none 0 0) nx W
theorem Dat.next {w : World} {p0 p1 : Nat} {x0 x1 : Value} {nx : Int} {W W' : World} (h : Dat w p0 p1 x0 x1 nx W) (hb : Below W.heap.size W W') : Dat w p0 p1 x0 x1 nx W' := by
  obtain ⟨h1, h2, h3, h4, h5⟩ := h
  have := hb.size
  exact ⟨h1.trans (hb.mono h1.size), by omega, by omega, own4_next h4 h2 hb, own4_next h5 h3 hb⟩
theorem Dat.turn {w : World} {p0 p1 C : Nat} {x0 x1 : Value} {nx : Int} {W W' : World} (h : Dat w p0 p1 x0 x1 nx W) (ht : Turn C W W') (hw : w.heap.size ≤ C) (h0 : p0 ≠ C) (h1' : p1 ≠ C) : Dat w p0 p1 x0 x1 nx W' := by
  obtain ⟨h1, h2, h3, h4, h5⟩ := h
  have := ht.size
  exact ⟨h1.trans (ht.below hw h1.size), by omega, by omega, own4_turn h4 ht h2 h0, own4_turn h5 ht h3 h1'⟩

/-- Marks lie in block G. -/
def Marks (G n : Nat) (W : World) : Prop := G < W.heap.size ∧ ∀ j, j < n → W.rangeAt G (j * 7) (mkCol (1 + 7 * j)).cells
theorem Marks.next {G n : Nat} {W W' : World} (h : Marks G n W) (hb : Below W.heap.size W W') : Marks G n W' :=
  ⟨Nat.lt_of_lt_of_le h.1 hb.size, fun j hj x v hv => by rw [(bcell hb).1 _ _ h.1]; exact h.2 j hj x v hv⟩
theorem Marked.marks {w : World} {B n : Nat} {W : World} (h : Marked w B n 1 n W) : Marks B n W := ⟨h.2.1, h.2.2.2⟩

theorem ok_len {L : List ACol} (h : shapeOk L = true) : 1 ≤ L.length ∧ L.length ≤ 5 := by
  unfold shapeOk at h
  simp only [Bool.and_eq_true, decide_eq_true_eq] at h
  exact h.2

/-- The columns lie at block b in W, below block C. -/
def At0 (b C : Nat) (L : List ACol) (W : World) : Prop := b < W.heap.size ∧ b < C ∧ ColsAt W (some ⟨b, 0, none⟩) L

set_option maxRecDepth 100000 in
set_option maxHeartbeats 4000000 in
theorem law_new_ok (a : Option Addr) (cap : Nat) (L : List ACol) (w : World) (hL : ColsAt w a L) (hf : ∀ c ∈ L, c.fit) (hm : L.length ≤ maxLen) (hl : ((L.length + total L : Nat) : Int) ≤ 1048576) (hok : shapeOk L = true) :
    Calls Try.prog 3 #[.slice a L.length cap] w fun e w' => e = .returned (.bool true) ∧ Below w.heap.size w w' := by
  have hl' := left_pos hl
  have hp : (0 : Int) ≤ 1048576 - ((L.length + total L : Nat) : Int) := by omega
  have h15 := ok_len hok
  have h1 := h15.1
  have h20 : L.length ≤ 1048576 := by omega
  have HL : Hid (ColsAt w a L) := hL
  go_enter Try.func3, Try.ntmps3
  go_wp2_with fail
  refine (sz_cols _ _ _ _ _ hL hf hm (by omega) (by omega)).mono ?_
  rintro e w1 ⟨rfl, hb⟩
  rw [hl']
  clear hl'
  generalize 1048576 - ((L.length + total L : Nat) : Int) = z at hp ⊢
  have B1 : Hid (Below w.heap.size w w1) := hb
  clear hL hb hl
  go_wp2_with fail
  refine (to_cols _ _ _ _ (HL.out.keep B1.out) h20).mono ?_
  rintro e w2 ⟨rfl, hM⟩
  have B2 : Hid (Below w.heap.size w w2) := B1.out.trans (hM.below.mono B1.out.size)
  have hX : Hid (ColsAt w2 (some ⟨w1.heap.size, 0, none⟩) L) := hM.cols
  clear hM B1
  go_wp2_with fail
  refine (spec_new _ _ _ _ _ hX.out hf h1 h20 hok).mono ?_
  rintro e w3 ⟨b0, c0, rfl, hN⟩
  have B3 : Hid (Below w.heap.size w w3) := B2.out.trans (hN.2.2.2.2.mono B2.out.size)
  have N3 : Hid (w.heap.size ≤ b0 ∧ b0 < w3.heap.size ∧ ColsAt w3 (some ⟨b0, 0, none⟩) L) := ⟨Nat.le_trans B2.out.size hN.1, hN.2.1, hN.2.2.1⟩
  clear hN hX B2
  have n3 : Below w3.heap.size w3 (w3.alloc (.cells #[.slice (some ⟨b0, 0, none⟩) L.length c0, .slice none 0 0, .slice none 0 0, .int .i64 1] 28)) ∧ Own4 w3.heap.size (.slice (some ⟨b0, 0, none⟩) L.length c0) (.slice none 0 0) (.slice none 0 0) 1 (w3.alloc (.cells #[.slice (some ⟨b0, 0, none⟩) L.length c0, .slice none 0 0, .slice none 0 0, .int .i64 1] 28)) ∧ w3.heap.size < (w3.alloc (.cells #[.slice (some ⟨b0, 0, none⟩) L.length c0, .slice none 0 0, .slice none 0 0, .int .i64 1] 28)).heap.size := ⟨alloc_next _ _, own4_box _ _ _ _ _ _, by simp⟩
  have H3 : Hid (Below w3.heap.size w3 (w3.alloc (.cells #[.slice (some ⟨b0, 0, none⟩) L.length c0, .slice none 0 0, .slice none 0 0, .int .i64 1] 28)) ∧ Own4 w3.heap.size (.slice (some ⟨b0, 0, none⟩) L.length c0) (.slice none 0 0) (.slice none 0 0) 1 (w3.alloc (.cells #[.slice (some ⟨b0, 0, none⟩) L.length c0, .slice none 0 0, .slice none 0 0, .int .i64 1] 28)) ∧ w3.heap.size < (w3.alloc (.cells #[.slice (some ⟨b0, 0, none⟩) L.length c0, .slice none 0 0, .slice none 0 0, .int .i64 1] 28)).heap.size) := n3
  clear n3
  go_wp2_with fail
  generalize w3.alloc (.cells #[.slice (some ⟨b0, 0, none⟩) L.length c0, .slice none 0 0, .slice none 0 0, .int .i64 1] 28) = W4 at *
  refine (to_cols _ _ _ W4 (HL.out.keep (B3.out.trans (H3.out.1.mono B3.out.size))) h20).mono ?_
  rintro e w4 ⟨rfl, hM⟩
  have B4 : Hid (Below w.heap.size w w4) := (B3.out.trans (H3.out.1.mono B3.out.size)).trans (hM.below.mono (Nat.le_trans B3.out.size H3.out.1.size))
  have N4 : Hid (w.heap.size ≤ b0 ∧ b0 < W4.heap.size ∧ ColsAt w4 (some ⟨b0, 0, none⟩) L) := ⟨N3.out.1, Nat.lt_of_lt_of_le N3.out.2.1 H3.out.1.size, (N3.out.2.2.keep H3.out.1).keep hM.below⟩
  have O4 : Hid (w.heap.size ≤ w3.heap.size ∧ w3.heap.size < W4.heap.size ∧ Own4 w3.heap.size (.slice (some ⟨b0, 0, none⟩) L.length c0) (.slice none 0 0) (.slice none 0 0) 1 w4) := ⟨B3.out.size, H3.out.2.2, own4_next H3.out.2.1 H3.out.2.2 hM.below⟩
  have X4 : Hid (W4.heap.size < w4.heap.size ∧ ColsAt w4 (some ⟨W4.heap.size, 0, none⟩) L ∧ w4.there W4.heap.size 0 (L.length * 7)) := ⟨hM.2.1, hM.cols, hM.2.2.1⟩
  clear hM H3 B3 N3
  go_wp2_with fail
  refine (impl_new _ _ _ _ _ X4.out.2.1 hf h1 h20 hok).mono ?_
  rintro e w5 ⟨G, c1, rfl, hN⟩
  have B5 : Hid (Below w.heap.size w w5) := B4.out.trans (hN.2.2.2.2.mono B4.out.size)
  have N5 : Hid (w.heap.size ≤ b0 ∧ b0 < W4.heap.size ∧ ColsAt w5 (some ⟨b0, 0, none⟩) L) := ⟨N4.out.1, N4.out.2.1, N4.out.2.2.keep hN.2.2.2.2⟩
  have O5 : Hid (w.heap.size ≤ w3.heap.size ∧ w3.heap.size < W4.heap.size ∧ Own4 w3.heap.size (.slice (some ⟨b0, 0, none⟩) L.length c0) (.slice none 0 0) (.slice none 0 0) 1 w5) := ⟨O4.out.1, O4.out.2.1, own4_next O4.out.2.2 (Nat.lt_trans O4.out.2.1 X4.out.1) hN.2.2.2.2⟩
  have X5 : Hid (W4.heap.size < G ∧ ColsAt w5 (some ⟨W4.heap.size, 0, none⟩) L ∧ w5.there W4.heap.size 0 (L.length * 7)) := ⟨Nat.lt_of_lt_of_le X4.out.1 hN.1, X4.out.2.1.keep hN.2.2.2.2, there_next X4.out.2.2 X4.out.1 hN.2.2.2.2⟩
  have G5 : Hid (G < w5.heap.size ∧ ColsAt w5 (some ⟨G, 0, none⟩) L ∧ w5.there G 0 (L.length * 7)) := ⟨hN.2.1, hN.2.2.1, hN.2.2.2.1⟩
  clear hN B4 N4 O4 X4
  have H5 : Hid (Below w5.heap.size w5 (w5.alloc (.cells #[.slice (some ⟨G, 0, none⟩) L.length c1, .slice none 0 0, .slice none 0 0, .int .i64 1] 28)) ∧ Own4 w5.heap.size (.slice (some ⟨G, 0, none⟩) L.length c1) (.slice none 0 0) (.slice none 0 0) 1 (w5.alloc (.cells #[.slice (some ⟨G, 0, none⟩) L.length c1, .slice none 0 0, .slice none 0 0, .int .i64 1] 28)) ∧ w5.heap.size < (w5.alloc (.cells #[.slice (some ⟨G, 0, none⟩) L.length c1, .slice none 0 0, .slice none 0 0, .int .i64 1] 28)).heap.size) := (⟨alloc_next _ _, own4_box _ _ _ _ _ _, by simp⟩ : _ ∧ _ ∧ _)
  have hO5 := own4_next O5.out.2.2 (by have := X5.out.1; have := G5.out.1; have := O5.out.2.1; omega) H5.out.1
  go_wp2_with fail
  refine (eq_table_new _ _ _ _ L 1 _ (G5.out.2.1.keep H5.out.1) (N5.out.2.2.keep H5.out.1) hm).mono ?_
  rintro e w6 ⟨rfl, hb⟩
  have D6 : Hid (Dat w w3.heap.size w5.heap.size (.slice (some ⟨b0, 0, none⟩) L.length c0) (.slice (some ⟨G, 0, none⟩) L.length c1) 1 w6) := Dat.next ⟨B5.out.trans (H5.out.1.mono B5.out.size), by have := X5.out.1; have := G5.out.1; have := O5.out.2.1; have := H5.out.2.2; omega, H5.out.2.2, hO5, H5.out.2.1⟩ hb
  have S6 : Hid (w.heap.size ≤ b0 ∧ b0 < W4.heap.size ∧ w.heap.size ≤ w3.heap.size ∧ w3.heap.size < W4.heap.size ∧ W4.heap.size < G ∧ G < w5.heap.size) := ⟨N5.out.1, N5.out.2.1, O5.out.1, O5.out.2.1, X5.out.1, G5.out.1⟩
  have bb := hb.mono H5.out.1.size
  have C6 : Hid (ColsAt w6 (some ⟨b0, 0, none⟩) L ∧ ColsAt w6 (some ⟨W4.heap.size, 0, none⟩) L ∧ ColsAt w6 (some ⟨G, 0, none⟩) L) := ⟨(N5.out.2.2.keep H5.out.1).keep hb, (X5.out.2.1.keep H5.out.1).keep hb, (G5.out.2.1.keep H5.out.1).keep hb⟩
  have T6 : Hid (w6.there W4.heap.size 0 (L.length * 7) ∧ w6.there G 0 (L.length * 7)) :=
    ⟨there_next (there_next X5.out.2.2 (Nat.lt_trans X5.out.1 G5.out.1) H5.out.1) (Nat.lt_trans (Nat.lt_trans X5.out.1 G5.out.1) H5.out.2.2) hb, there_next (there_next G5.out.2.2 G5.out.1 H5.out.1) (Nat.lt_trans G5.out.1 H5.out.2.2) hb⟩
  clear hO5 hb bb B5 N5 O5 X5 G5 H5
  generalize w3.heap.size = p0 at *
  generalize w5.heap.size = p1 at *
  generalize W4.heap.size = B at *
  go_wp2_with fail
  refine (to_cols _ _ _ _ (HL.out.keep D6.out.1) h20).mono ?_
  rintro e w7 ⟨rfl, hM⟩
  have D7 : Hid (Dat w p0 p1 (.slice (some ⟨b0, 0, none⟩) L.length c0) (.slice (some ⟨G, 0, none⟩) L.length c1) 1 w7) := D6.out.next hM.below
  have C7 : Hid (ColsAt w7 (some ⟨b0, 0, none⟩) L ∧ ColsAt w7 (some ⟨B, 0, none⟩) L ∧ ColsAt w7 (some ⟨G, 0, none⟩) L) := ⟨C6.out.1.keep hM.below, C6.out.2.1.keep hM.below, C6.out.2.2.keep hM.below⟩
  have T7 : Hid (w7.there B 0 (L.length * 7) ∧ w7.there G 0 (L.length * 7)) :=
    ⟨there_next T6.out.1 (by have := S6.out; have := D6.out.2.2.1; omega) hM.below, there_next T6.out.2 (by have := S6.out; have := D6.out.2.2.1; omega) hM.below⟩
  have Y7 : Hid (ColsAt w7 (some ⟨w6.heap.size, 0, none⟩) L) := hM.cols
  clear hM D6 C6 T6
  go_wp2_with fail
  refine (eq_cols _ _ _ _ _ _ C7.out.2.1 Y7.out hm).mono ?_
  rintro e w8 ⟨rfl, hb⟩
  have D8 : Hid (Dat w p0 p1 (.slice (some ⟨b0, 0, none⟩) L.length c0) (.slice (some ⟨G, 0, none⟩) L.length c1) 1 w8) := D7.out.next hb
  have C8 : Hid (ColsAt w8 (some ⟨b0, 0, none⟩) L ∧ ColsAt w8 (some ⟨G, 0, none⟩) L) := ⟨C7.out.1.keep hb, C7.out.2.2.keep hb⟩
  have T8 : Hid (w8.there B 0 (L.length * 7) ∧ w8.there G 0 (L.length * 7)) :=
    ⟨there_next T7.out.1 (by have := S6.out; have := D7.out.2.2.1; omega) hb, there_next T7.out.2 (by have := S6.out; have := D7.out.2.2.1; omega) hb⟩
  clear hb D7 C7 T7 Y7
  obtain ⟨m, hm0⟩ : ∃ m, m = 1 + 7 * L.length := ⟨_, rfl⟩
  have HQ : Hid (m = 1 + 7 * L.length) := hm0
  have hmp : (0 : Int) ≤ m := by omega
  have hsm : 1 + 7 * L.length ≤ 100000000 := by omega
  clear hm0
  go_wp2_with fail
  refine (mark_cols B L.length _ 1 _ (by have := S6.out; have := D8.out.2.2.1; omega) T8.out.1 (by omega) hsm).mono ?_
  rintro e w9 ⟨rfl, hK⟩
  rw [← HQ.out]
  have hBw : w.heap.size ≤ B ∧ p0 ≠ B ∧ p1 ≠ B ∧ b0 ≠ B ∧ G ≠ B := by have := S6.out; omega
  have D9 : Hid (Dat w p0 p1 (.slice (some ⟨b0, 0, none⟩) L.length c0) (.slice (some ⟨G, 0, none⟩) L.length c1) 1 w9) := D8.out.turn hK.1 hBw.1 hBw.2.1 hBw.2.2.1
  have C9 : Hid (ColsAt w9 (some ⟨b0, 0, none⟩) L ∧ ColsAt w9 (some ⟨G, 0, none⟩) L) := ⟨hK.1.cols C8.out.1 (fun b o e => by cases e; exact hBw.2.2.2.1), hK.1.cols C8.out.2 (fun b o e => by cases e; exact hBw.2.2.2.2)⟩
  have T9 : Hid (w9.there G 0 (L.length * 7)) := fun j hj => by
    have hg : G < w8.heap.size := by have := S6.out; have := D8.out.2.2.1; omega
    rw [hK.1.cell hg hBw.2.2.2.2, hK.1.frozen hg hBw.2.2.2.2]
    exact T8.out.2 j hj
  clear hK D8 C8 T8 hBw
  have hO0 := D9.out.2.2.2.1
  have hO1 := D9.out.2.2.2.2
  go_wp2_with fail
  refine (eq_table_new _ _ _ _ L 1 _ C9.out.2 C9.out.1 hm).mono ?_
  rintro e w10 ⟨rfl, hb⟩
  have D10 : Hid (Dat w p0 p1 (.slice (some ⟨b0, 0, none⟩) L.length c0) (.slice (some ⟨G, 0, none⟩) L.length c1) 1 w10) := D9.out.next hb
  have C10 : Hid (ColsAt w10 (some ⟨b0, 0, none⟩) L) := C9.out.1.keep hb
  have T10 : Hid (w10.there G 0 (L.length * 7)) := there_next T9.out (by have := S6.out; have := D9.out.2.2.1; omega) hb
  clear hb D9 C9 T9 hO0 hO1
  have hO1 := D10.out.2.2.2.2
  go_wp2_with fail
  refine (mark_table_new G L.length c1 m 1 _ (by have := S6.out; have := D10.out.2.2.1; omega) T10.out hsm HQ.out).mono ?_
  rintro e w11 ⟨rfl, hK⟩
  have hGw : w.heap.size ≤ G ∧ p0 ≠ G ∧ p1 ≠ G ∧ b0 ≠ G := by have := S6.out; omega
  have D11 : Hid (Dat w p0 p1 (.slice (some ⟨b0, 0, none⟩) L.length c0) (.slice (some ⟨G, 0, none⟩) L.length c1) 1 w11) := D10.out.turn hK.1 hGw.1 hGw.2.1 hGw.2.2.1
  have C11 : Hid (ColsAt w11 (some ⟨b0, 0, none⟩) L) := hK.1.cols C10.out (fun b o e => by cases e; exact hGw.2.2.2)
  have M11 : Hid (Marks G L.length w11) := hK.marks
  clear hK D10 C10 T10 hGw hO1
  have hO1 := D11.out.2.2.2.2
  go_wp2_with fail
  refine (held_table_new G L.length c1 m 1 _ M11.out.1 M11.out.2 hsm HQ.out).mono ?_
  rintro e w12 ⟨rfl, hb⟩
  have D12 : Hid (Dat w p0 p1 (.slice (some ⟨b0, 0, none⟩) L.length c0) (.slice (some ⟨G, 0, none⟩) L.length c1) 1 w12) := D11.out.next hb
  have C12 : Hid (ColsAt w12 (some ⟨b0, 0, none⟩) L) := C11.out.keep hb
  have M12 : Hid (Marks G L.length w12) := M11.out.next hb
  clear hb D11 C11 M11 hO1
  go_wp2_with fail
  refine (to_cols _ _ _ _ (HL.out.keep D12.out.1) h20).mono ?_
  rintro e w13 ⟨rfl, hM⟩
  have D13 : Hid (Dat w p0 p1 (.slice (some ⟨b0, 0, none⟩) L.length c0) (.slice (some ⟨G, 0, none⟩) L.length c1) 1 w13) := D12.out.next hM.below
  have C13 : Hid (ColsAt w13 (some ⟨b0, 0, none⟩) L) := C12.out.keep hM.below
  have M13 : Hid (Marks G L.length w13) := M12.out.next hM.below
  have Y13 : Hid (ColsAt w13 (some ⟨w12.heap.size, 0, none⟩) L) := hM.cols
  clear hM D12 C12 M12
  go_wp2_with fail
  refine (impl_new _ _ _ _ _ Y13.out hf h1 h20 hok).mono ?_
  rintro e w14 ⟨b2, c2, rfl, hN⟩
  have D14 : Hid (Dat w p0 p1 (.slice (some ⟨b0, 0, none⟩) L.length c0) (.slice (some ⟨G, 0, none⟩) L.length c1) 1 w14) := D13.out.next hN.2.2.2.2
  have C14 : Hid (ColsAt w14 (some ⟨b0, 0, none⟩) L ∧ ColsAt w14 (some ⟨b2, 0, none⟩) L) := ⟨C13.out.keep hN.2.2.2.2, hN.2.2.1⟩
  have M14 : Hid (Marks G L.length w14) := M13.out.next hN.2.2.2.2
  clear hN D13 C13 M13 Y13
  have H14 : Hid (Below w14.heap.size w14 (w14.alloc (.cells #[.slice (some ⟨b2, 0, none⟩) L.length c2, .slice none 0 0, .slice none 0 0, .int .i64 1] 28))) := alloc_next _ _
  have hO0 := (D14.out.next H14.out).2.2.2.1
  go_wp2_with fail
  refine (eq_table_new _ _ _ _ L 1 _ (C14.out.2.keep H14.out) (C14.out.1.keep H14.out) hm).mono ?_
  rintro e w15 ⟨rfl, hb⟩
  have D15 : Hid (Dat w p0 p1 (.slice (some ⟨b0, 0, none⟩) L.length c0) (.slice (some ⟨G, 0, none⟩) L.length c1) 1 w15) := (D14.out.next H14.out).next hb
  have M15 : Hid (Marks G L.length w15) := (M14.out.next H14.out).next hb
  clear hb D14 C14 M14 H14 hO0
  have hO1 := D15.out.2.2.2.2
  go_wp2_with fail
  refine (held_table_new G L.length c1 m 1 _ M15.out.1 M15.out.2 hsm HQ.out).mono ?_
  rintro e w16 ⟨rfl, hb⟩
  have B16 : Hid (Below w.heap.size w w16) := (D15.out.next hb).1
  clear hb D15 M15 hO1
  go_wp2_with fail
  go_ret
  exact ⟨rfl, B16.out⟩

end Go.Proofs.Yteckjdoiimifaaa
