/- The contract of laws.toTable, over the seat's translation. -/
import Derived.Test.YteckjdoiimifaaaTsC3
namespace Go.Proofs.Yteckjdoiimifaaa
open Go.RowKit

/-- The box at B holds a table in W, and may be written. -/
abbrev OwnT (B : Nat) (x y z : Value) (n : Int) (W : World) : Prop :=
  W.cell? ⟨B, 0, none⟩ = some x ∧ W.cell? ⟨B, 1, none⟩ = some y ∧ W.cell? ⟨B, 2, none⟩ = some z ∧ W.cell? ⟨B, 3, none⟩ = some (.int .i64 n) ∧
    W.frozen? ⟨B, 0, none⟩ = false ∧ W.frozen? ⟨B, 1, none⟩ = false ∧ W.frozen? ⟨B, 2, none⟩ = false ∧ W.frozen? ⟨B, 3, none⟩ = false
theorem ownT_next {B C : Nat} {x y z : Value} {n : Int} {W W' : World} (h : OwnT B x y z n W) (hB : B < C) (hb : Below C W W') : OwnT B x y z n W' := by
  have hc := fun o => hb.cell (p := ⟨B, o, none⟩) hB
  have hf := fun o => hb.frozen (p := ⟨B, o, none⟩) hB
  unfold OwnT
  simp only [hc, hf]
  exact h
theorem ownT_box (w : World) (x y z : Value) (n : Int) (t : TypeId) : OwnT w.heap.size x y z n (w.alloc (.cells #[x, y, z, .int .i64 n] t)) := by
  refine ⟨?_, ?_, ?_, ?_, ?_, ?_, ?_, ?_⟩
  all_goals go_simp

theorem ownT_set {B C o : Nat} {x y z v : Value} {n : Int} {W : World} (h : OwnT B x y z n W) (hne : B ≠ C) : OwnT B x y z n (W.setCell ⟨C, o, none⟩ v) := by
  have hc := fun p => World.cell?_of_block (w := W) (w' := W.setCell ⟨C, o, none⟩ v) (a := ⟨B, p, none⟩) (Below.heap_setCell W ⟨C, o, none⟩ v B hne)
  have hf := fun p => World.frozen?_of_block (w := W) (w' := W.setCell ⟨C, o, none⟩ v) (a := ⟨B, p, none⟩) (Below.heap_setCell W ⟨C, o, none⟩ v B hne)
  unfold OwnT
  simp only [hc, hf]
  exact h
theorem boxt_set {B C o : Nat} {x y z v : Value} {n : Int} {W : World} (h : BoxT B x y z n W) (hne : B ≠ C) : BoxT B x y z n (W.setCell ⟨C, o, none⟩ v) := by
  have hc := fun p => World.cell?_of_block (w := W) (w' := W.setCell ⟨C, o, none⟩ v) (a := ⟨B, p, none⟩) (Below.heap_setCell W ⟨C, o, none⟩ v B hne)
  unfold BoxT
  simp only [hc]
  exact h
theorem ownT_put0 {B : Nat} {x y z v : Value} {n : Int} {W : World} (h : OwnT B x y z n W) : OwnT B v y z n (W.setCell ⟨B, 0, none⟩ v) := by
  obtain ⟨h0, h1, h2, h3, f0, f1, f2, f3⟩ := h
  refine ⟨?_, ?_, ?_, ?_, ?_, ?_, ?_, ?_⟩
  all_goals go_simp
theorem ownT_put1 {B : Nat} {x y z v : Value} {n : Int} {W : World} (h : OwnT B x y z n W) : OwnT B x v z n (W.setCell ⟨B, 1, none⟩ v) := by
  obtain ⟨h0, h1, h2, h3, f0, f1, f2, f3⟩ := h
  refine ⟨?_, ?_, ?_, ?_, ?_, ?_, ?_, ?_⟩
  all_goals go_simp

/-- Rows in block B of W, their values in blocks behind it. -/
def HiRows (B : Nat) (L : List ARow) (W : World) : Prop :=
  B < W.heap.size ∧ ∀ i r, L[i]? = some r → ∃ b rc, B < b ∧ b < W.heap.size ∧ W.rangeAt B (i * 3) (r.cells (some ⟨b, 0, none⟩) rc) ∧ ValsAt W (some ⟨b, 0, none⟩) r.vals
theorem MadeR.high {w : World} {B n : Nat} {L : List ARow} {W : World} (h : MadeR w B n L.length L W) : HiRows B L W := ⟨h.2.1, fun i c hc => h.2.2.2 i c (List.getElem?_eq_some_iff.1 hc).1 hc⟩
theorem HiRows.rows {B : Nat} {L : List ARow} {W : World} (h : HiRows B L W) : RowsAt W (some ⟨B, 0, none⟩) L :=
  Or.inr ⟨B, 0, rfl, h.1, fun i c hc => by
    obtain ⟨b, rc, _, _, a3, a4⟩ := h.2 i c hc
    exact ⟨some ⟨b, 0, none⟩, rc, by rw [Nat.zero_add]; exact a3, a4⟩⟩
theorem HiRows.set {B C o : Nat} {L : List ARow} {W : World} {v : Value} (h : HiRows B L W) (hC : C < B) : HiRows B L (W.setCell ⟨C, o, none⟩ v) := by
  refine ⟨by simpa [World.setCell] using h.1, fun i c hc => ?_⟩
  obtain ⟨b, rc, a1, a2, a3, a4⟩ := h.2 i c hc
  refine ⟨b, rc, a1, by simpa [World.setCell] using a2, fun j u hu => ?_, vals_sets (o := o) a4 (by omega) [v]⟩
  rw [cell_set (by omega)]
  exact a3 j u hu
theorem cols_set {W : World} {b C o : Nat} {L : List ACol} {v : Value} (h : ColsAt W (some ⟨b, 0, none⟩) L) (hC : C < b) : ColsAt (W.setCell ⟨C, o, none⟩ v) (some ⟨b, 0, none⟩) L := by
  rcases h with h3 | ⟨b', o', e, hlt, hr⟩
  · exact Or.inl h3
  · cases e
    refine Or.inr ⟨b, 0, rfl, by simpa [World.setCell] using hlt, fun i c hc j u hu => ?_⟩
    rw [cell_set (by omega)]
    exact hr i c hc j u hu
theorem chgs_set {W : World} {b C o : Nat} {L : List AChg} {v : Value} (h : ChgsAt W (some ⟨b, 0, none⟩) L) (hC : C < b) : ChgsAt (W.setCell ⟨C, o, none⟩ v) (some ⟨b, 0, none⟩) L := by
  rcases h with h3 | ⟨b', o', e, hlt, hr⟩
  · exact Or.inl h3
  · cases e
    refine Or.inr ⟨b, 0, rfl, by simpa [World.setCell] using hlt, fun i c hc j u hu => ?_⟩
    rw [cell_set (by omega)]
    exact hr i c hc j u hu

/-- A table made anew: in blocks behind w, and W lies over w. -/
def NewTab (w : World) (b0 b1 b2 : Nat) (t : ATab) (W : World) : Prop :=
  (ColsAt W (some ⟨b0, 0, none⟩) t.cols ∧ w.heap.size ≤ b0 ∧ w.heap.size ≤ b1 ∧ w.heap.size ≤ b2) ∧ ChgsAt W (some ⟨b1, 0, none⟩) t.chgs ∧ HiRows b2 t.rows W ∧ Below w.heap.size w W
theorem NewTab.set {w : World} {b0 b1 b2 C o : Nat} {t : ATab} {W : World} {v : Value} (h : NewTab w b0 b1 b2 t W) (h0 : C < b0) (h1 : C < b1) (h2 : C < b2) (hw : w.heap.size ≤ C) : NewTab w b0 b1 b2 t (W.setCell ⟨C, o, none⟩ v) :=
  ⟨⟨cols_set h.1.1 h0, h.1.2⟩, chgs_set h.2.1 h1, h.2.2.1.set h2, h.2.2.2.setCell hw v⟩
theorem NewTab.tab {w : World} {b0 b1 b2 : Nat} {t : ATab} {W : World} (h : NewTab w b0 b1 b2 t W) : TabAt W (some ⟨b0, 0, none⟩) (some ⟨b1, 0, none⟩) (some ⟨b2, 0, none⟩) t := ⟨h.1.1, h.2.1, h.2.2.1.rows⟩

set_option maxRecDepth 100000 in
set_option maxHeartbeats 2000000 in
theorem to_table (t : ATab) (a0 a1 a2 : Option Addr) (c0 c1 c2 : Nat) (w : World) (hT : TabAt w a0 a1 a2 t) (hn : t.near) :
    Calls Try.prog 17 #[.agg #[.slice a0 t.cols.length c0, .slice a1 t.chgs.length c1, .slice a2 t.rows.length c2, .int .i64 t.nx]] w fun e w' => ∃ b0 b1 b2, e = .returned (.agg #[.slice (some ⟨b0, 0, none⟩) t.cols.length t.cols.length, .slice (some ⟨b1, 0, none⟩) t.chgs.length t.chgs.length, .slice (some ⟨b2, 0, none⟩) t.rows.length t.rows.length, .int .i64 t.nx]) ∧ NewTab w b0 b1 b2 t w' := by
  have HT : Hid (TabAt w a0 a1 a2 t) := hT
  have H3 : Hid (Below w.heap.size w (((w.alloc (.cells #[.slice a0 t.cols.length c0, .slice a1 t.chgs.length c1, .slice a2 t.rows.length c2, .int .i64 t.nx] 39)).alloc (.cells #[.slice none 0 0, .slice none 0 0, .slice none 0 0, .int .i64 0] 28)).alloc (.cells #[.slice none 0 0, .slice none 0 0, .slice none 0 0, .int .i64 0] 28))) :=
    (((Below.refl w.heap.size w).alloc (Nat.le_refl _) _).alloc (by simp) _).alloc (by simp; omega) _
  have hA := boxt_next (boxt_box w (.slice a0 t.cols.length c0) (.slice a1 t.chgs.length c1) (.slice a2 t.rows.length c2) t.nx 39) (C := w.heap.size + 1) (by omega) (((Below.refl (w.heap.size + 1) (w.alloc (.cells #[.slice a0 t.cols.length c0, .slice a1 t.chgs.length c1, .slice a2 t.rows.length c2, .int .i64 t.nx] 39))).alloc (by simp) (.cells #[.slice none 0 0, .slice none 0 0, .slice none 0 0, .int .i64 0] 28)).alloc (by simp) (.cells #[.slice none 0 0, .slice none 0 0, .slice none 0 0, .int .i64 0] 28))
  have hR := ownT_next (ownT_box (w.alloc (.cells #[.slice a0 t.cols.length c0, .slice a1 t.chgs.length c1, .slice a2 t.rows.length c2, .int .i64 t.nx] 39)) (.slice none 0 0) (.slice none 0 0) (.slice none 0 0) 0 28) (C := w.heap.size + 2) (by simp) ((Below.refl (w.heap.size + 2) ((w.alloc (.cells #[.slice a0 t.cols.length c0, .slice a1 t.chgs.length c1, .slice a2 t.rows.length c2, .int .i64 t.nx] 39)).alloc (.cells #[.slice none 0 0, .slice none 0 0, .slice none 0 0, .int .i64 0] 28))).alloc (by simp) (.cells #[.slice none 0 0, .slice none 0 0, .slice none 0 0, .int .i64 0] 28))
  have hO := ownT_box ((w.alloc (.cells #[.slice a0 t.cols.length c0, .slice a1 t.chgs.length c1, .slice a2 t.rows.length c2, .int .i64 t.nx] 39)).alloc (.cells #[.slice none 0 0, .slice none 0 0, .slice none 0 0, .int .i64 0] 28)) (.slice none 0 0) (.slice none 0 0) (.slice none 0 0) 0 28
  simp only [size_alloc] at hR hO
  have HS : Hid ((((w.alloc (.cells #[.slice a0 t.cols.length c0, .slice a1 t.chgs.length c1, .slice a2 t.rows.length c2, .int .i64 t.nx] 39)).alloc (.cells #[.slice none 0 0, .slice none 0 0, .slice none 0 0, .int .i64 0] 28)).alloc (.cells #[.slice none 0 0, .slice none 0 0, .slice none 0 0, .int .i64 0] 28)).heap.size = w.heap.size + 3) := by
    show _ = _
    simp only [size_alloc]
  have HA : Hid (BoxT w.heap.size (.slice a0 t.cols.length c0) (.slice a1 t.chgs.length c1) (.slice a2 t.rows.length c2) t.nx (((w.alloc (.cells #[.slice a0 t.cols.length c0, .slice a1 t.chgs.length c1, .slice a2 t.rows.length c2, .int .i64 t.nx] 39)).alloc (.cells #[.slice none 0 0, .slice none 0 0, .slice none 0 0, .int .i64 0] 28)).alloc (.cells #[.slice none 0 0, .slice none 0 0, .slice none 0 0, .int .i64 0] 28))) := hA
  have HRO : Hid (OwnT (w.heap.size + 1) (.slice none 0 0) (.slice none 0 0) (.slice none 0 0) 0 (((w.alloc (.cells #[.slice a0 t.cols.length c0, .slice a1 t.chgs.length c1, .slice a2 t.rows.length c2, .int .i64 t.nx] 39)).alloc (.cells #[.slice none 0 0, .slice none 0 0, .slice none 0 0, .int .i64 0] 28)).alloc (.cells #[.slice none 0 0, .slice none 0 0, .slice none 0 0, .int .i64 0] 28)) ∧ OwnT (w.heap.size + 1 + 1) (.slice none 0 0) (.slice none 0 0) (.slice none 0 0) 0 (((w.alloc (.cells #[.slice a0 t.cols.length c0, .slice a1 t.chgs.length c1, .slice a2 t.rows.length c2, .int .i64 t.nx] 39)).alloc (.cells #[.slice none 0 0, .slice none 0 0, .slice none 0 0, .int .i64 0] 28)).alloc (.cells #[.slice none 0 0, .slice none 0 0, .slice none 0 0, .int .i64 0] 28))) := ⟨hR, hO⟩
  clear hA hR hO hT
  go_enter Try.func17, Try.ntmps17
  go_wp2_with fail
  generalize ((w.alloc (.cells #[.slice a0 t.cols.length c0, .slice a1 t.chgs.length c1, .slice a2 t.rows.length c2, .int .i64 t.nx] 39)).alloc (.cells #[.slice none 0 0, .slice none 0 0, .slice none 0 0, .int .i64 0] 28)).alloc (.cells #[.slice none 0 0, .slice none 0 0, .slice none 0 0, .int .i64 0] 28) = W3 at *
  have hq3 : w.heap.size + 3 ≤ W3.heap.size := Nat.le_of_eq HS.out.symm
  clear HS
  refine (to_cols _ _ _ _ (HT.out.keep H3.out).1 hn.1).mono ?_
  rintro e w1 ⟨rfl, hM⟩
  have hz1 : W3.heap.size < w1.heap.size := hM.2.1
  have B1 : Hid (Below w.heap.size w w1) := H3.out.trans (hM.below.mono H3.out.size)
  have X1 : Hid (ColsAt w1 (some ⟨W3.heap.size, 0, none⟩) t.cols) := hM.cols
  have hA := boxt_next HA.out (by omega) hM.below
  have hR := ownT_next HRO.out.1 (by omega) hM.below
  have hO := ownT_next HRO.out.2 (by omega) hM.below
  clear hM H3 HA HRO
  generalize W3.heap.size = q0 at *
  have F1 : Hid (BoxT w.heap.size (.slice a0 t.cols.length c0) (.slice a1 t.chgs.length c1) (.slice a2 t.rows.length c2) t.nx (w1.setCell ⟨w.heap.size + 1 + 1, 0, none⟩ (.slice (some ⟨q0, 0, none⟩) t.cols.length t.cols.length)) ∧
      OwnT (w.heap.size + 1) (.slice none 0 0) (.slice none 0 0) (.slice none 0 0) 0 (w1.setCell ⟨w.heap.size + 1 + 1, 0, none⟩ (.slice (some ⟨q0, 0, none⟩) t.cols.length t.cols.length)) ∧
      OwnT (w.heap.size + 1 + 1) (.slice (some ⟨q0, 0, none⟩) t.cols.length t.cols.length) (.slice none 0 0) (.slice none 0 0) 0 (w1.setCell ⟨w.heap.size + 1 + 1, 0, none⟩ (.slice (some ⟨q0, 0, none⟩) t.cols.length t.cols.length)) ∧
      Below w.heap.size w (w1.setCell ⟨w.heap.size + 1 + 1, 0, none⟩ (.slice (some ⟨q0, 0, none⟩) t.cols.length t.cols.length)) ∧ ColsAt (w1.setCell ⟨w.heap.size + 1 + 1, 0, none⟩ (.slice (some ⟨q0, 0, none⟩) t.cols.length t.cols.length)) (some ⟨q0, 0, none⟩) t.cols ∧
      q0 < (w1.setCell ⟨w.heap.size + 1 + 1, 0, none⟩ (.slice (some ⟨q0, 0, none⟩) t.cols.length t.cols.length)).heap.size) :=
    (⟨boxt_set hA (by omega), ownT_set hR (by omega), ownT_put0 hO, B1.out.setCell (by simp; omega) _, cols_set X1.out (by omega), by simpa [World.setCell] using hz1⟩ : _ ∧ _ ∧ _ ∧ _ ∧ _ ∧ _)
  go_wp2_with fail
  clear hA hR hO B1 X1
  generalize w1.setCell ⟨w.heap.size + 1 + 1, 0, none⟩ (.slice (some ⟨q0, 0, none⟩) t.cols.length t.cols.length) = W1 at *
  refine (to_changes _ _ _ _ (HT.out.keep F1.out.2.2.2.1).2.1 hn.2.1).mono ?_
  rintro e w2 ⟨rfl, hM⟩
  have hz2 : W1.heap.size < w2.heap.size := hM.2.1
  have hbl : Below W1.heap.size W1 w2 := hM.1
  have hq1 : q0 < W1.heap.size := F1.out.2.2.2.2.2
  have B2 : Hid (Below w.heap.size w w2) := F1.out.2.2.2.1.trans (hbl.mono F1.out.2.2.2.1.size)
  have X2 : Hid (ColsAt w2 (some ⟨q0, 0, none⟩) t.cols ∧ ChgsAt w2 (some ⟨W1.heap.size, 0, none⟩) t.chgs) := ⟨F1.out.2.2.2.2.1.keep hbl, hM.chgs⟩
  have hA := boxt_next F1.out.1 (by omega) hbl
  have hR := ownT_next F1.out.2.1 (by omega) hbl
  have hO := ownT_next F1.out.2.2.1 (by omega) hbl
  clear hM hbl F1
  generalize W1.heap.size = q1 at *
  have F2 : Hid (BoxT w.heap.size (.slice a0 t.cols.length c0) (.slice a1 t.chgs.length c1) (.slice a2 t.rows.length c2) t.nx (w2.setCell ⟨w.heap.size + 1 + 1, 1, none⟩ (.slice (some ⟨q1, 0, none⟩) t.chgs.length t.chgs.length)) ∧
      OwnT (w.heap.size + 1) (.slice none 0 0) (.slice none 0 0) (.slice none 0 0) 0 (w2.setCell ⟨w.heap.size + 1 + 1, 1, none⟩ (.slice (some ⟨q1, 0, none⟩) t.chgs.length t.chgs.length)) ∧
      OwnT (w.heap.size + 1 + 1) (.slice (some ⟨q0, 0, none⟩) t.cols.length t.cols.length) (.slice (some ⟨q1, 0, none⟩) t.chgs.length t.chgs.length) (.slice none 0 0) 0 (w2.setCell ⟨w.heap.size + 1 + 1, 1, none⟩ (.slice (some ⟨q1, 0, none⟩) t.chgs.length t.chgs.length)) ∧
      Below w.heap.size w (w2.setCell ⟨w.heap.size + 1 + 1, 1, none⟩ (.slice (some ⟨q1, 0, none⟩) t.chgs.length t.chgs.length)) ∧ ColsAt (w2.setCell ⟨w.heap.size + 1 + 1, 1, none⟩ (.slice (some ⟨q1, 0, none⟩) t.chgs.length t.chgs.length)) (some ⟨q0, 0, none⟩) t.cols ∧ ChgsAt (w2.setCell ⟨w.heap.size + 1 + 1, 1, none⟩ (.slice (some ⟨q1, 0, none⟩) t.chgs.length t.chgs.length)) (some ⟨q1, 0, none⟩) t.chgs ∧
      q1 < (w2.setCell ⟨w.heap.size + 1 + 1, 1, none⟩ (.slice (some ⟨q1, 0, none⟩) t.chgs.length t.chgs.length)).heap.size) :=
    (⟨boxt_set hA (by omega), ownT_set hR (by omega), ownT_put1 hO, B2.out.setCell (by simp; omega) _, cols_set X2.out.1 (by omega), chgs_set X2.out.2 (by omega), by simpa [World.setCell] using hz2⟩ : _ ∧ _ ∧ _ ∧ _ ∧ _ ∧ _ ∧ _)
  go_wp2_with fail
  clear hA hR hO B2 X2
  generalize w2.setCell ⟨w.heap.size + 1 + 1, 1, none⟩ (.slice (some ⟨q1, 0, none⟩) t.chgs.length t.chgs.length) = W2 at *
  refine (to_rows _ _ _ _ (HT.out.keep F2.out.2.2.2.1).2.2 hn.2.2.1 hn.2.2.2).mono ?_
  rintro e w3 ⟨rfl, hM⟩
  have hbl : Below W2.heap.size W2 w3 := hM.1
  have hq2 : q1 < W2.heap.size := F2.out.2.2.2.2.2.2
  have HN : Hid (NewTab w q0 q1 W2.heap.size t w3) := ⟨⟨F2.out.2.2.2.2.1.keep hbl, by omega, by omega, by omega⟩, F2.out.2.2.2.2.2.1.keep hbl, hM.high, F2.out.2.2.2.1.trans (hbl.mono F2.out.2.2.2.1.size)⟩
  have hA := boxt_next F2.out.1 (by omega) hbl
  have hR := ownT_next F2.out.2.1 (by omega) hbl
  have hO := ownT_next F2.out.2.2.1 (by omega) hbl
  clear hM hbl F2
  generalize W2.heap.size = q2 at *
  go_wp2_with fail
  refine bodyPost_ret (v := .agg #[.slice (some ⟨q0, 0, none⟩) t.cols.length t.cols.length, .slice (some ⟨q1, 0, none⟩) t.chgs.length t.chgs.length, .slice (some ⟨q2, 0, none⟩) t.rows.length t.rows.length, .int .i64 t.nx]) (by simp [results, Try.results17, go_sem, hR]) rfl ⟨_, _, _, rfl, ?_⟩
  repeat' (first | refine NewTab.set ?_ (by omega) (by omega) (by omega) (by omega) | exact HN.out)

end Go.Proofs.Yteckjdoiimifaaa
