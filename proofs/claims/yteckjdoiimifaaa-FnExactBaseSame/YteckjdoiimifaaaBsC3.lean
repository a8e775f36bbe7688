/- The contract of laws.toBase, over the seat's translation. -/
import Derived.Test.YteckjdoiimifaaaBsC2
namespace Go.Proofs.Yteckjdoiimifaaa
open Go.RowKit

/-- Tables with their names in block B of W, their lists in blocks behind it. -/
def HiNams (B : Nat) (L : List ANam) (W : World) : Prop := B < W.heap.size ∧ ∀ i x, L[i]? = some x → HiNam B i x W
theorem MadeN.high {w : World} {B n : Nat} {L : List ANam} {W : World} (h : MadeN w B n L.length L W) : HiNams B L W := ⟨h.2.1, fun i c hc => h.2.2.2 i c (List.getElem?_eq_some_iff.1 hc).1 hc⟩
theorem HiNams.nams {B : Nat} {L : List ANam} {W : World} (h : HiNams B L W) : NamsAt W (some ⟨B, 0, none⟩) L :=
  Or.inr ⟨B, 0, rfl, h.1, fun i c hc => by
    obtain ⟨b0, b1, b2, _, _, _, a3, a4⟩ := h.2 i c hc
    exact ⟨newP b0 b1 b2 c.t, by rw [Nat.zero_add]; exact a3, a4.tab⟩⟩
theorem HiNams.set {B C o : Nat} {L : List ANam} {W : World} {v : Value} (h : HiNams B L W) (hC : C < B) : HiNams B L (W.setCell ⟨C, o, none⟩ v) := by
  refine ⟨by simpa [World.setCell] using h.1, fun i c hc => ?_⟩
  obtain ⟨b0, b1, b2, a0, a1, a2, a3, a4⟩ := h.2 i c hc
  refine ⟨b0, b1, b2, a0, a1, a2, fun j u hu => ?_, a4.set (by omega) (by omega) (by omega)⟩
  rw [cell_set (by omega)]
  exact a3 j u hu
theorem HiNams.keep {B : Nat} {L : List ANam} {W W' : World} (h : HiNams B L W) (hb : Below W.heap.size W W') : HiNams B L W' := by
  have hz := hb.size
  have h1 := h.1
  refine ⟨by omega, fun i c hc => ?_⟩
  obtain ⟨b0, b1, b2, a0, a1, a2, a3, a4⟩ := h.2 i c hc
  exact ⟨b0, b1, b2, a0, a1, a2, fun j v hv => by rw [(bcell hb).1 _ _ h1]; exact a3 j v hv, a4.keep hb⟩
theorem lnks_set {W : World} {b C o : Nat} {L : List ALnk} {v : Value} (h : LnksAt W (some ⟨b, 0, none⟩) L) (hC : C < b) : LnksAt (W.setCell ⟨C, o, none⟩ v) (some ⟨b, 0, none⟩) L := by
  rcases h with h3 | ⟨b', o', e, hlt, hr⟩
  · exact Or.inl h3
  · cases e
    refine Or.inr ⟨b, 0, rfl, by simpa [World.setCell] using hlt, fun i c hc j u hu => ?_⟩
    rw [cell_set (by omega)]
    exact hr i c hc j u hu

/-- The box at B holds a base in W, and may be written. -/
abbrev OwnB (B : Nat) (x y : Value) (W : World) : Prop :=
  W.cell? ⟨B, 0, none⟩ = some x ∧ W.cell? ⟨B, 1, none⟩ = some y ∧ W.frozen? ⟨B, 0, none⟩ = false ∧ W.frozen? ⟨B, 1, none⟩ = false
theorem ownB_next {B C : Nat} {x y : Value} {W W' : World} (h : OwnB B x y W) (hB : B < C) (hb : Below C W W') : OwnB B x y W' := by
  have hc := fun o => hb.cell (p := ⟨B, o, none⟩) hB
  have hf := fun o => hb.frozen (p := ⟨B, o, none⟩) hB
  unfold OwnB
  simp only [hc, hf]
  exact h
theorem ownB_box (w : World) (x y : Value) (t : TypeId) : OwnB w.heap.size x y (w.alloc (.cells #[x, y] t)) := by
  refine ⟨?_, ?_, ?_, ?_⟩
  all_goals go_simp
theorem ownB_set {B C o : Nat} {x y v : Value} {W : World} (h : OwnB B x y W) (hne : B ≠ C) : OwnB B x y (W.setCell ⟨C, o, none⟩ v) := by
  have hc := fun p => World.cell?_of_block (w := W) (w' := W.setCell ⟨C, o, none⟩ v) (a := ⟨B, p, none⟩) (Below.heap_setCell W ⟨C, o, none⟩ v B hne)
  have hf := fun p => World.frozen?_of_block (w := W) (w' := W.setCell ⟨C, o, none⟩ v) (a := ⟨B, p, none⟩) (Below.heap_setCell W ⟨C, o, none⟩ v B hne)
  unfold OwnB
  simp only [hc, hf]
  exact h
theorem boxb_set {B C o : Nat} {x y v : Value} {W : World} (h : BoxB B x y W) (hne : B ≠ C) : BoxB B x y (W.setCell ⟨C, o, none⟩ v) := by
  have hc := fun p => World.cell?_of_block (w := W) (w' := W.setCell ⟨C, o, none⟩ v) (a := ⟨B, p, none⟩) (Below.heap_setCell W ⟨C, o, none⟩ v B hne)
  unfold BoxB
  simp only [hc]
  exact h
theorem ownB_put0 {B : Nat} {x y v : Value} {W : World} (h : OwnB B x y W) : OwnB B v y (W.setCell ⟨B, 0, none⟩ v) := by
  obtain ⟨h0, h1, f0, f1⟩ := h
  refine ⟨?_, ?_, ?_, ?_⟩
  all_goals go_simp

/-- A base made anew: in blocks behind w, and W lies over w. -/
def NewBas (w : World) (b0 b1 : Nat) (x : ABas) (W : World) : Prop := HiNams b0 x.tabs W ∧ LnksAt W (some ⟨b1, 0, none⟩) x.lnks ∧ Below w.heap.size w W
theorem NewBas.set {w : World} {b0 b1 C o : Nat} {x : ABas} {W : World} {v : Value} (h : NewBas w b0 b1 x W) (h0 : C < b0) (h1 : C < b1) (hw : w.heap.size ≤ C) : NewBas w b0 b1 x (W.setCell ⟨C, o, none⟩ v) := ⟨h.1.set h0, lnks_set h.2.1 h1, h.2.2.setCell hw v⟩
theorem NewBas.bas {w : World} {b0 b1 : Nat} {x : ABas} {W : World} (h : NewBas w b0 b1 x W) : BasAt W (some ⟨b0, 0, none⟩) (some ⟨b1, 0, none⟩) x := ⟨h.1.nams, h.2.1⟩

set_option maxRecDepth 100000 in
set_option maxHeartbeats 2000000 in
theorem to_base (x : ABas) (a0 a1 : Option Addr) (c0 c1 : Nat) (w : World) (hT : BasAt w a0 a1 x) (hn : x.near) :
    Calls Try.prog 21 #[.agg #[.slice a0 x.tabs.length c0, .slice a1 x.lnks.length c1]] w fun e w' => ∃ b0 b1, e = .returned (.agg #[.slice (some ⟨b0, 0, none⟩) x.tabs.length x.tabs.length, .slice (some ⟨b1, 0, none⟩) x.lnks.length x.lnks.length]) ∧ NewBas w b0 b1 x w' := by
  have HT : Hid (BasAt w a0 a1 x) := hT
  have H3 : Hid (Below w.heap.size w (((w.alloc (.cells #[.slice a0 x.tabs.length c0, .slice a1 x.lnks.length c1] 46)).alloc (.cells #[.slice none 0 0, .slice none 0 0] 52)).alloc (.cells #[.slice none 0 0, .slice none 0 0] 52))) :=
    (((Below.refl w.heap.size w).alloc (Nat.le_refl _) _).alloc (by simp) _).alloc (by simp; omega) _
  have hA := boxb_next (boxb_box w (.slice a0 x.tabs.length c0) (.slice a1 x.lnks.length c1) 46) (C := w.heap.size + 1) (by omega) (((Below.refl (w.heap.size + 1) (w.alloc (.cells #[.slice a0 x.tabs.length c0, .slice a1 x.lnks.length c1] 46))).alloc (by simp) (.cells #[.slice none 0 0, .slice none 0 0] 52)).alloc (by simp) (.cells #[.slice none 0 0, .slice none 0 0] 52))
  have hR := ownB_next (ownB_box (w.alloc (.cells #[.slice a0 x.tabs.length c0, .slice a1 x.lnks.length c1] 46)) (.slice none 0 0) (.slice none 0 0) 52) (C := w.heap.size + 2) (by simp) ((Below.refl (w.heap.size + 2) ((w.alloc (.cells #[.slice a0 x.tabs.length c0, .slice a1 x.lnks.length c1] 46)).alloc (.cells #[.slice none 0 0, .slice none 0 0] 52))).alloc (by simp) (.cells #[.slice none 0 0, .slice none 0 0] 52))
  have hO := ownB_box ((w.alloc (.cells #[.slice a0 x.tabs.length c0, .slice a1 x.lnks.length c1] 46)).alloc (.cells #[.slice none 0 0, .slice none 0 0] 52)) (.slice none 0 0) (.slice none 0 0) 52
  simp only [size_alloc] at hR hO
  have HS : Hid ((((w.alloc (.cells #[.slice a0 x.tabs.length c0, .slice a1 x.lnks.length c1] 46)).alloc (.cells #[.slice none 0 0, .slice none 0 0] 52)).alloc (.cells #[.slice none 0 0, .slice none 0 0] 52)).heap.size = w.heap.size + 3) := by
    show _ = _
    simp only [size_alloc]
  have HA : Hid (BoxB w.heap.size (.slice a0 x.tabs.length c0) (.slice a1 x.lnks.length c1) (((w.alloc (.cells #[.slice a0 x.tabs.length c0, .slice a1 x.lnks.length c1] 46)).alloc (.cells #[.slice none 0 0, .slice none 0 0] 52)).alloc (.cells #[.slice none 0 0, .slice none 0 0] 52))) := hA
  have HRO : Hid (OwnB (w.heap.size + 1) (.slice none 0 0) (.slice none 0 0) (((w.alloc (.cells #[.slice a0 x.tabs.length c0, .slice a1 x.lnks.length c1] 46)).alloc (.cells #[.slice none 0 0, .slice none 0 0] 52)).alloc (.cells #[.slice none 0 0, .slice none 0 0] 52)) ∧ OwnB (w.heap.size + 1 + 1) (.slice none 0 0) (.slice none 0 0) (((w.alloc (.cells #[.slice a0 x.tabs.length c0, .slice a1 x.lnks.length c1] 46)).alloc (.cells #[.slice none 0 0, .slice none 0 0] 52)).alloc (.cells #[.slice none 0 0, .slice none 0 0] 52))) := ⟨hR, hO⟩
  clear hA hR hO hT
  go_enter Try.func21, Try.ntmps21
  go_wp2_with fail
  generalize ((w.alloc (.cells #[.slice a0 x.tabs.length c0, .slice a1 x.lnks.length c1] 46)).alloc (.cells #[.slice none 0 0, .slice none 0 0] 52)).alloc (.cells #[.slice none 0 0, .slice none 0 0] 52) = W3 at *
  have hq3 : w.heap.size + 3 ≤ W3.heap.size := Nat.le_of_eq HS.out.symm
  clear HS
  refine (to_tabs _ _ _ _ (HT.out.keep H3.out).1 hn.1 hn.2.1).mono ?_
  rintro e w1 ⟨rfl, hM⟩
  have hz1 : W3.heap.size < w1.heap.size := hM.2.1
  have B1 : Hid (Below w.heap.size w w1) := H3.out.trans (hM.1.mono H3.out.size)
  have X1 : Hid (HiNams W3.heap.size x.tabs w1) := hM.high
  have hA := boxb_next HA.out (by omega) hM.1
  have hR := ownB_next HRO.out.1 (by omega) hM.1
  have hO := ownB_next HRO.out.2 (by omega) hM.1
  clear hM H3 HA HRO
  generalize W3.heap.size = q0 at *
  have F1 : Hid (BoxB w.heap.size (.slice a0 x.tabs.length c0) (.slice a1 x.lnks.length c1) (w1.setCell ⟨w.heap.size + 1 + 1, 0, none⟩ (.slice (some ⟨q0, 0, none⟩) x.tabs.length x.tabs.length)) ∧
      OwnB (w.heap.size + 1) (.slice none 0 0) (.slice none 0 0) (w1.setCell ⟨w.heap.size + 1 + 1, 0, none⟩ (.slice (some ⟨q0, 0, none⟩) x.tabs.length x.tabs.length)) ∧
      OwnB (w.heap.size + 1 + 1) (.slice (some ⟨q0, 0, none⟩) x.tabs.length x.tabs.length) (.slice none 0 0) (w1.setCell ⟨w.heap.size + 1 + 1, 0, none⟩ (.slice (some ⟨q0, 0, none⟩) x.tabs.length x.tabs.length)) ∧
      Below w.heap.size w (w1.setCell ⟨w.heap.size + 1 + 1, 0, none⟩ (.slice (some ⟨q0, 0, none⟩) x.tabs.length x.tabs.length)) ∧ HiNams q0 x.tabs (w1.setCell ⟨w.heap.size + 1 + 1, 0, none⟩ (.slice (some ⟨q0, 0, none⟩) x.tabs.length x.tabs.length)) ∧
      q0 < (w1.setCell ⟨w.heap.size + 1 + 1, 0, none⟩ (.slice (some ⟨q0, 0, none⟩) x.tabs.length x.tabs.length)).heap.size) :=
    (⟨boxb_set hA (by omega), ownB_set hR (by omega), ownB_put0 hO, B1.out.setCell (by simp; omega) _, X1.out.set (by omega), by simpa [World.setCell] using hz1⟩ : _ ∧ _ ∧ _ ∧ _ ∧ _ ∧ _)
  go_wp2_with fail
  clear hA hR hO B1 X1
  generalize w1.setCell ⟨w.heap.size + 1 + 1, 0, none⟩ (.slice (some ⟨q0, 0, none⟩) x.tabs.length x.tabs.length) = W1 at *
  refine (to_links _ _ _ _ (HT.out.keep F1.out.2.2.2.1).2 hn.2.2).mono ?_
  rintro e w2 ⟨rfl, hM⟩
  have hbl : Below W1.heap.size W1 w2 := hM.1
  have hq1 : q0 < W1.heap.size := F1.out.2.2.2.2.2
  have HN : Hid (NewBas w q0 W1.heap.size x w2) := ⟨F1.out.2.2.2.2.1.keep hbl, hM.lnks, F1.out.2.2.2.1.trans (hbl.mono F1.out.2.2.2.1.size)⟩
  have hA := boxb_next F1.out.1 (by omega) hbl
  have hR := ownB_next F1.out.2.1 (by omega) hbl
  have hO := ownB_next F1.out.2.2.1 (by omega) hbl
  clear hM hbl F1
  generalize W1.heap.size = q1 at *
  go_wp2_with fail
  refine bodyPost_ret (v := .agg #[.slice (some ⟨q0, 0, none⟩) x.tabs.length x.tabs.length, .slice (some ⟨q1, 0, none⟩) x.lnks.length x.lnks.length]) (by simp [results, Try.results21, go_sem, hR]) rfl ⟨_, _, rfl, ?_⟩
  repeat' (first | refine NewBas.set ?_ (by omega) (by omega) (by omega) | exact HN.out)

end Go.Proofs.Yteckjdoiimifaaa
