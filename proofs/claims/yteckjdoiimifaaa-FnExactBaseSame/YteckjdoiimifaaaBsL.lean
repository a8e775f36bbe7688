/- The walk of laws.FnExactBaseSame, over the seat's translation. -/
import Derived.Test.YteckjdoiimifaaaBsN2
namespace Go.Proofs.Yteckjdoiimifaaa
open Go.RowKit

/-- Two bases that came in lie in W, in boxes and whole, and W lies over w. -/
abbrev CxB (w : World) (t u : ABas) (a0 a1 b0 b1 : Option Addr) (c0 c1 d0 d1 : Nat) (W : World) : Prop :=
  BoxBB w w.heap.size (w.heap.size + 1) (.slice a0 t.tabs.length c0) (.slice a1 t.lnks.length c1) (.slice b0 u.tabs.length d0) (.slice b1 u.lnks.length d1) W ∧ BasAt W a0 a1 t ∧ BasAt W b0 b1 u
theorem cxb_next {w : World} {t u : ABas} {a0 a1 b0 b1 : Option Addr} {c0 c1 d0 d1 : Nat} {W W' : World} (h : CxB w t u a0 a1 b0 b1 c0 c1 d0 d1 W) (hb : Below W.heap.size W W') : CxB w t u a0 a1 b0 b1 c0 c1 d0 d1 W' := ⟨boxbb_next h.1 hb, h.2.1.keep hb, h.2.2.keep hb⟩
theorem cxb_drew {w : World} {t u : ABas} {a0 a1 b0 b1 : Option Addr} {c0 c1 d0 d1 : Nat} {W : World} (h : CxB w t u a0 a1 b0 b1 c0 c1 d0 d1 W) : CxB w t u a0 a1 b0 b1 c0 c1 d0 d1 W.drew := cxb_next h (Below.refl _ _).drew
theorem bas_drew {W : World} {a0 a1 : Option Addr} {t : ABas} (h : BasAt W a0 a1 t) : BasAt W.drew a0 a1 t := h.keep (Below.refl _ _).drew

/-- Beside these two bases made anew, in boxes at p and q. -/
abbrev DxB (w : World) (t u : ABas) (a0 a1 b0 b1 : Option Addr) (c0 c1 d0 d1 p q x0 x1 y0 y1 : Nat) (W : World) : Prop :=
  CxB w t u a0 a1 b0 b1 c0 c1 d0 d1 W ∧ BoxB p (.slice (some ⟨x0, 0, none⟩) t.tabs.length t.tabs.length) (.slice (some ⟨x1, 0, none⟩) t.lnks.length t.lnks.length) W ∧ BoxB q (.slice (some ⟨y0, 0, none⟩) u.tabs.length u.tabs.length) (.slice (some ⟨y1, 0, none⟩) u.lnks.length u.lnks.length) W ∧ p < W.heap.size ∧ q < W.heap.size ∧ BasAt W (some ⟨x0, 0, none⟩) (some ⟨x1, 0, none⟩) t ∧ BasAt W (some ⟨y0, 0, none⟩) (some ⟨y1, 0, none⟩) u
theorem dxb_next {w : World} {t u : ABas} {a0 a1 b0 b1 : Option Addr} {c0 c1 d0 d1 p q x0 x1 y0 y1 : Nat} {W W' : World} (h : DxB w t u a0 a1 b0 b1 c0 c1 d0 d1 p q x0 x1 y0 y1 W) (hb : Below W.heap.size W W') : DxB w t u a0 a1 b0 b1 c0 c1 d0 d1 p q x0 x1 y0 y1 W' := by
  obtain ⟨h1, h2, h3, h4, h5, h6, h7⟩ := h
  have := hb.size
  exact ⟨cxb_next h1 hb, boxb_next h2 h4 hb, boxb_next h3 h5 hb, by omega, by omega, h6.keep hb, h7.keep hb⟩
theorem dxb_drew {w : World} {t u : ABas} {a0 a1 b0 b1 : Option Addr} {c0 c1 d0 d1 p q x0 x1 y0 y1 : Nat} {W : World} (h : DxB w t u a0 a1 b0 b1 c0 c1 d0 d1 p q x0 x1 y0 y1 W) : DxB w t u a0 a1 b0 b1 c0 c1 d0 d1 p q x0 x1 y0 y1 W.drew := dxb_next h (Below.refl _ _).drew

set_option maxRecDepth 100000 in
set_option maxHeartbeats 4000000 in
theorem law_bas_same (t u : ABas) (a0 a1 b0 b1 : Option Addr) (c0 c1 d0 d1 : Nat) (w : World) (ha : BasAt w a0 a1 t) (hb : BasAt w b0 b1 u) (hf : t.fit) (hg : u.fit) :
    Calls Try.prog 5 #[.agg #[.slice a0 t.tabs.length c0, .slice a1 t.lnks.length c1], .agg #[.slice b0 u.tabs.length d0, .slice b1 u.lnks.length d1]] w fun e w' => e = .returned (.bool true) ∧ Below w.heap.size w w' := by
  have hx := boxbb_made w (.slice a0 t.tabs.length c0) (.slice a1 t.lnks.length c1) (.slice b0 u.tabs.length d0) (.slice b1 u.lnks.length d1) 46 46
  have HX : Hid (CxB w t u a0 a1 b0 b1 c0 c1 d0 d1 ((w.alloc (.cells #[.slice a0 t.tabs.length c0, .slice a1 t.lnks.length c1] 46)).alloc (.cells #[.slice b0 u.tabs.length d0, .slice b1 u.lnks.length d1] 46))) := ⟨hx, ha.keep hx.2.2.2.2, hb.keep hx.2.2.2.2⟩
  clear hx ha hb
  go_enter Try.func5, Try.ntmps5
  go_wp2_with fail
  refine (sz_base t _ _ _ _ _ _ HX.out.2.1 hf (by omega) (by omega)).mono ?_
  rintro e w1 ⟨z, rfl, hR, hq⟩
  have h1 := cxb_next HX.out hq
  clear HX hq
  rcases hR with rfl | ⟨hz, hzl, hn⟩
  · go_wp2_with fail
    go_ret
    exact ⟨rfl, h1.1.2.2.2.2⟩
  have hnt : Hid t.near := hn
  clear hn
  go_wp2_with fail
  refine (sz_base u _ _ _ _ _ _ h1.2.2 hg (by omega) (by omega)).mono ?_
  rintro e w2 ⟨y, rfl, hR, hq⟩
  have h2 := cxb_next h1 hq
  clear h1 hq
  rcases hR with rfl | ⟨hy, hyl, hn⟩
  · go_wp2_with fail
    go_ret
    exact ⟨rfl, h2.1.2.2.2.2⟩
  have hnu : Hid u.near := hn
  clear hn hzl hyl
  go_wp2_with fail
  go_region_held3 (fun W => CxB w t u a0 a1 b0 b1 c0 c1 d0 d1 W) (first | assumption | exact cxb_drew (by assumption))
    (first
      | (go_at_call_of 21 t; have hS := ‹CxB w t u a0 a1 b0 b1 c0 c1 d0 d1 _›; refine (to_base t a0 a1 c0 c1 _ hS.2.1 hnt.out).mono ?_; rintro e wA ⟨x0, x1, rfl, hN⟩; have hC := cxb_next hS hN.2.2; have hRA := hN.bas; clear hN hS)
      | (go_at_call_of 21 u; have hS := ‹CxB w t u a0 a1 b0 b1 c0 c1 d0 d1 _›; refine (to_base u b0 b1 d0 d1 _ hS.2.2 hnu.out).mono ?_; rintro e wB ⟨y0, y1, rfl, hN⟩; have hC2 := cxb_next hS hN.2.2; have hRB := hN.bas; have hRA2 := hRA.keep hN.2.2; clear hN hS)
      | (go_at_call 20; have hS := ‹CxB w t u a0 a1 b0 b1 c0 c1 d0 d1 _›; refine (spec_bas_same t u _ _ _ _ _ _ _ _ _ hRA2 hRB hf hg).mono ?_; rintro e wC ⟨rfl, hq⟩; have hC3 := cxb_next hS hq; clear hq hS hRA2 hRB))
  clear hC hC2 hRA h2
  generalize hs : basSame t u = s at *
  have HS : Hid (basSame t u = s) := hs
  have HC : Hid (CxB w t u a0 a1 b0 b1 c0 c1 d0 d1 wC) := hC3
  have hB0 := hC3.1
  clear hC3 hs
  go_wp2_with fail
  refine (to_base t a0 a1 c0 c1 _ HC.out.2.1 hnt.out).mono ?_
  rintro e w4 ⟨x0, x1, rfl, hN⟩
  have H4 : Hid (CxB w t u a0 a1 b0 b1 c0 c1 d0 d1 w4 ∧ BasAt w4 (some ⟨x0, 0, none⟩) (some ⟨x1, 0, none⟩) t) := ⟨cxb_next HC.out hN.2.2, hN.bas⟩
  clear hN hB0 HC
  rename_i hHeld _ _ _ _
  clear hHeld
  have B4 : Hid (Below w4.heap.size w4 (w4.alloc (.cells #[.slice (some ⟨x0, 0, none⟩) t.tabs.length t.tabs.length, .slice (some ⟨x1, 0, none⟩) t.lnks.length t.lnks.length] 52)) ∧ BoxB w4.heap.size (.slice (some ⟨x0, 0, none⟩) t.tabs.length t.tabs.length) (.slice (some ⟨x1, 0, none⟩) t.lnks.length t.lnks.length) (w4.alloc (.cells #[.slice (some ⟨x0, 0, none⟩) t.tabs.length t.tabs.length, .slice (some ⟨x1, 0, none⟩) t.lnks.length t.lnks.length] 52)) ∧ w4.heap.size < (w4.alloc (.cells #[.slice (some ⟨x0, 0, none⟩) t.tabs.length t.tabs.length, .slice (some ⟨x1, 0, none⟩) t.lnks.length t.lnks.length] 52)).heap.size) := (⟨(Below.refl _ _).alloc (Nat.le_refl _) _, boxb_box _ _ _ _, by simp⟩ : _ ∧ _ ∧ _)
  have hB0 := (cxb_next H4.out.1 B4.out.1).1
  go_wp2_with fail
  generalize w4.alloc (.cells #[.slice (some ⟨x0, 0, none⟩) t.tabs.length t.tabs.length, .slice (some ⟨x1, 0, none⟩) t.lnks.length t.lnks.length] 52) = W4 at *
  refine (to_base u b0 b1 d0 d1 _ (cxb_next H4.out.1 B4.out.1).2.2 hnu.out).mono ?_
  rintro e w5 ⟨y0, y1, rfl, hN⟩
  have D5 : Hid (CxB w t u a0 a1 b0 b1 c0 c1 d0 d1 w5 ∧ BoxB w4.heap.size (.slice (some ⟨x0, 0, none⟩) t.tabs.length t.tabs.length) (.slice (some ⟨x1, 0, none⟩) t.lnks.length t.lnks.length) w5 ∧ w4.heap.size < w5.heap.size ∧ BasAt w5 (some ⟨x0, 0, none⟩) (some ⟨x1, 0, none⟩) t ∧ BasAt w5 (some ⟨y0, 0, none⟩) (some ⟨y1, 0, none⟩) u) :=
    ⟨cxb_next (cxb_next H4.out.1 B4.out.1) hN.2.2, boxb_next B4.out.2.1 B4.out.2.2 hN.2.2, Nat.lt_of_lt_of_le B4.out.2.2 hN.2.2.size, (H4.out.2.keep B4.out.1).keep hN.2.2, hN.bas⟩
  clear hN hB0 H4 B4
  have b5 : Below w5.heap.size w5 (w5.alloc (.cells #[.slice (some ⟨y0, 0, none⟩) u.tabs.length u.tabs.length, .slice (some ⟨y1, 0, none⟩) u.lnks.length u.lnks.length] 52)) := (Below.refl _ _).alloc (Nat.le_refl _) _
  have D6 : Hid (DxB w t u a0 a1 b0 b1 c0 c1 d0 d1 w4.heap.size w5.heap.size x0 x1 y0 y1 (w5.alloc (.cells #[.slice (some ⟨y0, 0, none⟩) u.tabs.length u.tabs.length, .slice (some ⟨y1, 0, none⟩) u.lnks.length u.lnks.length] 52))) := (⟨cxb_next D5.out.1 b5, boxb_next D5.out.2.1 D5.out.2.2.1 b5, boxb_box _ _ _ _, Nat.lt_of_lt_of_le D5.out.2.2.1 b5.size, by simp, D5.out.2.2.2.1.keep b5, D5.out.2.2.2.2.keep b5⟩ : _ ∧ _ ∧ _ ∧ _ ∧ _ ∧ _ ∧ _)
  have hB7 := D6.out.2.1
  clear b5 D5
  go_wp2_with fail
  generalize w5.alloc (.cells #[.slice (some ⟨y0, 0, none⟩) u.tabs.length u.tabs.length, .slice (some ⟨y1, 0, none⟩) u.lnks.length u.lnks.length] 52) = W6 at *
  generalize w4.heap.size = p at *
  generalize w5.heap.size = q at *
  refine (impl_bas_same t u _ _ _ _ _ _ _ _ _ D6.out.2.2.2.2.2.1 D6.out.2.2.2.2.2.2 hf hg).mono ?_
  rintro e w7 ⟨rfl, hq⟩
  rw [HS.out]
  have D7 := dxb_next D6.out hq
  clear hq D6 hB7 HS
  go_wp2_with fail
  go_region_held3 (fun W => DxB w t u a0 a1 b0 b1 c0 c1 d0 d1 p q x0 x1 y0 y1 W) (first | assumption | exact dxb_drew (by assumption))
    (first
      | (go_at_call 21; have hS := ‹DxB w t u a0 a1 b0 b1 c0 c1 d0 d1 p q x0 x1 y0 y1 _›; refine (to_base t a0 a1 c0 c1 _ hS.1.2.1 hnt.out).mono ?_; rintro e wA ⟨z0, z1, rfl, hN⟩; have hC := dxb_next hS hN.2.2; have hRA := hN.bas; clear hN hS)
      | (go_at_call 23; have hS := ‹DxB w t u a0 a1 b0 b1 c0 c1 d0 d1 p q x0 x1 y0 y1 _›; refine (eq_base t _ _ _ _ _ _ _ _ _ hS.2.2.2.2.2.1 hRA hf).mono ?_; rintro e wC ⟨rfl, hq⟩; have hC3 := dxb_next hS hq; clear hq hS hRA))
  clear hC D7
  go_wp2_with fail
  go_region_held3 (fun W => DxB w t u a0 a1 b0 b1 c0 c1 d0 d1 p q x0 x1 y0 y1 W) (first | assumption | exact dxb_drew (by assumption))
    (first
      | (go_at_call 21; have hS := ‹DxB w t u a0 a1 b0 b1 c0 c1 d0 d1 p q x0 x1 y0 y1 _›; refine (to_base u b0 b1 d0 d1 _ hS.1.2.2 hnu.out).mono ?_; rintro e wA ⟨z0, z1, rfl, hN⟩; have hC := dxb_next hS hN.2.2; have hRA := hN.bas; clear hN hS)
      | (go_at_call 23; have hS := ‹DxB w t u a0 a1 b0 b1 c0 c1 d0 d1 p q x0 x1 y0 y1 _›; refine (eq_base u _ _ _ _ _ _ _ _ _ hS.2.2.2.2.2.2 hRA hg).mono ?_; rintro e wC ⟨rfl, hq⟩; have hC5 := dxb_next hS hq; clear hq hS hRA))
  have HZ : Hid (Below w.heap.size w _) := hC5.1.1.2.2.2.2
  clear hC hC3 hC5
  go_wp2_with fail
  go_ret
  exact ⟨rfl, HZ.out⟩

end Go.Proofs.Yteckjdoiimifaaa
