/- The walk of laws.FnExactTableSame, over the seat's translation. -/
import Derived.Test.YteckjdoiimifaaaTsN4
namespace Go.Proofs.Yteckjdoiimifaaa
open Go.RowKit

/-- Two tables that came in lie in W, in boxes and whole, and W lies over w. -/
abbrev Cx (w : World) (t u : ATab) (a0 a1 a2 b0 b1 b2 : Option Addr) (c0 c1 c2 d0 d1 d2 : Nat) (W : World) : Prop :=
  BoxTT w w.heap.size (w.heap.size + 1) (.slice a0 t.cols.length c0) (.slice a1 t.chgs.length c1) (.slice a2 t.rows.length c2) t.nx (.slice b0 u.cols.length d0) (.slice b1 u.chgs.length d1) (.slice b2 u.rows.length d2) u.nx W ∧ TabAt W a0 a1 a2 t ∧ TabAt W b0 b1 b2 u
theorem cx_next {w : World} {t u : ATab} {a0 a1 a2 b0 b1 b2 : Option Addr} {c0 c1 c2 d0 d1 d2 : Nat} {W W' : World} (h : Cx w t u a0 a1 a2 b0 b1 b2 c0 c1 c2 d0 d1 d2 W) (hb : Below W.heap.size W W') : Cx w t u a0 a1 a2 b0 b1 b2 c0 c1 c2 d0 d1 d2 W' := ⟨boxtt_next h.1 hb, h.2.1.keep hb, h.2.2.keep hb⟩
theorem cx_drew {w : World} {t u : ATab} {a0 a1 a2 b0 b1 b2 : Option Addr} {c0 c1 c2 d0 d1 d2 : Nat} {W : World} (h : Cx w t u a0 a1 a2 b0 b1 b2 c0 c1 c2 d0 d1 d2 W) : Cx w t u a0 a1 a2 b0 b1 b2 c0 c1 c2 d0 d1 d2 W.drew := cx_next h (Below.refl _ _).drew
theorem tab_drew {W : World} {a0 a1 a2 : Option Addr} {t : ATab} (h : TabAt W a0 a1 a2 t) : TabAt W.drew a0 a1 a2 t := h.keep (Below.refl _ _).drew

/-- Beside these two tables made anew, in boxes at p and q. -/
abbrev Dx (w : World) (t u : ATab) (a0 a1 a2 b0 b1 b2 : Option Addr) (c0 c1 c2 d0 d1 d2 p q x0 x1 x2 y0 y1 y2 : Nat) (W : World) : Prop :=
  Cx w t u a0 a1 a2 b0 b1 b2 c0 c1 c2 d0 d1 d2 W ∧ BoxT p (.slice (some ⟨x0, 0, none⟩) t.cols.length t.cols.length) (.slice (some ⟨x1, 0, none⟩) t.chgs.length t.chgs.length) (.slice (some ⟨x2, 0, none⟩) t.rows.length t.rows.length) t.nx W ∧ BoxT q (.slice (some ⟨y0, 0, none⟩) u.cols.length u.cols.length) (.slice (some ⟨y1, 0, none⟩) u.chgs.length u.chgs.length) (.slice (some ⟨y2, 0, none⟩) u.rows.length u.rows.length) u.nx W ∧ p < W.heap.size ∧ q < W.heap.size ∧ TabAt W (some ⟨x0, 0, none⟩) (some ⟨x1, 0, none⟩) (some ⟨x2, 0, none⟩) t ∧ TabAt W (some ⟨y0, 0, none⟩) (some ⟨y1, 0, none⟩) (some ⟨y2, 0, none⟩) u
theorem dx_next {w : World} {t u : ATab} {a0 a1 a2 b0 b1 b2 : Option Addr} {c0 c1 c2 d0 d1 d2 p q x0 x1 x2 y0 y1 y2 : Nat} {W W' : World} (h : Dx w t u a0 a1 a2 b0 b1 b2 c0 c1 c2 d0 d1 d2 p q x0 x1 x2 y0 y1 y2 W) (hb : Below W.heap.size W W') : Dx w t u a0 a1 a2 b0 b1 b2 c0 c1 c2 d0 d1 d2 p q x0 x1 x2 y0 y1 y2 W' := by
  obtain ⟨h1, h2, h3, h4, h5, h6, h7⟩ := h
  have := hb.size
  exact ⟨cx_next h1 hb, boxt_next h2 h4 hb, boxt_next h3 h5 hb, by omega, by omega, h6.keep hb, h7.keep hb⟩
theorem dx_drew {w : World} {t u : ATab} {a0 a1 a2 b0 b1 b2 : Option Addr} {c0 c1 c2 d0 d1 d2 p q x0 x1 x2 y0 y1 y2 : Nat} {W : World} (h : Dx w t u a0 a1 a2 b0 b1 b2 c0 c1 c2 d0 d1 d2 p q x0 x1 x2 y0 y1 y2 W) : Dx w t u a0 a1 a2 b0 b1 b2 c0 c1 c2 d0 d1 d2 p q x0 x1 x2 y0 y1 y2 W.drew := dx_next h (Below.refl _ _).drew

set_option maxRecDepth 100000 in
set_option maxHeartbeats 4000000 in
theorem law_tab_same (t u : ATab) (a0 a1 a2 b0 b1 b2 : Option Addr) (c0 c1 c2 d0 d1 d2 : Nat) (w : World) (ha : TabAt w a0 a1 a2 t) (hb : TabAt w b0 b1 b2 u) (hf : t.fit) (hg : u.fit) :
    Calls Try.prog 4 #[.agg #[.slice a0 t.cols.length c0, .slice a1 t.chgs.length c1, .slice a2 t.rows.length c2, .int .i64 t.nx], .agg #[.slice b0 u.cols.length d0, .slice b1 u.chgs.length d1, .slice b2 u.rows.length d2, .int .i64 u.nx]] w fun e w' => e = .returned (.bool true) ∧ Below w.heap.size w w' := by
  have hx := boxtt_made w (.slice a0 t.cols.length c0) (.slice a1 t.chgs.length c1) (.slice a2 t.rows.length c2) t.nx (.slice b0 u.cols.length d0) (.slice b1 u.chgs.length d1) (.slice b2 u.rows.length d2) u.nx 39 39
  have HX : Hid (Cx w t u a0 a1 a2 b0 b1 b2 c0 c1 c2 d0 d1 d2 ((w.alloc (.cells #[.slice a0 t.cols.length c0, .slice a1 t.chgs.length c1, .slice a2 t.rows.length c2, .int .i64 t.nx] 39)).alloc (.cells #[.slice b0 u.cols.length d0, .slice b1 u.chgs.length d1, .slice b2 u.rows.length d2, .int .i64 u.nx] 39))) := ⟨hx, ha.keep hx.2.2.2.2, hb.keep hx.2.2.2.2⟩
  clear hx ha hb
  go_enter Try.func4, Try.ntmps4
  go_wp2_with fail
  refine (sz_table t _ _ _ _ _ _ _ _ HX.out.2.1 hf (by omega) (by omega)).mono ?_
  rintro e w1 ⟨z, rfl, hR, hq⟩
  have h1 := cx_next HX.out hq
  clear HX hq
  rcases hR with rfl | ⟨hz, hzl, hn⟩
  · go_wp2_with fail
    go_ret
    exact ⟨rfl, h1.1.2.2.2.2⟩
  have hnt : Hid t.near := hn
  clear hn
  go_wp2_with fail
  refine (sz_table u _ _ _ _ _ _ _ _ h1.2.2 hg (by omega) (by omega)).mono ?_
  rintro e w2 ⟨y, rfl, hR, hq⟩
  have h2 := cx_next h1 hq
  clear h1 hq
  rcases hR with rfl | ⟨hy, hyl, hn⟩
  · go_wp2_with fail
    go_ret
    exact ⟨rfl, h2.1.2.2.2.2⟩
  have hnu : Hid u.near := hn
  clear hn hzl hyl
  go_wp2_with fail
  go_region_held3 (fun W => Cx w t u a0 a1 a2 b0 b1 b2 c0 c1 c2 d0 d1 d2 W) (first | assumption | exact cx_drew (by assumption))
    (first
      | (go_at_call_of 17 t; have hS := ‹Cx w t u a0 a1 a2 b0 b1 b2 c0 c1 c2 d0 d1 d2 _›; refine (to_table t a0 a1 a2 c0 c1 c2 _ hS.2.1 hnt.out).mono ?_; rintro e wA ⟨x0, x1, x2, rfl, hN⟩; have hC := cx_next hS hN.2.2.2; have hRA := hN.tab; clear hN hS)
      | (go_at_call_of 17 u; have hS := ‹Cx w t u a0 a1 a2 b0 b1 b2 c0 c1 c2 d0 d1 d2 _›; refine (to_table u b0 b1 b2 d0 d1 d2 _ hS.2.2 hnu.out).mono ?_; rintro e wB ⟨y0, y1, y2, rfl, hN⟩; have hC2 := cx_next hS hN.2.2.2; have hRB := hN.tab; have hRA2 := hRA.keep hN.2.2.2; clear hN hS)
      | (go_at_call 16; have hS := ‹Cx w t u a0 a1 a2 b0 b1 b2 c0 c1 c2 d0 d1 d2 _›; refine (spec_tab_same t u _ _ _ _ _ _ _ _ _ _ _ _ _ hRA2 hRB hf hg).mono ?_; rintro e wC ⟨rfl, hq⟩; have hC3 := cx_next hS hq; clear hq hS hRA2 hRB))
  clear hC hC2 hRA h2
  generalize hs : tabSame t u = s at *
  have HS : Hid (tabSame t u = s) := hs
  have HC : Hid (Cx w t u a0 a1 a2 b0 b1 b2 c0 c1 c2 d0 d1 d2 wC) := hC3
  have hB0 := hC3.1
  clear hC3 hs
  go_wp2_with fail
  refine (to_table t a0 a1 a2 c0 c1 c2 _ HC.out.2.1 hnt.out).mono ?_
  rintro e w4 ⟨x0, x1, x2, rfl, hN⟩
  have H4 : Hid (Cx w t u a0 a1 a2 b0 b1 b2 c0 c1 c2 d0 d1 d2 w4 ∧ TabAt w4 (some ⟨x0, 0, none⟩) (some ⟨x1, 0, none⟩) (some ⟨x2, 0, none⟩) t) := ⟨cx_next HC.out hN.2.2.2, hN.tab⟩
  clear hN hB0 HC
  rename_i hHeld _ _ _ _
  clear hHeld
  have B4 : Hid (Below w4.heap.size w4 (w4.alloc (.cells #[.slice (some ⟨x0, 0, none⟩) t.cols.length t.cols.length, .slice (some ⟨x1, 0, none⟩) t.chgs.length t.chgs.length, .slice (some ⟨x2, 0, none⟩) t.rows.length t.rows.length, .int .i64 t.nx] 28)) ∧ BoxT w4.heap.size (.slice (some ⟨x0, 0, none⟩) t.cols.length t.cols.length) (.slice (some ⟨x1, 0, none⟩) t.chgs.length t.chgs.length) (.slice (some ⟨x2, 0, none⟩) t.rows.length t.rows.length) t.nx (w4.alloc (.cells #[.slice (some ⟨x0, 0, none⟩) t.cols.length t.cols.length, .slice (some ⟨x1, 0, none⟩) t.chgs.length t.chgs.length, .slice (some ⟨x2, 0, none⟩) t.rows.length t.rows.length, .int .i64 t.nx] 28)) ∧ w4.heap.size < (w4.alloc (.cells #[.slice (some ⟨x0, 0, none⟩) t.cols.length t.cols.length, .slice (some ⟨x1, 0, none⟩) t.chgs.length t.chgs.length, .slice (some ⟨x2, 0, none⟩) t.rows.length t.rows.length, .int .i64 t.nx] 28)).heap.size) := (⟨(Below.refl _ _).alloc (Nat.le_refl _) _, boxt_box _ _ _ _ _ _, by simp⟩ : _ ∧ _ ∧ _)
  have hB0 := (cx_next H4.out.1 B4.out.1).1
  go_wp2_with fail
  generalize w4.alloc (.cells #[.slice (some ⟨x0, 0, none⟩) t.cols.length t.cols.length, .slice (some ⟨x1, 0, none⟩) t.chgs.length t.chgs.length, .slice (some ⟨x2, 0, none⟩) t.rows.length t.rows.length, .int .i64 t.nx] 28) = W4 at *
  refine (to_table u b0 b1 b2 d0 d1 d2 _ (cx_next H4.out.1 B4.out.1).2.2 hnu.out).mono ?_
  rintro e w5 ⟨y0, y1, y2, rfl, hN⟩
  have D5 : Hid (Cx w t u a0 a1 a2 b0 b1 b2 c0 c1 c2 d0 d1 d2 w5 ∧ BoxT w4.heap.size (.slice (some ⟨x0, 0, none⟩) t.cols.length t.cols.length) (.slice (some ⟨x1, 0, none⟩) t.chgs.length t.chgs.length) (.slice (some ⟨x2, 0, none⟩) t.rows.length t.rows.length) t.nx w5 ∧ w4.heap.size < w5.heap.size ∧ TabAt w5 (some ⟨x0, 0, none⟩) (some ⟨x1, 0, none⟩) (some ⟨x2, 0, none⟩) t ∧ TabAt w5 (some ⟨y0, 0, none⟩) (some ⟨y1, 0, none⟩) (some ⟨y2, 0, none⟩) u) :=
    ⟨cx_next (cx_next H4.out.1 B4.out.1) hN.2.2.2, boxt_next B4.out.2.1 B4.out.2.2 hN.2.2.2, Nat.lt_of_lt_of_le B4.out.2.2 hN.2.2.2.size, (H4.out.2.keep B4.out.1).keep hN.2.2.2, hN.tab⟩
  clear hN hB0 H4 B4
  have b5 : Below w5.heap.size w5 (w5.alloc (.cells #[.slice (some ⟨y0, 0, none⟩) u.cols.length u.cols.length, .slice (some ⟨y1, 0, none⟩) u.chgs.length u.chgs.length, .slice (some ⟨y2, 0, none⟩) u.rows.length u.rows.length, .int .i64 u.nx] 28)) := (Below.refl _ _).alloc (Nat.le_refl _) _
  have D6 : Hid (Dx w t u a0 a1 a2 b0 b1 b2 c0 c1 c2 d0 d1 d2 w4.heap.size w5.heap.size x0 x1 x2 y0 y1 y2 (w5.alloc (.cells #[.slice (some ⟨y0, 0, none⟩) u.cols.length u.cols.length, .slice (some ⟨y1, 0, none⟩) u.chgs.length u.chgs.length, .slice (some ⟨y2, 0, none⟩) u.rows.length u.rows.length, .int .i64 u.nx] 28))) := (⟨cx_next D5.out.1 b5, boxt_next D5.out.2.1 D5.out.2.2.1 b5, boxt_box _ _ _ _ _ _, Nat.lt_of_lt_of_le D5.out.2.2.1 b5.size, by simp, D5.out.2.2.2.1.keep b5, D5.out.2.2.2.2.keep b5⟩ : _ ∧ _ ∧ _ ∧ _ ∧ _ ∧ _ ∧ _)
  have hB7 := D6.out.2.1
  clear b5 D5
  go_wp2_with fail
  generalize w5.alloc (.cells #[.slice (some ⟨y0, 0, none⟩) u.cols.length u.cols.length, .slice (some ⟨y1, 0, none⟩) u.chgs.length u.chgs.length, .slice (some ⟨y2, 0, none⟩) u.rows.length u.rows.length, .int .i64 u.nx] 28) = W6 at *
  generalize w4.heap.size = p at *
  generalize w5.heap.size = q at *
  refine (impl_tab_same t u _ _ _ _ _ _ _ _ _ _ _ _ _ D6.out.2.2.2.2.2.1 D6.out.2.2.2.2.2.2 hf hg).mono ?_
  rintro e w7 ⟨rfl, hq⟩
  rw [HS.out]
  have D7 := dx_next D6.out hq
  clear hq D6 hB7 HS
  go_wp2_with fail
  go_region_held3 (fun W => Dx w t u a0 a1 a2 b0 b1 b2 c0 c1 c2 d0 d1 d2 p q x0 x1 x2 y0 y1 y2 W) (first | assumption | exact dx_drew (by assumption))
    (first
      | (go_at_call 17; have hS := ‹Dx w t u a0 a1 a2 b0 b1 b2 c0 c1 c2 d0 d1 d2 p q x0 x1 x2 y0 y1 y2 _›; refine (to_table t a0 a1 a2 c0 c1 c2 _ hS.1.2.1 hnt.out).mono ?_; rintro e wA ⟨z0, z1, z2, rfl, hN⟩; have hC := dx_next hS hN.2.2.2; have hRA := hN.tab; clear hN hS)
      | (go_at_call 10; have hS := ‹Dx w t u a0 a1 a2 b0 b1 b2 c0 c1 c2 d0 d1 d2 p q x0 x1 x2 y0 y1 y2 _›; refine (eq_table t _ _ _ _ _ _ _ _ _ _ _ _ _ hS.2.2.2.2.2.1 hRA hf).mono ?_; rintro e wC ⟨rfl, hq⟩; have hC3 := dx_next hS hq; clear hq hS hRA))
  clear hC D7
  go_wp2_with fail
  go_region_held3 (fun W => Dx w t u a0 a1 a2 b0 b1 b2 c0 c1 c2 d0 d1 d2 p q x0 x1 x2 y0 y1 y2 W) (first | assumption | exact dx_drew (by assumption))
    (first
      | (go_at_call 17; have hS := ‹Dx w t u a0 a1 a2 b0 b1 b2 c0 c1 c2 d0 d1 d2 p q x0 x1 x2 y0 y1 y2 _›; refine (to_table u b0 b1 b2 d0 d1 d2 _ hS.1.2.2 hnu.out).mono ?_; rintro e wA ⟨z0, z1, z2, rfl, hN⟩; have hC := dx_next hS hN.2.2.2; have hRA := hN.tab; clear hN hS)
      | (go_at_call 10; have hS := ‹Dx w t u a0 a1 a2 b0 b1 b2 c0 c1 c2 d0 d1 d2 p q x0 x1 x2 y0 y1 y2 _›; refine (eq_table u _ _ _ _ _ _ _ _ _ _ _ _ _ hS.2.2.2.2.2.2 hRA hg).mono ?_; rintro e wC ⟨rfl, hq⟩; have hC5 := dx_next hS hq; clear hq hS hRA))
  have HZ : Hid (Below w.heap.size w _) := hC5.1.1.2.2.2.2
  clear hC hC3 hC5
  go_wp2_with fail
  go_ret
  exact ⟨rfl, HZ.out⟩

end Go.Proofs.Yteckjdoiimifaaa
