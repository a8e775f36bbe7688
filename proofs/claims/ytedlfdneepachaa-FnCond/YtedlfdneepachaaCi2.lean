/- The contract of spec.DrawCondHas, over the seat's translation. -/
import Derived.Test.YtedlfdneepachaaCi1
namespace Go.Proofs.Ytedlfdneepachaa
open Go.RowKit

theorem ownc_on {B g : Nat} {nm : ByteArray} {how k n : Int} {s : ByteArray} {w2 w3 : World} {o : Obj} (h : OwnC B nm how k n s w2) (hB : B < w2.heap.size) (hu : Upd g (w2.alloc o).drew w3) (hne : B ≠ g) : OwnC B nm how k n s w3 :=
  ownc_upd (ownc_upd h hB (Upd.ofBelow (g := w2.heap.size) (alloc_below w2 o).drew) (by omega)) (by have := (alloc_below w2 o).drew.size; omega) hu hne
theorem ownc_new {g : Nat} {nm : ByteArray} {how k n : Int} {s : ByteArray} {w2 w3 : World} {t : TypeId} (hu : Upd g (w2.alloc (.cells #[.string nm, .int .i64 how, .int .i64 k, .int .i64 n, .string s] t)).drew w3) (hne : w2.heap.size ≠ g) : OwnC w2.heap.size nm how k n s w3 := by
  have h0 := ownc_upd (ownc_box w2 nm how k n s t) (by rw [size_alloc]; omega) (Upd.ofBelow (g := w2.heap.size + 1) (Below.refl _ _).drew) (by omega)
  exact ownc_upd h0 (by have := (Below.refl (w2.alloc (.cells #[.string nm, .int .i64 how, .int .i64 k, .int .i64 n, .string s] t)).heap.size (w2.alloc (.cells #[.string nm, .int .i64 how, .int .i64 k, .int .i64 n, .string s] t))).drew.size; rw [size_alloc] at this; omega) hu hne
theorem cols_on {b o : Nat} {L : List ACol} {w2 : World} {x : Obj} (h : ColsAt w2 (some ⟨b, o, none⟩) L) : ColsAt (w2.alloc x).drew (some ⟨b, o, none⟩) L := h.keep (alloc_below w2 x).drew
theorem lt_on {b : Nat} {w2 : World} {x : Obj} (h : b < w2.heap.size) : b < (w2.alloc x).drew.heap.size := by have := (alloc_below w2 x).drew.size; omega

set_option maxRecDepth 100000 in
set_option maxHeartbeats 2000000 in
theorem draw_has (x : Option Addr) (len cap : Nat) (w : World) (hlc : len ≤ cap) (hcap : cap ≤ maxLen) (hc : IsCode w.heap.size x len w) :
    Calls Try.prog 4 #[.slice x len cap] w fun e w' => ∃ (bs cs bv ov cv : Nat) (L : List ACol) (V : List AVal) (nm : ByteArray) (how k n : Int) (s : ByteArray), e = .returned (.tuple #[.slice (some ⟨bs, 0, none⟩) L.length cs, .agg #[.string nm, .int .i64 how, .int .i64 k, .int .i64 n, .string s], .slice (some ⟨bv, ov, none⟩) V.length cv]) ∧ ColsAt w' (some ⟨bs, 0, none⟩) L ∧ ValsAt w' (some ⟨bv, ov, none⟩) V ∧ L.length ≤ 6 ∧ V.length ≤ 11 ∧ (∀ c ∈ L, c.small) ∧ (∀ v ∈ V, v.small) ∧ nm.size ≤ 5 ∧ s.size ≤ 5 ∧ Below w.heap.size w w' := by
  have b0 := alloc_below w (.cells #[.string ⟨#[]⟩, .int .i64 0, .int .i64 0, .int .i64 0, .string ⟨#[]⟩] 27)
  have H0 : Hid (IsCode w.heap.size x len (w.alloc (.cells #[.string ⟨#[]⟩, .int .i64 0, .int .i64 0, .int .i64 0, .string ⟨#[]⟩] 27)) ∧ OwnC w.heap.size ⟨#[]⟩ 0 0 0 ⟨#[]⟩ (w.alloc (.cells #[.string ⟨#[]⟩, .int .i64 0, .int .i64 0, .int .i64 0, .string ⟨#[]⟩] 27)) ∧ Below w.heap.size w (w.alloc (.cells #[.string ⟨#[]⟩, .int .i64 0, .int .i64 0, .int .i64 0, .string ⟨#[]⟩] 27))) := ⟨hc.keep b0, ownc_box _ _ _ _ _ _ _, b0⟩
  clear hc b0
  go_enter Try.func4, Try.ntmps4
  go_wp2_with fail
  refine (l10_open w.heap.size (w.heap.size + 1) x len cap _ (by rw [size_alloc]) (by rw [size_alloc]; omega) hlc hcap H0.out.1).mono ?_
  rintro e w1 ⟨rfl, hr1, hb1⟩
  rw [size_alloc] at hb1
  have H1 : Hid (Rd w.heap.size (w.heap.size + 1) 0 w1 ∧ OwnC w.heap.size ⟨#[]⟩ 0 0 0 ⟨#[]⟩ w1 ∧ Below w.heap.size w w1) := ⟨hr1, ownc_upd H0.out.2.1 (by rw [size_alloc]; omega) (Upd.ofBelow (g := w.heap.size + 1) (by rw [size_alloc]; exact hb1)) (by omega), H0.out.2.2.trans (hb1.mono (by omega))⟩
  have hz1 : w.heap.size + 1 < w1.heap.size := hr1.2.1
  clear hr1 hb1 H0
  go_wp2_with fail
  refine (l2_shape w.heap.size (w.heap.size + 1) 0 w1 H1.out.1 (by omega)).mono ?_
  rintro e w2 ⟨v, L0, q, rfl, hO, hl, hs, hq, hr2, hu2⟩
  obtain ⟨b2, cap2, rfl, hb2, hc2⟩ := hO.cols
  have hz2 : w.heap.size + 1 < w2.heap.size := hr2.2.1
  have H2 : Hid (ColsAt w2 (some ⟨b2, 0, none⟩) L0 ∧ Rd w.heap.size (w.heap.size + 1) q w2 ∧ OwnC w.heap.size ⟨#[]⟩ 0 0 0 ⟨#[]⟩ w2 ∧ Below w.heap.size w w2) := ⟨hc2, hr2, ownc_upd H1.out.2.1 (by omega) hu2 (by omega), H1.out.2.2.trans (hu2.below (by omega) H1.out.2.2.size)⟩
  clear hO hc2 hr2 hu2 H1
  go_wp2_with fail
  refine (l2_bent w.heap.size (w.heap.size + 1) q b2 0 cap2 L0 w2 H2.out.2.1 (by omega) H2.out.1 (by omega) hs).mono ?_
  rintro e w3 ⟨v, L, q3, rfl, hO, hl3, hs3, hq3, hr3, hu3⟩
  obtain ⟨b3, cap3, rfl, hb3, hc3⟩ := hO.cols
  have hz3 : w.heap.size + 1 < w3.heap.size := hr3.2.1
  have hlt3 : b3 < w3.heap.size := (World.ownsRow.lt hO.1 b3 rfl).2
  have H3 : Hid (ColsAt w3 (some ⟨b3, 0, none⟩) L ∧ Rd w.heap.size (w.heap.size + 1) q3 w3 ∧ OwnC w.heap.size ⟨#[]⟩ 0 0 0 ⟨#[]⟩ w3 ∧ Below w.heap.size w w3) := ⟨hc3, hr3, ownc_upd H2.out.2.2.1 (by omega) hu3 (by omega), H2.out.2.2.2.trans (hu3.below (by omega) H2.out.2.2.2.size)⟩
  clear hO hc3 hr3 hu3 H2 hs
  go_wp2_with fail
  refine (l7_cond w.heap.size (w.heap.size + 1) q3 b3 0 cap3 L w3 H3.out.2.1 (by omega) H3.out.1 (by omega) hlt3 (by omega) hs3).mono ?_
  rintro e w4 ⟨nm, how, k, n, s, q4, rfl, hnm, hss, hq4, hr4, hu4⟩
  have hz4 : w.heap.size + 1 < w4.heap.size := hr4.2.1
  have hlt4 : b3 < w4.heap.size := Nat.lt_of_lt_of_le hlt3 hu4.size
  have H4 : Hid (ColsAt w4 (some ⟨b3, 0, none⟩) L ∧ Rd w.heap.size (w.heap.size + 1) q4 w4 ∧ OwnC w.heap.size ⟨#[]⟩ 0 0 0 ⟨#[]⟩ w4 ∧ Below w.heap.size w w4) := ⟨H3.out.1.upd hu4 (by omega), hr4, ownc_upd H3.out.2.2.1 (by omega) hu4 (by omega), H3.out.2.2.2.trans (hu4.below (by omega) H3.out.2.2.2.size)⟩
  clear hr4 hu4 H3
  go_wp2_with fail
  have hX := ownc_box w4 nm how k n s 27
  have y0 := hX.1
  have y1 := hX.2.1
  have y2 := hX.2.2.1
  have y3 := hX.2.2.2.1
  have y4 := hX.2.2.2.2.1
  have hneA : w.heap.size ≠ w4.heap.size := by omega
  have hneB : w4.heap.size ≠ w.heap.size := by omega
  clear hX
  go_region_with (go_at_call 15; refine (l2_vals w.heap.size (w.heap.size + 1) q4 b3 0 cap3 L _ ?_ (by omega) ?_ (by omega) ?_ (by omega)).mono ?_; (exact rd_on H4.out.2.1); (exact cols_on H4.out.1); (exact lt_on hlt4); rintro e w5 ⟨bv, ov, cv, V, q5, rfl, hbv, hva, hvc, hvl, hvs, hq5, hr5, hu5⟩; have hrs := ownc_on H4.out.2.2.1 (by omega) hu5 (by omega); have hnw := ownc_new hu5 (by omega); have H5 : Hid (Below w.heap.size w w5 ∧ ColsAt w5 (some ⟨b3, 0, none⟩) L ∧ ValsAt w5 (some ⟨bv, ov, none⟩) V) := ⟨below_on H4.out.2.2.2 hu5 (by omega) (by omega), (cols_on H4.out.1).upd hu5 (by omega), hva⟩; clear hr5 hu5 hva)
  all_goals
    have hbv2 : w.heap.size < bv := by have := (alloc_below w4 (.cells #[.string nm, .int .i64 how, .int .i64 k, .int .i64 n, .string s] 27)).drew.size; omega
    go_wp2_with fail
    exact bodyPost_ret (v := .tuple #[.slice (some ⟨b3, 0, none⟩) L.length cap3, .agg #[.string nm, .int .i64 how, .int .i64 k, .int .i64 n, .string s], .slice (some ⟨bv, ov, none⟩) V.length cv]) (by simp [results, Try.results4, go_sem, hrs]) rfl ⟨_, _, _, _, _, _, _, _, _, _, _, _, rfl, H5.out.2.1.upd (Upd.set5 (b := w.heap.size) _ _ _ _ _ _) (by omega), H5.out.2.2.upd (Upd.set5 (b := w.heap.size) _ _ _ _ _ _) (by omega), by omega, hvl, hs3, hvs, hnm, hss, H5.out.1.trans ((Upd.set5 (b := w.heap.size) _ _ _ _ _ _).below (Nat.le_refl _) H5.out.1.size)⟩

end Go.Proofs.Ytedlfdneepachaa
