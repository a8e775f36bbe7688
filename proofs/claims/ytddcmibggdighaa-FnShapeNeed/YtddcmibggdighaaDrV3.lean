/- The contract of spec.DrawRowOk, over the seat's translation. -/
import Derived.Test.YtddcmibggdighaaDrV2
namespace Go.Proofs.Ytddcmibggdighaa
open Go.RowKit

set_option maxRecDepth 100000 in
set_option maxHeartbeats 2000000 in
theorem draw_row (x : Option Addr) (len cap : Nat) (w : World) (hlc : len ≤ cap) (hcap : cap ≤ maxLen) (hc : IsCode w.heap.size x len w) :
    Calls Try.prog 4 #[.slice x len cap] w fun e w' => ∃ (bs cs bv ov cv : Nat) (L : List ACol) (V : List AVal), e = .returned (.tuple #[.slice (some ⟨bs, 0, none⟩) L.length cs, .slice (some ⟨bv, ov, none⟩) V.length cv]) ∧ ColsAt w' (some ⟨bs, 0, none⟩) L ∧ ValsAt w' (some ⟨bv, ov, none⟩) V ∧ L.length ≤ 6 ∧ V.length ≤ 11 ∧ V.length ≤ cv ∧ (∀ c ∈ L, c.small) ∧ (∀ v ∈ V, v.small) ∧ Below w.heap.size w w' := by
  have Hc : Hid (IsCode w.heap.size x len w) := hc
  clear hc
  go_enter Try.func4, Try.ntmps4
  go_wp2_with fail
  refine (l10_open w.heap.size w.heap.size x len cap w rfl (Nat.le_refl _) hlc hcap Hc.out).mono ?_
  rintro e w1 ⟨rfl, hr1, hb1⟩
  have H1 : Hid (Rd w.heap.size w.heap.size 0 w1 ∧ Below w.heap.size w w1) := ⟨hr1, hb1⟩
  clear hr1 hb1 Hc
  go_wp2_with fail
  refine (l2_shape w.heap.size w.heap.size 0 w1 H1.out.1 (by omega)).mono ?_
  rintro e w2 ⟨v, L, q, rfl, hO, hl, hs, hq, hr2, hu2⟩
  obtain ⟨b2, cap2, rfl, hb2, hc2⟩ := hO.cols
  have hz1 : w.heap.size < w1.heap.size := H1.out.1.2.1
  have hlt2 : b2 < w2.heap.size := (World.ownsRow.lt hO.1 b2 rfl).2
  have H2 : Hid (ColsAt w2 (some ⟨b2, 0, none⟩) L ∧ Rd w.heap.size w.heap.size q w2 ∧ Below w.heap.size w w2) := ⟨hc2, hr2, H1.out.2.trans (hu2.below (Nat.le_refl _) H1.out.2.size)⟩
  clear hO hc2 hr2 hu2 H1
  go_wp2_with fail
  refine (l2_vals w.heap.size w.heap.size q b2 0 cap2 L w2 H2.out.2.1 (by omega) H2.out.1 (by omega) hlt2 (by omega)).mono ?_
  rintro e w3 ⟨bv, ov, cv, V, q3, rfl, hbv, hva, hvc, hvl, hvs, hq3, hr3, hu3⟩
  have H3 : Hid (ColsAt w3 (some ⟨b2, 0, none⟩) L ∧ ValsAt w3 (some ⟨bv, ov, none⟩) V ∧ Rd w.heap.size w.heap.size q3 w3 ∧ Below w.heap.size w w3) := ⟨H2.out.1.upd hu3 (by omega), hva, hr3, H2.out.2.2.trans (hu3.below (Nat.le_refl _) H2.out.2.2.size)⟩
  clear hva hr3 hu3 H2
  go_wp2_with fail
  refine (l2_bent w.heap.size w.heap.size q3 b2 0 cap2 L w3 H3.out.2.2.1 (by omega) H3.out.1 (by omega) hs).mono ?_
  rintro e w4 ⟨v, M, q4, rfl, hO, hl4, hs4, hq4, hr4, hu4⟩
  obtain ⟨b4, cap4, rfl, hb4, hc4⟩ := hO.cols
  have hva4 : Hid (ValsAt w4 (some ⟨bv, ov, none⟩) V) := H3.out.2.1.upd hu4 (by omega)
  have hB4 : Hid (Below w.heap.size w w4) := H3.out.2.2.2.trans (hu4.below (Nat.le_refl _) H3.out.2.2.2.size)
  have hC4 : Hid (ColsAt w4 (some ⟨b4, 0, none⟩) M) := hc4
  clear hO hc4 hr4 hu4 H3
  go_wp2_with fail
  go_ret2
  exact ⟨b4, cap4, bv, ov, cv, M, V, rfl, hC4.out, hva4.out, by omega, hvl, hvc, hs4, hvs, hB4.out⟩

end Go.Proofs.Ytddcmibggdighaa
