/- The contracts of spec.DrawShapeSame, spec.DrawShapeOk and spec.DrawColOk, over the seat's translation. -/
import Derived.Test.YtgigikmdipjffaaDrC3
namespace Go.Proofs.Ytgigikmdipjffaa
open Go.RowKit

/-- A slice that a draw has made, kept through another draw on the same reader. -/
theorem cols_upd {W W' : World} {b o g : Nat} {L : List ACol} (h : ColsAt W (some ⟨b, o, none⟩) L) (hu : Upd g W W') (hne : b ≠ g) : ColsAt W' (some ⟨b, o, none⟩) L := by
  rcases h with h | ⟨b', o', e, hlt, hr⟩
  · exact Or.inl h
  · cases e
    refine Or.inr ⟨b, o, rfl, Nat.lt_of_lt_of_le hlt hu.size, fun i c hc j v hv => ?_⟩
    rw [(ucell hu).1 _ _ hlt hne]
    exact hr i c hc j v hv

set_option maxRecDepth 100000 in
set_option maxHeartbeats 2000000 in
theorem draw_two (x : Option Addr) (len cap : Nat) (w : World) (hlc : len ≤ cap) (hcap : cap ≤ maxLen) (hc : IsCode w.heap.size x len w) :
    Calls Try.prog 4 #[.slice x len cap] w fun e w' => ∃ (b1 c1 b2 c2 : Nat) (L M : List ACol), e = .returned (.tuple #[.slice (some ⟨b1, 0, none⟩) L.length c1, .slice (some ⟨b2, 0, none⟩) M.length c2]) ∧ ColsAt w' (some ⟨b1, 0, none⟩) L ∧ ColsAt w' (some ⟨b2, 0, none⟩) M ∧ L.length ≤ 20 ∧ M.length ≤ 20 ∧ (∀ c ∈ L, c.small) ∧ (∀ c ∈ M, c.small) ∧ Below w.heap.size w w' := by
  have Hc : Hid (IsCode w.heap.size x len w) := hc
  clear hc
  go_enter Try.func4, Try.ntmps4
  go_wp2_with fail
  refine (l10_open w.heap.size w.heap.size x len cap w rfl (Nat.le_refl _) hlc hcap Hc.out).mono ?_
  rintro e w1 ⟨rfl, hr1, hb1⟩
  have H1 : Hid (Rd w.heap.size w.heap.size 0 w1 ∧ Below w.heap.size w w1) := ⟨hr1, hb1⟩
  have hz1 : w.heap.size < w1.heap.size := hr1.2.1
  clear hr1 hb1 Hc
  go_wp2_with fail
  refine (l2_shape w.heap.size w.heap.size 0 w1 H1.out.1 (by omega)).mono ?_
  rintro e w2 ⟨v, L, q, rfl, hO, hl, hs, hq, hr2, hu2⟩
  obtain ⟨b2, cap2, rfl, hb2, hc2⟩ := hO.cols
  have H2 : Hid (ColsAt w2 (some ⟨b2, 0, none⟩) L ∧ Rd w.heap.size w.heap.size q w2 ∧ Below w.heap.size w w2) := ⟨hc2, hr2, H1.out.2.trans (hu2.below (Nat.le_refl _) H1.out.2.size)⟩
  have hz2 : w1.heap.size ≤ w2.heap.size := hu2.size
  clear hO hc2 hr2 hu2 H1
  go_wp2_with fail
  refine (l2_bent w.heap.size w.heap.size q b2 0 cap2 L w2 H2.out.2.1 (by omega) H2.out.1 (by omega) hs).mono ?_
  rintro e w3 ⟨v, M3, q3, rfl, hO, hl3, hs3, hq3, hr3, hu3⟩
  obtain ⟨b3, cap3, rfl, hb3, hc3⟩ := hO.cols
  have H3 : Hid (ColsAt w3 (some ⟨b2, 0, none⟩) L ∧ ColsAt w3 (some ⟨b3, 0, none⟩) M3 ∧ Rd w.heap.size w.heap.size q3 w3 ∧ Below w.heap.size w w3) := ⟨cols_upd H2.out.1 hu3 (by omega), hc3, hr3, H2.out.2.2.trans (hu3.below (Nat.le_refl _) H2.out.2.2.size)⟩
  have hz3 : w2.heap.size ≤ w3.heap.size := hu3.size
  clear hO hc3 hr3 hu3 H2
  go_wp2_with fail
  refine (l2_bent w.heap.size w.heap.size q3 b3 0 cap3 M3 w3 H3.out.2.2.1 (by omega) H3.out.2.1 (by omega) hs3).mono ?_
  rintro e w4 ⟨v, M4, q4, rfl, hO, hl4, hs4, hq4, hr4, hu4⟩
  obtain ⟨b4, cap4, rfl, hb4, hc4⟩ := hO.cols
  have H4 : Hid (ColsAt w4 (some ⟨b2, 0, none⟩) L ∧ ColsAt w4 (some ⟨b4, 0, none⟩) M4 ∧ Rd w.heap.size w.heap.size q4 w4 ∧ Below w.heap.size w w4) := ⟨cols_upd H3.out.1 hu4 (by omega), hc4, hr4, H3.out.2.2.2.trans (hu4.below (Nat.le_refl _) H3.out.2.2.2.size)⟩
  have hz4 : w3.heap.size ≤ w4.heap.size := hu4.size
  clear hO hc4 hr4 hu4 H3
  go_wp2_with fail
  refine (l2_bent w.heap.size w.heap.size q4 b4 0 cap4 M4 w4 H4.out.2.2.1 (by omega) H4.out.2.1 (by omega) hs4).mono ?_
  rintro e w5 ⟨v, M5, q5, rfl, hO, hl5, hs5, hq5, hr5, hu5⟩
  obtain ⟨b5, cap5, rfl, hb5, hc5⟩ := hO.cols
  have H5 : Hid (ColsAt w5 (some ⟨b2, 0, none⟩) L ∧ ColsAt w5 (some ⟨b5, 0, none⟩) M5 ∧ Rd w.heap.size w.heap.size q5 w5 ∧ Below w.heap.size w w5) := ⟨cols_upd H4.out.1 hu5 (by omega), hc5, hr5, H4.out.2.2.2.trans (hu5.below (Nat.le_refl _) H4.out.2.2.2.size)⟩
  have hz5 : w4.heap.size ≤ w5.heap.size := hu5.size
  clear hO hc5 hr5 hu5 H4
  go_wp2_with fail
  refine (l2_bent w.heap.size w.heap.size q5 b5 0 cap5 M5 w5 H5.out.2.2.1 (by omega) H5.out.2.1 (by omega) hs5).mono ?_
  rintro e w6 ⟨v, M6, q6, rfl, hO, hl6, hs6, hq6, hr6, hu6⟩
  obtain ⟨b6, cap6, rfl, hb6, hc6⟩ := hO.cols
  have H6 : Hid (ColsAt w6 (some ⟨b2, 0, none⟩) L ∧ ColsAt w6 (some ⟨b6, 0, none⟩) M6 ∧ Below w.heap.size w w6) := ⟨cols_upd H5.out.1 hu6 (by omega), hc6, H5.out.2.2.2.trans (hu6.below (Nat.le_refl _) H5.out.2.2.2.size)⟩
  clear hO hc6 hr6 hu6 H5
  go_wp2_with fail
  go_ret2
  exact ⟨b2, cap2, b6, cap6, L, M6, rfl, H6.out.1, H6.out.2.1, by omega, by omega, hs, hs6, H6.out.2.2⟩

set_option maxRecDepth 100000 in
set_option maxHeartbeats 2000000 in
theorem draw_shape (x : Option Addr) (len cap B : Nat) (w : World) (hB : B ≤ w.heap.size) (hlc : len ≤ cap) (hcap : cap ≤ maxLen) (hc : IsCode B x len w) :
    Calls Try.prog 5 #[.slice x len cap] w fun e w' => ∃ (b1 c1 : Nat) (L : List ACol), e = .returned (.slice (some ⟨b1, 0, none⟩) L.length c1) ∧ ColsAt w' (some ⟨b1, 0, none⟩) L ∧ L.length ≤ 20 ∧ (∀ c ∈ L, c.small) ∧ Below w.heap.size w w' := by
  have Hc : Hid (IsCode B x len w) := hc
  clear hc
  go_enter Try.func5, Try.ntmps5
  go_wp2_with fail
  refine (l10_open B w.heap.size x len cap w rfl hB hlc hcap Hc.out).mono ?_
  rintro e w1 ⟨rfl, hr1, hb1⟩
  have H1 : Hid (Rd B w.heap.size 0 w1 ∧ Below w.heap.size w w1) := ⟨hr1, hb1⟩
  have hz1 : w.heap.size < w1.heap.size := hr1.2.1
  clear hr1 hb1 Hc
  go_wp2_with fail
  refine (l2_shape B w.heap.size 0 w1 H1.out.1 (by omega)).mono ?_
  rintro e w2 ⟨v, L, q, rfl, hO, hl, hs, hq, hr2, hu2⟩
  obtain ⟨b2, cap2, rfl, hb2, hc2⟩ := hO.cols
  have H2 : Hid (ColsAt w2 (some ⟨b2, 0, none⟩) L ∧ Rd B w.heap.size q w2 ∧ Below w.heap.size w w2) := ⟨hc2, hr2, H1.out.2.trans (hu2.below (Nat.le_refl _) H1.out.2.size)⟩
  clear hO hc2 hr2 hu2 H1
  go_wp2_with fail
  refine (l2_bent B w.heap.size q b2 0 cap2 L w2 H2.out.2.1 (by omega) H2.out.1 (by omega) hs).mono ?_
  rintro e w3 ⟨v, M3, q3, rfl, hO, hl3, hs3, hq3, hr3, hu3⟩
  obtain ⟨b3, cap3, rfl, hb3, hc3⟩ := hO.cols
  have H3 : Hid (ColsAt w3 (some ⟨b3, 0, none⟩) M3 ∧ Rd B w.heap.size q3 w3 ∧ Below w.heap.size w w3) := ⟨hc3, hr3, H2.out.2.2.trans (hu3.below (Nat.le_refl _) H2.out.2.2.size)⟩
  clear hO hc3 hr3 hu3 H2
  go_wp2_with fail
  refine (l2_bent B w.heap.size q3 b3 0 cap3 M3 w3 H3.out.2.1 (by omega) H3.out.1 (by omega) hs3).mono ?_
  rintro e w4 ⟨v, M4, q4, rfl, hO, hl4, hs4, hq4, hr4, hu4⟩
  obtain ⟨b4, cap4, rfl, hb4, hc4⟩ := hO.cols
  have H4 : Hid (ColsAt w4 (some ⟨b4, 0, none⟩) M4 ∧ Below w.heap.size w w4) := ⟨hc4, H3.out.2.2.trans (hu4.below (Nat.le_refl _) H3.out.2.2.size)⟩
  clear hO hc4 hr4 hu4 H3
  go_wp2_with fail
  go_ret
  exact ⟨b4, cap4, M4, rfl, H4.out.1, by omega, hs4, H4.out.2⟩

end Go.Proofs.Ytgigikmdipjffaa
