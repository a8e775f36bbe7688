/- The contract of spec.DrawShapeAt, over the seat's translation. -/
import Derived.Test.YtbkojenjobabcaaDrC3
namespace Go.Proofs.Ytbkojenjobabcaa
open Go.RowKit

def strs8 : List ByteArray := [⟨#[97]⟩, ⟨#[98]⟩, ⟨#[99]⟩, ⟨#[100]⟩, ⟨#[101]⟩, ⟨#[97, 98]⟩, ⟨#[120]⟩, ⟨#[]⟩]
theorem strs8_le (s : ByteArray) (h : s ∈ strs8) : s.size ≤ 5 := by
  simp [strs8] at h
  rcases h with rfl | rfl | rfl | rfl | rfl | rfl | rfl | rfl <;> decide

set_option maxRecDepth 100000 in
set_option maxHeartbeats 2000000 in
theorem draw_at (x : Option Addr) (len cap : Nat) (w : World) (hlc : len ≤ cap) (hcap : cap ≤ maxLen) (hc : IsCode w.heap.size x len w) :
    Calls Try.prog 4 #[.slice x len cap] w fun e w' => ∃ (a : Option Addr) (cp : Nat) (L : List ACol) (nm : ByteArray), e = .returned (.tuple #[.slice a L.length cp, .string nm]) ∧ ColsAt w' a L ∧ L.length ≤ 6 ∧ (∀ c ∈ L, c.small) ∧ nm.size ≤ 5 ∧ Below w.heap.size w w' := by
  have Hc : Hid (IsCode w.heap.size x len w) := hc
  clear hc
  go_enter Try.func4, Try.ntmps4
  go_wp2_with fail
  refine (l10_open w.heap.size w.heap.size x len cap w rfl (Nat.le_refl _) hlc hcap Hc.out).mono ?_
  rintro e w1 ⟨rfl, hr1, hb1⟩
  have H1 : Hid (Rd w.heap.size w.heap.size 0 w1 ∧ Below w.heap.size w w1) := ⟨hr1, hb1⟩
  clear hr1 hb1 Hc
  go_wp2_with fail
  refine (l2_shape w.heap.size w.heap.size 0 w1 H1.out.1 (by omega)).mono ?_
  rintro e w2 ⟨v, L, q, rfl, hO, hl, hs, hq, hr2, hu2⟩
  obtain ⟨b2, cap2, rfl, hb2, hc2⟩ := hO.cols
  have H2 : Hid (ColsAt w2 (some ⟨b2, 0, none⟩) L ∧ Rd w.heap.size w.heap.size q w2 ∧ Below w.heap.size w w2) := ⟨hc2, hr2, H1.out.2.trans (hu2.below (Nat.le_refl _) H1.out.2.size)⟩
  clear hO hc2 hr2 hu2 H1
  go_wp2_with fail
  refine (l2_bent w.heap.size w.heap.size q b2 0 cap2 L w2 H2.out.2.1 (by omega) H2.out.1 (by omega) hs).mono ?_
  rintro e w3 ⟨v, M, q3, rfl, hO, hl3, hs3, hq3, hr3, hu3⟩
  obtain ⟨b3, cap3, rfl, hb3, hc3⟩ := hO.cols
  have H3 : Hid (OwnCols w2.heap.size (.slice (some ⟨b3, 0, none⟩) M.length cap3) M w3 ∧ Rd w.heap.size w.heap.size q3 w3 ∧ Below w.heap.size w w3) := ⟨hO, hr3, H2.out.2.2.trans (hu3.below (Nat.le_refl _) H2.out.2.2.size)⟩
  have hz2 : w.heap.size < w2.heap.size := H2.out.2.1.2.1
  clear hO hc3 hr3 hu3 H2
  go_wp2_with fail
  have ba := alloc_below w3 (.cells (strs8.map Value.string).toArray 9)
  refine (of_of_any w.heap.size w.heap.size q3 w3.heap.size strs8 _ (H3.out.2.1.keep ba) (by omega) (by have := H3.out.2.1.2.1; omega) (by simp) (by decide) (by decide) (row_strs w3 strs8 9)).mono ?_
  rintro e w4 ⟨s, rfl, hss, hr4, hu4⟩
  have hC4 : Hid (ColsAt w4 (some ⟨b3, 0, none⟩) M) := ((H3.out.1.upd (Upd.ofBelow ba) hz2).upd hu4 hz2).at
  have hB4 : Hid (Below w.heap.size w w4) := (H3.out.2.2.trans (ba.mono H3.out.2.2.size)).trans (hu4.below (Nat.le_refl _) (by have := H3.out.2.2.size; simp; omega))
  clear hr4 hu4 ba H3
  go_wp2_with fail
  go_ret2
  exact ⟨_, _, M, s, rfl, hC4.out, by omega, hs3, strs8_le s hss, hB4.out⟩

end Go.Proofs.Ytbkojenjobabcaa
