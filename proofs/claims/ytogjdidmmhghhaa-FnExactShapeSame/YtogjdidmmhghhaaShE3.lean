/- The walk of laws.FnExactShapeSame, over the seat's translation. -/
import Derived.Test.YtogjdidmmhghhaaShL
import Derived.Test.YtogjdidmmhghhaaShE2
import Derived.Test.YtogjdidmmhghhaaShS7
namespace Go.Proofs.Ytogjdidmmhghhaa
open Go.RowKit

/-- Two lists of columns lie in W, and W lies over w. -/
def Lie2 (w : World) (a b : Option Addr) (L M : List ACol) (W : World) : Prop := ColsAt W a L ∧ ColsAt W b M ∧ Below w.heap.size w W
theorem Lie2.next {w : World} {a b : Option Addr} {L M : List ACol} {W W' : World} (h : Lie2 w a b L M W) (hb : Below W.heap.size W W') : Lie2 w a b L M W' := ⟨h.1.keep hb, h.2.1.keep hb, h.2.2.trans (hb.mono h.2.2.size)⟩

set_option maxHeartbeats 1000000 in
theorem law_same (a b : Option Addr) (cap cap' : Nat) (L M : List ACol) (w : World) (hL : ColsAt w a L) (hM : ColsAt w b M) (hf : ∀ c ∈ L, c.fit) (hg : ∀ c ∈ M, c.fit) (hm : L.length ≤ maxLen) (hm2 : M.length ≤ maxLen) :
    Calls Try.prog 4 #[.slice a L.length cap, .slice b M.length cap'] w fun e w' => e = .returned (.bool true) ∧ Below w.heap.size w w' := by
  by_cases hl : ((L.length + total L : Nat) : Int) ≤ 1048576
  · have hl' := left_pos hl
    have h20 : L.length ≤ 1048576 := by omega
    by_cases hk : ((M.length + total M : Nat) : Int) ≤ 1048576 - ((L.length + total L : Nat) : Int)
    · have hk' := left_pos hk
      have h21 : M.length ≤ 1048576 := by omega
      go_enter Try.func4, Try.ntmps4
      go_wp2_with fail
      refine (sz_cols _ _ _ _ _ hL hf hm (by omega) (by omega)).mono ?_
      rintro e w1 ⟨rfl, hb⟩
      rw [hl']
      have h1 : Hid (Lie2 w a b L M w1) := ⟨hL.keep hb, hM.keep hb, hb⟩
      have hz0 : (0 : Int) ≤ 1048576 - ((L.length + total L : Nat) : Int) := by omega
      have hz1 : 1048576 - ((L.length + total L : Nat) : Int) ≤ 1048576 := by omega
      have hz2 : (0 : Int) ≤ 1048576 - ((L.length + total L : Nat) : Int) - ((M.length + total M : Nat) : Int) := by omega
      clear hL hM hb hl hl'
      generalize 1048576 - ((L.length + total L : Nat) : Int) = z at *
      go_wp2_with fail
      refine (sz_cols _ _ _ _ _ h1.out.2.1 hg hm2 hz0 hz1).mono ?_
      rintro e w2 ⟨rfl, hb⟩
      rw [hk']
      have h2 : Hid (Lie2 w a b L M w2) := h1.out.next hb
      clear h1 hb hk hk'
      generalize z - ((M.length + total M : Nat) : Int) = z2 at *
      go_wp2_with fail
      refine (to_cols _ _ _ _ h2.out.1 h20).mono ?_
      rintro e w3 ⟨rfl, hN⟩
      have h3 : Hid (Lie2 w a b L M w3) := h2.out.next hN.below
      have hX : Hid (ColsAt w3 (some ⟨w2.heap.size, 0, none⟩) L) := hN.cols
      clear h2 hN
      go_wp2_with fail
      refine (to_cols _ _ _ _ h3.out.2.1 h21).mono ?_
      rintro e w4 ⟨rfl, hN⟩
      have h4 : Hid (Lie2 w a b L M w4) := h3.out.next hN.below
      have hY : Hid (ColsAt w4 (some ⟨w3.heap.size, 0, none⟩) M) := hN.cols
      have hX2 : Hid (ColsAt w4 (some ⟨w2.heap.size, 0, none⟩) L) := hX.out.keep hN.below
      clear h3 hN hX
      go_wp2_with fail
      refine (spec_same _ _ _ _ _ _ _ hX2.out hY.out hm hm2).mono ?_
      rintro e w5 ⟨rfl, hb⟩
      have h5 : Hid (Lie2 w a b L M w5) := h4.out.next hb
      clear h4 hX2 hY hb
      go_wp2_with fail
      refine (to_cols _ _ _ _ h5.out.1 h20).mono ?_
      rintro e w6 ⟨rfl, hN⟩
      have h6 : Hid (Lie2 w a b L M w6) := h5.out.next hN.below
      have hX : Hid (ColsAt w6 (some ⟨w5.heap.size, 0, none⟩) L) := hN.cols
      clear h5 hN
      go_wp2_with fail
      refine (to_cols _ _ _ _ h6.out.2.1 h21).mono ?_
      rintro e w7 ⟨rfl, hN⟩
      have h7 : Hid (Lie2 w a b L M w7) := h6.out.next hN.below
      have hY : Hid (ColsAt w7 (some ⟨w6.heap.size, 0, none⟩) M) := hN.cols
      have hX2 : Hid (ColsAt w7 (some ⟨w5.heap.size, 0, none⟩) L) := hX.out.keep hN.below
      clear h6 hN hX
      go_wp2_with fail
      refine (impl_same _ _ _ _ _ _ _ hX2.out hY.out hm hm2).mono ?_
      rintro e w8 ⟨rfl, hb⟩
      have h8 : Hid (Lie2 w a b L M w8) := h7.out.next hb
      have hX3 : Hid (ColsAt w8 (some ⟨w5.heap.size, 0, none⟩) L) := hX2.out.keep hb
      have hY3 : Hid (ColsAt w8 (some ⟨w6.heap.size, 0, none⟩) M) := hY.out.keep hb
      clear h7 hX2 hY hb
      go_wp2_with fail
      refine (to_cols _ _ _ _ h8.out.1 h20).mono ?_
      rintro e w9 ⟨rfl, hN⟩
      have h9 : Hid (Lie2 w a b L M w9) := h8.out.next hN.below
      have hZ : Hid (ColsAt w9 (some ⟨w8.heap.size, 0, none⟩) L) := hN.cols
      have hX4 : Hid (ColsAt w9 (some ⟨w5.heap.size, 0, none⟩) L) := hX3.out.keep hN.below
      have hY4 : Hid (ColsAt w9 (some ⟨w6.heap.size, 0, none⟩) M) := hY3.out.keep hN.below
      clear h8 hN hX3 hY3
      go_wp2_with fail
      refine (eq_cols _ _ _ _ _ _ hX4.out hZ.out hm).mono ?_
      rintro e w10 ⟨rfl, hb⟩
      have h10 : Hid (Lie2 w a b L M w10) := h9.out.next hb
      have hY5 : Hid (ColsAt w10 (some ⟨w6.heap.size, 0, none⟩) M) := hY4.out.keep hb
      clear h9 hX4 hY4 hZ hb
      go_wp2_with fail
      refine (to_cols _ _ _ _ h10.out.2.1 h21).mono ?_
      rintro e w11 ⟨rfl, hN⟩
      have h11 : Hid (Lie2 w a b L M w11) := h10.out.next hN.below
      have hZ : Hid (ColsAt w11 (some ⟨w10.heap.size, 0, none⟩) M) := hN.cols
      have hY6 : Hid (ColsAt w11 (some ⟨w6.heap.size, 0, none⟩) M) := hY5.out.keep hN.below
      clear h10 hN hY5
      go_wp2_with fail
      refine (eq_cols _ _ _ _ _ _ hY6.out hZ.out hm2).mono ?_
      rintro e w12 ⟨rfl, hb⟩
      have h12 : Hid (Lie2 w a b L M w12) := h11.out.next hb
      clear h11 hY6 hZ hb
      go_wp2_with fail
      go_ret
      exact ⟨rfl, h12.out.2.2⟩
    · have hk' := left_neg hk
      go_enter Try.func4, Try.ntmps4
      go_wp2_with fail
      refine (sz_cols _ _ _ _ _ hL hf hm (by omega) (by omega)).mono ?_
      rintro e w1 ⟨rfl, hb⟩
      rw [hl']
      have h1 : Hid (Lie2 w a b L M w1) := ⟨hL.keep hb, hM.keep hb, hb⟩
      have hz0 : (0 : Int) ≤ 1048576 - ((L.length + total L : Nat) : Int) := by omega
      have hz1 : 1048576 - ((L.length + total L : Nat) : Int) ≤ 1048576 := by omega
      clear hL hM hb hl hl' hk
      generalize 1048576 - ((L.length + total L : Nat) : Int) = z at *
      go_wp2_with fail
      refine (sz_cols _ _ _ _ _ h1.out.2.1 hg hm2 hz0 hz1).mono ?_
      rintro e w2 ⟨rfl, hb⟩
      rw [hk']
      have h2 : Hid (Lie2 w a b L M w2) := h1.out.next hb
      clear h1 hb hk'
      go_wp2_with fail
      go_ret
      exact ⟨rfl, h2.out.2.2⟩
  · have hl' := left_neg hl
    go_enter Try.func4, Try.ntmps4
    go_wp2_with fail
    refine (sz_cols _ _ _ _ _ hL hf hm (by omega) (by omega)).mono ?_
    rintro e w1 ⟨rfl, hb⟩
    rw [hl']
    have h1 : Hid (Below w.heap.size w w1) := hb
    clear hb
    go_wp2_with fail
    go_ret
    exact ⟨rfl, h1.out⟩

end Go.Proofs.Ytogjdidmmhghhaa
