/- The walk of laws.FnExactShapeAt, over the seat's translation. -/
import Derived.Test.YtogjdidmmhghhaaShS9
import Derived.Test.YtogjdidmmhghhaaShL
import Derived.Test.YtogjdidmmhghhaaShS7
namespace Go.Proofs.Ytogjdidmmhghhaa
open Go.RowKit

set_option maxRecDepth 100000 in
set_option maxHeartbeats 1000000 in
theorem law_at (a : Option Addr) (cap : Nat) (L : List ACol) (nm : ByteArray) (w : World) (hL : ColsAt w a L) (hf : ∀ c ∈ L, c.fit) (hm : L.length ≤ maxLen) (hnm : nm.size ≤ maxLen) :
    Calls Try.prog 3 #[.slice a L.length cap, .string nm] w fun e w' => e = .returned (.bool true) ∧ Below w.heap.size w w' := by
  have hnm' : nm.size ≤ 9223372036854775807 := hnm
  by_cases hn : (1048576 : Int) < nm.size
  · go_enter Try.func3, Try.ntmps3
    go_wp2_with fail
    go_ret
    exact ⟨rfl, Below.refl _ _⟩
  by_cases hl : ((L.length + total L : Nat) : Int) ≤ 1048576
  · have hl' := left_pos hl
    have hp : (0 : Int) ≤ 1048576 - ((L.length + total L : Nat) : Int) := by omega
    have h20 : L.length ≤ 1048576 := by omega
    go_enter Try.func3, Try.ntmps3
    go_wp2_with fail
    refine (sz_cols _ _ _ _ _ hL hf hm (by omega) (by omega)).mono ?_
    rintro e w1 ⟨rfl, hb⟩
    rw [hl']
    clear hl'
    generalize 1048576 - ((L.length + total L : Nat) : Int) = z at hp ⊢
    have h1 : Hid (Lies w a L w1) := ⟨hL.keep hb, hb⟩
    clear hL hb hl
    go_wp2_with fail
    refine (to_cols _ _ _ _ h1.out.1 h20).mono ?_
    rintro e w2 ⟨rfl, hM⟩
    have h2 : Hid (Lies w a L w2) := h1.out.next hM.below
    have hX : Hid (ColsAt w2 (some ⟨w1.heap.size, 0, none⟩) L) := hM.cols
    clear h1 hM
    go_wp2_with fail
    refine (spec_at _ _ _ _ _ hX.out hf hm).mono ?_
    rintro e w3 ⟨rfl, hb⟩
    have h3 : Hid (Lies w a L w3) := h2.out.next hb
    clear h2 hX hb
    go_wp2_with fail
    refine (to_cols _ _ _ _ h3.out.1 h20).mono ?_
    rintro e w4 ⟨rfl, hM⟩
    have h4 : Hid (Lies w a L w4) := h3.out.next hM.below
    have hX : Hid (ColsAt w4 (some ⟨w3.heap.size, 0, none⟩) L) := hM.cols
    clear h3 hM
    go_wp2_with fail
    refine (impl_at _ _ _ _ _ hX.out hf hm hnm).mono ?_
    rintro e w5 ⟨rfl, hb⟩
    have h5 : Hid (Lies w a L w5) := h4.out.next hb
    have hY : Hid (ColsAt w5 (some ⟨w3.heap.size, 0, none⟩) L) := hX.out.keep hb
    clear h4 hX hb
    go_wp2_with fail
    refine (to_cols _ _ _ _ h5.out.1 h20).mono ?_
    rintro e w6 ⟨rfl, hM⟩
    have h6 : Hid (Lies w a L w6) := h5.out.next hM.below
    have hX : Hid (ColsAt w6 (some ⟨w5.heap.size, 0, none⟩) L) := hM.cols
    have hZ : Hid (ColsAt w6 (some ⟨w3.heap.size, 0, none⟩) L) := hY.out.keep hM.below
    clear h5 hM hY
    go_wp2_with fail
    refine (eq_cols _ _ _ _ _ _ hZ.out hX.out hm).mono ?_
    rintro e w7 ⟨rfl, hb⟩
    have h7 : Hid (Lies w a L w7) := h6.out.next hb
    clear hb
    go_wp2_with fail
    go_ret
    exact ⟨rfl, h7.out.2⟩
  · have hl' := left_neg hl
    go_enter Try.func3, Try.ntmps3
    go_wp2_with fail
    refine (sz_cols _ _ _ _ _ hL hf hm (by omega) (by omega)).mono ?_
    rintro e w1 ⟨rfl, hb⟩
    rw [hl']
    have h1 : Hid (Below w.heap.size w w1) := hb
    clear hb
    go_wp2_with fail
    go_ret
    exact ⟨rfl, h1.out⟩

end Go.Proofs.Ytogjdidmmhghhaa
