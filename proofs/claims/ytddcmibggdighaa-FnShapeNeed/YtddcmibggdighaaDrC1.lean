/- The draws of a column and of a list of names, over the seat's translation. -/
import Derived.Test.YtddcmibggdighaaDraw4
import Derived.Test.YtddcmibggdighaaColB
namespace Go.Proofs.Ytddcmibggdighaa
open Go.RowKit

def strs6 : List ByteArray := [⟨#[97]⟩, ⟨#[98]⟩, ⟨#[99]⟩, ⟨#[100]⟩, ⟨#[101]⟩, ⟨#[97, 98]⟩]
theorem strs6_le (s : ByteArray) (h : s ∈ strs6) : s.size ≤ 5 ∧ s.data.toList ≠ [110, 101, 119] := by
  simp [strs6] at h
  rcases h with rfl | rfl | rfl | rfl | rfl | rfl <;> decide

theorem l2_names (w : World) : Calls Try.prog 22 #[] w fun e w' => e = .returned (.slice (some ⟨w.heap.size, 0, none⟩) strs6.length strs6.length) ∧ w' = w.alloc (.cells (strs6.map Value.string).toArray 9) := by
  go_enter Try.func22, Try.ntmps22
  go_wp2
  go_ret
  exact ⟨rfl, rfl⟩

theorem own7_upd {g B : Nat} {nm : ByteArray} {kd : Int} {nd oc : Bool} {k n : Int} {s : ByteArray} {W W' : World} (h : Own7 B nm kd nd oc k n s W) (hB : B < W.heap.size) (hu : Upd g W W') (hne : B ≠ g) : Own7 B nm kd nd oc k n s W' := by
  have hc := fun o => (ucell hu).1 B o hB hne
  have hf := fun o => (ucell hu).2 B o hB hne
  unfold Own7
  simp only [hc, hf]
  exact h

theorem Upd.set7 {b : Nat} (W : World) (x0 x1 x2 x3 x4 x5 x6 : Value) : Upd b W (((((((W.setCell ⟨b, 0, none⟩ x0).setCell ⟨b, 1, none⟩ x1).setCell ⟨b, 2, none⟩ x2).setCell ⟨b, 3, none⟩ x3).setCell ⟨b, 4, none⟩ x4).setCell ⟨b, 5, none⟩ x5).setCell ⟨b, 6, none⟩ x6) :=
  ((((((Upd.set W 0 x0).trans (Upd.set _ 1 x1)).trans (Upd.set _ 2 x2)).trans (Upd.set _ 3 x3)).trans (Upd.set _ 4 x4)).trans (Upd.set _ 5 x5)).trans (Upd.set _ 6 x6)
theorem Upd.set456 {b : Nat} (W : World) (x4 x5 x6 : Value) : Upd b W (((W.setCell ⟨b, 4, none⟩ x4).setCell ⟨b, 5, none⟩ x5).setCell ⟨b, 6, none⟩ x6) :=
  ((Upd.set W 4 x4).trans (Upd.set _ 5 x5)).trans (Upd.set _ 6 x6)

set_option maxRecDepth 100000 in
set_option maxHeartbeats 2000000 in
theorem l2_col (B g p : Nat) (nm : ByteArray) (w : World) (hr : Rd B g p w) (hp : p < 800000) :
    Calls Try.prog 20 #[.pointer (some ⟨g, 0, none⟩), .string nm] w fun e w' => ∃ (kd : Int) (nd oc : Bool) (k n : Int) (s : ByteArray) (q : Nat), e = .returned (.agg #[.string nm, .int .i64 kd, .bool nd, .bool oc, .int .i64 k, .int .i64 n, .string s]) ∧ s.size ≤ 5 ∧ q ≤ p + 5 ∧ Rd B g q w' ∧ Upd g w w' := by
  have hg : g < w.heap.size := hr.2.1
  have hne : w.heap.size ≠ g := by omega
  have hBw : B ≤ w.heap.size := by have := hr.1; omega
  have b0 := alloc_below w (.cells #[.string ⟨#[]⟩, .int .i64 0, .bool false, .bool false, .int .i64 0, .int .i64 0, .string ⟨#[]⟩] 31)
  have hO := own7_box w ⟨#[]⟩ 0 false false 0 0 ⟨#[]⟩ 31
  have Hr : Hid (Rd B g p (w.alloc (.cells #[.string ⟨#[]⟩, .int .i64 0, .bool false, .bool false, .int .i64 0, .int .i64 0, .string ⟨#[]⟩] 31))) := hr.keep b0
  have HO : Hid (Own7 w.heap.size ⟨#[]⟩ 0 false false 0 0 ⟨#[]⟩ (w.alloc (.cells #[.string ⟨#[]⟩, .int .i64 0, .bool false, .bool false, .int .i64 0, .int .i64 0, .string ⟨#[]⟩] 31))) := hO
  have Hu : Hid (Upd g w (w.alloc (.cells #[.string ⟨#[]⟩, .int .i64 0, .bool false, .bool false, .int .i64 0, .int .i64 0, .string ⟨#[]⟩] 31))) := Upd.ofBelow b0
  clear hr hO b0
  go_enter Try.func20, Try.ntmps20
  go_wp2_with fail
  refine (pick_any B g p _ _ Hr.out (by omega) (by omega) (by omega)).mono ?_
  rintro e w1 ⟨v1, rfl, hv1, hr1, hu1⟩
  have Hr1 : Hid (Rd B g (p + 1) w1) := hr1
  have HO1 : Hid (Own7 w.heap.size ⟨#[]⟩ 0 false false 0 0 ⟨#[]⟩ w1) := own7_upd HO.out (by simp) hu1 hne
  have Hu1 : Hid (Upd g w w1) := Hu.out.trans hu1
  have hz1 : w.heap.size < w1.heap.size := by have := hu1.size; simp at this; omega
  clear hr1 hu1 Hr HO Hu
  go_wp2_with fail
  refine (pick_any B g (p + 1) _ _ Hr1.out (by omega) (by omega) (by omega)).mono ?_
  rintro e w2 ⟨v2, rfl, hv2, hr2, hu2⟩
  have Hr2 : Hid (Rd B g (p + 1 + 1) w2) := hr2
  have HO2 : Hid (Own7 w.heap.size ⟨#[]⟩ 0 false false 0 0 ⟨#[]⟩ w2) := own7_upd HO1.out hz1 hu2 hne
  have Hu2 : Hid (Upd g w w2) := Hu1.out.trans hu2
  have hz2 : w.heap.size < w2.heap.size := by have := hu2.size; omega
  clear hr2 hu2 Hr1 HO1 Hu1
  go_wp2_with fail
  have b2 := alloc_below w2 (.cells #[.string nm, .int .i64 (1 + v1), .bool ((v2 : Int) == 0), .bool false, .int .i64 0, .int .i64 0, .string ⟨#[]⟩] 31)
  refine (pick_any B g (p + 1 + 1) _ _ (Hr2.out.keep b2) (by omega) (by omega) (by omega)).mono ?_
  rintro e w3 ⟨v3, rfl, hv3, hr3, hu3⟩
  have hg2 : w2.heap.size ≠ g := by omega
  have hC := own7_upd (own7_box w2 nm (1 + v1) ((v2 : Int) == 0) false 0 0 ⟨#[]⟩ 31) (by simp) hu3 hg2
  have hO := own7_upd (own7_next HO2.out hz2 b2) (by simp; omega) hu3 hne
  have Hr3 : Hid (Rd B g (p + 1 + 1 + 1) w3) := hr3
  have Hu3 : Hid (Upd g w w3) := (Hu2.out.trans (Upd.ofBelow b2)).trans hu3
  have hz3 : w2.heap.size < w3.heap.size := by have := hu3.size; simp at this; omega
  have hbb : w.heap.size ≠ w2.heap.size := by omega
  have hbb' : w2.heap.size ≠ w.heap.size := by omega
  generalize ((v2 : Int) == 0) = nd at *
  clear hr3 hu3 Hr2 HO2 Hu2 b2 hv2
  cases hv0 : ((v3 : Int) == 0)
  · have HO : Hid (Own7 w.heap.size ⟨#[]⟩ 0 false false 0 0 ⟨#[]⟩ w3) := hO
    have HC : Hid (Own7 w2.heap.size nm (1 + v1) nd false 0 0 ⟨#[]⟩ w3) := hC
    go_wp2_with fail
    refine (l1_some B g (p + 1 + 1 + 1) _ _ Hr3.out (by omega)).mono ?_
    rintro e w4 ⟨k, n, s, q, rfl, hs, hq, hr4, hu4⟩
    have hC4 := own7_upd HC.out hz3 hu4 hg2
    have hO4 := own7_upd HO.out (by omega) hu4 hne
    have Hr4 : Hid (Rd B g q w4) := hr4
    have Hu4 : Hid (Upd g w w4) := Hu3.out.trans hu4
    have hz4 : w2.heap.size < w4.heap.size := by have := hu4.size; omega
    clear hr4 hu4 Hr3 Hu3 hO hC HO HC
    go_wp2_with fail
    exact bodyPost_ret (v := .agg #[.string nm, .int .i64 (1 + v1), .bool nd, .bool false, .int .i64 k, .int .i64 n, .string s]) (by simp [results, Try.results20, go_sem, hO4]) rfl ⟨_, _, _, _, _, _, q, rfl, hs, by omega, (Hr4.out.other (Upd.set456 _ _ _ _) hg2 (by omega)).other (Upd.set7 _ _ _ _ _ _ _ _) hne hBw, (Hu4.out.other (Upd.set456 _ _ _ _) (by omega)).other (Upd.set7 _ _ _ _ _ _ _ _) (Nat.le_refl _)⟩
  · go_wp2_with fail
    exact bodyPost_ret (v := .agg #[.string nm, .int .i64 (1 + v1), .bool nd, .bool true, .int .i64 0, .int .i64 0, .string ⟨#[]⟩]) (by simp [results, Try.results20, go_sem, hO]) rfl ⟨_, _, _, _, _, _, p + 1 + 1 + 1, rfl, by decide, by omega, (Hr3.out.other (Upd.set _ 3 _) hg2 (by omega)).other (Upd.set7 _ _ _ _ _ _ _ _) hne hBw, (Hu3.out.other (Upd.set _ 3 _) (by omega)).other (Upd.set7 _ _ _ _ _ _ _ _) (Nat.le_refl _)⟩

end Go.Proofs.Ytddcmibggdighaa
