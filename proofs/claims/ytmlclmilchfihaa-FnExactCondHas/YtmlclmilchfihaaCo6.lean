/- The walk of laws.FnExactCondHas, over the seat's translation. -/
import Derived.Test.YtmlclmilchfihaaCo5
import Derived.Test.YtmlclmilchfihaaRwS2
import Derived.Test.YtmlclmilchfihaaRwS3
namespace Go.Proofs.Ytmlclmilchfihaa
open Go.RowKit

/-- A condition that came in lies in its box in W, and columns and values besides, and W lies over w. -/
abbrev HC (w : World) (a c : Option Addr) (L : List ACol) (M : List AVal) (nm : ByteArray) (how k n : Int) (s : ByteArray) (W : World) : Prop := Held5 w w.heap.size nm how k n s W ∧ ColsAt W a L ∧ ValsAt W c M
theorem hc_next {w : World} {a c : Option Addr} {L : List ACol} {M : List AVal} {nm : ByteArray} {how k n : Int} {s : ByteArray} {W W' : World} (h : HC w a c L M nm how k n s W) (hb : Below W.heap.size W W') : HC w a c L M nm how k n s W' := ⟨held5_next h.1 hb, h.2.1.keep hb, h.2.2.keep hb⟩
theorem hc_drew {w : World} {a c : Option Addr} {L : List ACol} {M : List AVal} {nm : ByteArray} {how k n : Int} {s : ByteArray} {W : World} (h : HC w a c L M nm how k n s W) : HC w a c L M nm how k n s W.drew := hc_next h (Below.refl _ _).drew
/-- Besides, these columns and values made anew. -/
abbrev HD (w : World) (a c b d : Option Addr) (L : List ACol) (M : List AVal) (nm : ByteArray) (how k n : Int) (s : ByteArray) (W : World) : Prop := HC w a c L M nm how k n s W ∧ ColsAt W b L ∧ ValsAt W d M
theorem hd_next {w : World} {a c b d : Option Addr} {L : List ACol} {M : List AVal} {nm : ByteArray} {how k n : Int} {s : ByteArray} {W W' : World} (h : HD w a c b d L M nm how k n s W) (hb : Below W.heap.size W W') : HD w a c b d L M nm how k n s W' := ⟨hc_next h.1 hb, h.2.1.keep hb, h.2.2.keep hb⟩

set_option maxRecDepth 100000 in
set_option maxHeartbeats 2000000 in
theorem law_has (a c : Option Addr) (cap cap' : Nat) (L : List ACol) (M : List AVal) (nm : ByteArray) (how k n : Int) (s : ByteArray) (w : World) (hL : ColsAt w a L) (hM : ValsAt w c M) (hf : ∀ c ∈ L, c.fit) (hg : ∀ c ∈ M, c.fit) (hm : L.length ≤ maxLen) (hm2 : M.length ≤ maxLen) (hnm : nm.size ≤ maxLen) (hks : s.size ≤ maxLen) :
    Calls Try.prog 4 #[.slice a L.length cap, .agg #[.string nm, .int .i64 how, .int .i64 k, .int .i64 n, .string s], .slice c M.length cap'] w fun e w' => e = .returned (.bool true) ∧ Below w.heap.size w w' := by
  have hb0 : Below w.heap.size w (w.alloc (.cells #[.string nm, .int .i64 how, .int .i64 k, .int .i64 n, .string s] 26)) := (Below.refl _ _).alloc (Nat.le_refl _) _
  have h0 : Hid (HC w a c L M nm how k n s (w.alloc (.cells #[.string nm, .int .i64 how, .int .i64 k, .int .i64 n, .string s] 26))) := ⟨held5_box _ _ _ _ _ _ _, hL.keep hb0, hM.keep hb0⟩
  clear hL hM hb0
  by_cases hl : ((L.length + total L : Nat) : Int) ≤ 1048576
  rotate_left
  · have hl' := left_neg hl
    go_enter Try.func4, Try.ntmps4
    go_wp2_with fail
    refine (sz_cols _ _ _ _ _ h0.out.2.1 hf hm (by omega) (by omega)).mono ?_
    rintro e w1 ⟨rfl, hb⟩
    rw [hl']
    have h1 : Hid (HC w a c L M nm how k n s w1) := hc_next h0.out hb
    clear hb
    go_wp2_with fail
    go_ret
    exact ⟨rfl, h1.out.1.2.2.2.2.2.2⟩
  have hl' := left_pos hl
  have hp : (0 : Int) ≤ 1048576 - ((L.length + total L : Nat) : Int) := by omega
  have hp2 : 1048576 - ((L.length + total L : Nat) : Int) ≤ 1048576 := by omega
  have h20 : L.length ≤ 1048576 := by omega
  go_enter Try.func4, Try.ntmps4
  go_wp2_with fail
  refine (sz_cols _ _ _ _ _ h0.out.2.1 hf hm (by omega) (by omega)).mono ?_
  rintro e w1 ⟨rfl, hb⟩
  rw [hl']
  clear hl'
  generalize 1048576 - ((L.length + total L : Nat) : Int) = z at hp hp2 ⊢
  have h1 := hc_next h0.out hb
  clear h0 hb hl
  by_cases hz : ((nm.size + s.size : Nat) : Int) ≤ z
  rotate_left
  · have hz' := left_neg hz
    go_wp2_with fail
    refine (sz_cond _ _ _ _ _ _ _ hnm hks hp hp2).mono ?_
    rintro e w2 ⟨rfl, hb⟩
    rw [hz']
    have h2 : Hid (HC w a c L M nm how k n s w2) := hc_next h1 hb
    clear hb h1
    go_wp2_with fail
    go_ret
    exact ⟨rfl, h2.out.1.2.2.2.2.2.2⟩
  have hz' := left_pos hz
  go_wp2_with fail
  refine (sz_cond _ _ _ _ _ _ _ hnm hks hp hp2).mono ?_
  rintro e w2 ⟨rfl, hb⟩
  rw [hz']
  have hz2 : 0 ≤ z - ((nm.size + s.size : Nat) : Int) := by omega
  have hz3 : z - ((nm.size + s.size : Nat) : Int) ≤ 1048576 := by omega
  clear hz' hz
  generalize z - ((nm.size + s.size : Nat) : Int) = z2 at hz2 hz3 ⊢
  have h2 := hc_next h1 hb
  clear hb h1
  by_cases hy : ((M.length + totalV M : Nat) : Int) ≤ z2
  rotate_left
  · have hy' := left_neg hy
    go_wp2_with fail
    refine (sz_vals _ _ _ _ _ h2.2.2 hg hm2 hz2 hz3).mono ?_
    rintro e w3 ⟨rfl, hb⟩
    rw [hy']
    have h3 : Hid (HC w a c L M nm how k n s w3) := hc_next h2 hb
    clear hb h2
    go_wp2_with fail
    go_ret
    exact ⟨rfl, h3.out.1.2.2.2.2.2.2⟩
  have hy' := left_pos hy
  have h21 : M.length ≤ 1048576 := by omega
  go_wp2_with fail
  refine (sz_vals _ _ _ _ _ h2.2.2 hg hm2 hz2 hz3).mono ?_
  rintro e w3 ⟨rfl, hb⟩
  rw [hy']
  have hy2 : 0 ≤ z2 - ((M.length + totalV M : Nat) : Int) := by omega
  clear hy' hy
  generalize z2 - ((M.length + totalV M : Nat) : Int) = z3 at hy2 ⊢
  have h3 := hc_next h2 hb
  clear hb h2
  go_wp2_with fail
  go_region_held3 (fun W => HC w a c L M nm how k n s W) (first | assumption | exact hc_drew (by assumption))
    (first
      | (go_at_call 8; have hS := ‹HC w a c L M nm how k n s _›; refine (to_cols _ _ _ _ hS.2.1 h20).mono ?_; rintro e wA ⟨rfl, hN⟩; have hC := hc_next hS hN.below; have hRA := hN.cols; clear hN hS)
      | (go_at_call 9; have hS := ‹HC w a c L M nm how k n s _›; refine (to_cond _ _ _ _ _ _).mono ?_; rintro e wB ⟨rfl, hq⟩; have hC2 := hc_next hS hq; have hRA2 := hRA.keep hq; clear hq hS)
      | (go_at_call 14; have hS := ‹HC w a c L M nm how k n s _›; refine (to_vals _ _ _ _ hS.2.2 h21).mono ?_; rintro e wV ⟨rfl, hN⟩; have hC4 := hc_next hS hN.1; have hRV := hN.vals; have hRA3 := hRA2.keep hN.1; clear hN hS)
      | (go_at_call 13; have hS := ‹HC w a c L M nm how k n s _›; refine (spec_has _ _ _ _ _ _ _ _ _ _ _ _ hRA3 hRV hf hm hm2 hks).mono ?_; rintro e wC ⟨rfl, hq⟩; have hC3 := hc_next hS hq; clear hq hS hRA3))
  have HX : Hid (HC w a c L M nm how k n s wC) := hC3
  clear hC hC2 hC4 hRA hRA2 hRV h3 hC3
  rename_i hHeld
  clear hHeld
  generalize hs : condHas L nm how k n s M = r at *
  have HS : Hid (condHas L nm how k n s M = r) := hs
  clear hs
  go_wp2_with fail
  refine (to_cols _ _ _ _ HX.out.2.1 h20).mono ?_
  rintro e w4 ⟨rfl, hN⟩
  have h4 : Hid (HC w a c L M nm how k n s w4 ∧ ColsAt w4 (some ⟨wC.heap.size, 0, none⟩) L) := ⟨hc_next HX.out hN.below, hN.cols⟩
  clear HX hN
  generalize wC.heap.size = g at *
  go_wp2_with fail
  refine (to_vals _ _ _ _ h4.out.1.2.2 h21).mono ?_
  rintro e w5 ⟨rfl, hN⟩
  have h5 : HD w a c (some ⟨g, 0, none⟩) (some ⟨w4.heap.size, 0, none⟩) L M nm how k n s w5 := ⟨hc_next h4.out.1 hN.1, h4.out.2.keep hN.1, hN.vals⟩
  clear h4 hN
  generalize w4.heap.size = g2 at *
  go_wp2_with fail
  refine (to_cond _ _ _ _ _ _).mono ?_
  rintro e w6 ⟨rfl, hq⟩
  have h6 := hd_next h5 hq
  clear h5 hq
  go_wp2_with fail
  refine (impl_has _ _ _ _ _ _ _ _ _ _ _ _ h6.2.1 h6.2.2 hf hm hm2 hks hnm).mono ?_
  rintro e w7 ⟨rfl, hq⟩
  rw [HS.out]
  have h7 := hd_next h6 hq
  clear h6 hq HS
  go_wp2_with fail
  refine (to_cols _ _ _ _ h7.1.2.1 h20).mono ?_
  rintro e w8 ⟨rfl, hN⟩
  have h8 : Hid (HD w a c (some ⟨g, 0, none⟩) (some ⟨g2, 0, none⟩) L M nm how k n s w8 ∧ ColsAt w8 (some ⟨w7.heap.size, 0, none⟩) L) := ⟨hd_next h7 hN.below, hN.cols⟩
  clear h7 hN
  go_wp2_with fail
  refine (eq_cols _ _ _ _ _ _ h8.out.1.2.1 h8.out.2 hm).mono ?_
  rintro e w9 ⟨rfl, hq⟩
  have h9 : Hid (HD w a c (some ⟨g, 0, none⟩) (some ⟨g2, 0, none⟩) L M nm how k n s w9) := hd_next h8.out.1 hq
  clear h8 hq
  go_wp2_with fail
  refine (to_vals _ _ _ _ h9.out.1.2.2 h21).mono ?_
  rintro e wD ⟨rfl, hN⟩
  have hD : Hid (HD w a c (some ⟨g, 0, none⟩) (some ⟨g2, 0, none⟩) L M nm how k n s wD ∧ ValsAt wD (some ⟨w9.heap.size, 0, none⟩) M) := ⟨hd_next h9.out hN.1, hN.vals⟩
  clear h9 hN
  go_wp2_with fail
  refine (eq_vals _ _ _ _ _ _ hD.out.1.2.2 hD.out.2 hm2).mono ?_
  rintro e wE ⟨rfl, hq⟩
  have hE : Hid (Below w.heap.size w wE) := (hd_next hD.out.1 hq).1.1.2.2.2.2.2.2
  clear hD hq
  go_wp2_with fail
  go_ret
  exact ⟨rfl, hE.out⟩

end Go.Proofs.Ytmlclmilchfihaa
