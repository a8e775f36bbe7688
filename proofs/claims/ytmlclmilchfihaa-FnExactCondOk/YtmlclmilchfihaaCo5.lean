/- The contracts of laws.toCond and laws.szCond and the walk of laws.FnExactCondOk, over the seat's translation. -/
import Derived.Test.YtmlclmilchfihaaCo4
import Derived.Test.YtmlclmilchfihaaShL
import Derived.Test.YtmlclmilchfihaaShS7
namespace Go.Proofs.Ytmlclmilchfihaa
open Go.RowKit

/-- The box at B holds a condition in W, and may be written. -/
abbrev Own5 (B : Nat) (nm : ByteArray) (how k n : Int) (s : ByteArray) (W : World) : Prop :=
  W.cell? ⟨B, 0, none⟩ = some (.string nm) ∧ W.cell? ⟨B, 1, none⟩ = some (.int .i64 how) ∧ W.cell? ⟨B, 2, none⟩ = some (.int .i64 k) ∧ W.cell? ⟨B, 3, none⟩ = some (.int .i64 n) ∧ W.cell? ⟨B, 4, none⟩ = some (.string s) ∧
    W.frozen? ⟨B, 0, none⟩ = false ∧ W.frozen? ⟨B, 1, none⟩ = false ∧ W.frozen? ⟨B, 2, none⟩ = false ∧ W.frozen? ⟨B, 3, none⟩ = false ∧ W.frozen? ⟨B, 4, none⟩ = false
theorem own5_next {B : Nat} {nm : ByteArray} {how k n : Int} {s : ByteArray} {W W' : World} (h : Own5 B nm how k n s W) (hB : B < W.heap.size) (hb : Below W.heap.size W W') : Own5 B nm how k n s W' := by
  have hc := fun o => (bcell hb).1 B o hB
  have hf := fun o => (bcell hb).2 B o hB
  unfold Own5
  simp only [hc, hf]
  exact h
theorem own5_box (w : World) (nm : ByteArray) (how k n : Int) (s : ByteArray) (t : TypeId) :
    Own5 w.heap.size nm how k n s (w.alloc (.cells #[.string nm, .int .i64 how, .int .i64 k, .int .i64 n, .string s] t)) := by
  refine ⟨?_, ?_, ?_, ?_, ?_, ?_, ?_, ?_, ?_, ?_⟩
  all_goals go_simp

set_option maxHeartbeats 1000000 in
theorem to_cond (nm : ByteArray) (how k n : Int) (s : ByteArray) (w : World) :
    Calls Try.prog 9 #[.agg #[.string nm, .int .i64 how, .int .i64 k, .int .i64 n, .string s]] w fun e w' => e = .returned (.agg #[.string nm, .int .i64 how, .int .i64 k, .int .i64 n, .string s]) ∧ Below w.heap.size w w' := by
  go_enter Try.func9, Try.ntmps9
  go_wp2_with fail
  refine (to_val _ _ _ _).mono ?_
  rintro e w' ⟨rfl, hb⟩
  have hO := own5_next (own5_box _ _ _ _ _ _ _) (by simp) hb
  have hR := own5_next (own5_next (own5_box _ _ _ _ _ _ _) (by simp) ((Below.refl _ _).alloc (Nat.le_refl _) _)) (by simp) hb
  have hw : Hid (Below w.heap.size w w') := ((((Below.refl w.heap.size w).alloc (Nat.le_refl _) _).alloc (by simp) _).alloc (by simp; omega) _).trans (hb.mono (by simp; omega))
  rw [size_alloc, size_alloc] at hO
  rw [size_alloc] at hR
  clear hb
  go_wp2_with fail
  refine bodyPost_ret (v := .agg #[.string nm, .int .i64 how, .int .i64 k, .int .i64 n, .string s]) (by simp [results, Try.results9, go_sem, hR]) rfl ⟨rfl, ?_⟩
  repeat' (first | refine Below.setCell ?_ (by simp [Nat.add_assoc]) _ | exact hw.out)

set_option maxHeartbeats 1000000 in
theorem sz_cond (nm : ByteArray) (how k n : Int) (s : ByteArray) (l : Int) (w : World) (hnm : nm.size ≤ maxLen) (hs : s.size ≤ maxLen) (h0 : 0 ≤ l) (h1 : l ≤ 1048576) :
    Calls Try.prog 6 #[.agg #[.string nm, .int .i64 how, .int .i64 k, .int .i64 n, .string s], .int .i64 l] w fun e w' => e = .returned (.int .i64 (left l (nm.size + s.size))) ∧ Below w.heap.size w w' := by
  have hz : nm.size ≤ 9223372036854775807 := by unfold maxLen at hnm; omega
  by_cases ha : (nm.size : Int) ≤ l
  · by_cases hb : (s.size : Int) ≤ l - nm.size
    · rw [left_pos (by omega)]
      go_enter Try.func6, Try.ntmps6
      go_wp2_with fail
      refine (sz_fits _ _ _ _ _ hs (by omega) (by omega) hb).mono ?_
      rintro e w' ⟨rfl, hq⟩
      go_wp2_with fail
      go_ret
      refine ⟨?_, ((Below.refl _ _).alloc (Nat.le_refl _) _).trans (hq.mono (by simp))⟩
      rw [show l - ((nm.size + s.size : Nat) : Int) = l - nm.size - s.size by omega]
      rfl
    · rw [left_neg (by omega)]
      go_enter Try.func6, Try.ntmps6
      go_wp2_with fail
      refine (sz_big _ _ _ _ _ hs (by omega) (by omega) (by omega)).mono ?_
      rintro e w' ⟨rfl, hq⟩
      go_wp2_with fail
      go_ret
      exact ⟨rfl, ((Below.refl _ _).alloc (Nat.le_refl _) _).trans (hq.mono (by simp))⟩
  · rw [left_neg (by omega)]
    go_enter Try.func6, Try.ntmps6
    go_wp2_with fail
    go_ret
    exact ⟨rfl, (Below.refl _ _).alloc (Nat.le_refl _) _⟩

/-- A condition that came in lies in its box in W, and columns besides, and W lies over w. -/
abbrev CC (w : World) (a : Option Addr) (L : List ACol) (nm : ByteArray) (how k n : Int) (s : ByteArray) (W : World) : Prop := Held5 w w.heap.size nm how k n s W ∧ ColsAt W a L
theorem cc_next {w : World} {a : Option Addr} {L : List ACol} {nm : ByteArray} {how k n : Int} {s : ByteArray} {W W' : World} (h : CC w a L nm how k n s W) (hb : Below W.heap.size W W') : CC w a L nm how k n s W' := ⟨held5_next h.1 hb, h.2.keep hb⟩
theorem cc_drew {w : World} {a : Option Addr} {L : List ACol} {nm : ByteArray} {how k n : Int} {s : ByteArray} {W : World} (h : CC w a L nm how k n s W) : CC w a L nm how k n s W.drew := cc_next h (Below.refl _ _).drew
/-- Besides, these columns made anew. -/
abbrev CD (w : World) (a b : Option Addr) (L : List ACol) (nm : ByteArray) (how k n : Int) (s : ByteArray) (W : World) : Prop := CC w a L nm how k n s W ∧ ColsAt W b L
theorem cd_next {w : World} {a b : Option Addr} {L : List ACol} {nm : ByteArray} {how k n : Int} {s : ByteArray} {W W' : World} (h : CD w a b L nm how k n s W) (hb : Below W.heap.size W W') : CD w a b L nm how k n s W' := ⟨cc_next h.1 hb, h.2.keep hb⟩
theorem cd_drew {w : World} {a b : Option Addr} {L : List ACol} {nm : ByteArray} {how k n : Int} {s : ByteArray} {W : World} (h : CD w a b L nm how k n s W) : CD w a b L nm how k n s W.drew := cd_next h (Below.refl _ _).drew

set_option maxRecDepth 100000 in
set_option maxHeartbeats 1000000 in
theorem law_cond (a : Option Addr) (cap : Nat) (L : List ACol) (nm : ByteArray) (how k n : Int) (s : ByteArray) (w : World) (hL : ColsAt w a L) (hf : ∀ c ∈ L, c.fit) (hm : L.length ≤ maxLen) (hnm : nm.size ≤ maxLen) (hks : s.size ≤ maxLen) :
    Calls Try.prog 3 #[.slice a L.length cap, .agg #[.string nm, .int .i64 how, .int .i64 k, .int .i64 n, .string s]] w fun e w' => e = .returned (.bool true) ∧ Below w.heap.size w w' := by
  have hb0 : Hid (Below w.heap.size w (w.alloc (.cells #[.string nm, .int .i64 how, .int .i64 k, .int .i64 n, .string s] 26))) := (Below.refl _ _).alloc (Nat.le_refl _) _
  have hH0 : Hid (Held5 w w.heap.size nm how k n s (w.alloc (.cells #[.string nm, .int .i64 how, .int .i64 k, .int .i64 n, .string s] 26))) := held5_box _ _ _ _ _ _ _
  have hL0 : Hid (ColsAt (w.alloc (.cells #[.string nm, .int .i64 how, .int .i64 k, .int .i64 n, .string s] 26)) a L) := hL.keep hb0.out
  clear hL hb0
  by_cases hl : ((L.length + total L : Nat) : Int) ≤ 1048576
  rotate_left
  · have hl' := left_neg hl
    go_enter Try.func3, Try.ntmps3
    go_wp2_with fail
    refine (sz_cols _ _ _ _ _ hL0.out hf hm (by omega) (by omega)).mono ?_
    rintro e w1 ⟨rfl, hb⟩
    rw [hl']
    have h1 : Hid (Held5 w w.heap.size nm how k n s w1) := held5_next hH0.out hb
    clear hb
    go_wp2_with fail
    go_ret
    exact ⟨rfl, h1.out.2.2.2.2.2.2⟩
  have hl' := left_pos hl
  have hp : (0 : Int) ≤ 1048576 - ((L.length + total L : Nat) : Int) := by omega
  have hp2 : 1048576 - ((L.length + total L : Nat) : Int) ≤ 1048576 := by omega
  have h20 : L.length ≤ 1048576 := by omega
  go_enter Try.func3, Try.ntmps3
  go_wp2_with fail
  refine (sz_cols _ _ _ _ _ hL0.out hf hm (by omega) (by omega)).mono ?_
  rintro e w1 ⟨rfl, hb⟩
  rw [hl']
  clear hl'
  generalize 1048576 - ((L.length + total L : Nat) : Int) = z at hp hp2 ⊢
  have h1 := held5_next hH0.out hb
  have hL1 : Hid (ColsAt w1 a L) := hL0.out.keep hb
  clear hL0 hb hl hH0
  by_cases hz : ((nm.size + s.size : Nat) : Int) ≤ z
  rotate_left
  · have hz' := left_neg hz
    go_wp2_with fail
    refine (sz_cond _ _ _ _ _ _ _ hnm hks hp hp2).mono ?_
    rintro e w2 ⟨rfl, hb⟩
    rw [hz']
    have h2 : Hid (Held5 w w.heap.size nm how k n s w2) := held5_next h1 hb
    clear hb h1
    go_wp2_with fail
    go_ret
    exact ⟨rfl, h2.out.2.2.2.2.2.2⟩
  have hz' := left_pos hz
  go_wp2_with fail
  refine (sz_cond _ _ _ _ _ _ _ hnm hks hp hp2).mono ?_
  rintro e w2 ⟨rfl, hb⟩
  rw [hz']
  have hz2 : 0 ≤ z - ((nm.size + s.size : Nat) : Int) := by omega
  clear hz' hz
  generalize z - ((nm.size + s.size : Nat) : Int) = z2 at hz2 ⊢
  have h2 : CC w a L nm how k n s w2 := ⟨held5_next h1 hb, hL1.out.keep hb⟩
  clear hL1 hb h1
  go_wp2_with fail
  go_region_held3 (fun W => CC w a L nm how k n s W) (first | assumption | exact cc_drew (by assumption))
    (first
      | (go_at_call 8; have hS := ‹CC w a L nm how k n s _›; refine (to_cols _ _ _ _ hS.2 h20).mono ?_; rintro e wA ⟨rfl, hN⟩; have hC := cc_next hS hN.below; have hRA := hN.cols; clear hN hS)
      | (go_at_call 9; have hS := ‹CC w a L nm how k n s _›; refine (to_cond _ _ _ _ _ _).mono ?_; rintro e wB ⟨rfl, hq⟩; have hC2 := cc_next hS hq; have hRA2 := hRA.keep hq; clear hq hS)
      | (go_at_call 7; have hS := ‹CC w a L nm how k n s _›; refine (spec_cond _ _ _ _ _ _ _ _ _ hRA2 hf hm hks).mono ?_; rintro e wC ⟨rfl, hq⟩; have hC3 := cc_next hS hq; clear hq hS hRA2))
  have HC : Hid (CC w a L nm how k n s wC) := hC3
  clear hC hC2 hRA h2 hC3
  rename_i hHeld
  clear hHeld
  generalize hs : condOk L nm how k n s = r at *
  have HS : Hid (condOk L nm how k n s = r) := hs
  clear hs
  go_wp2_with fail
  refine (to_cols _ _ _ _ HC.out.2 h20).mono ?_
  rintro e w4 ⟨rfl, hN⟩
  have h4 : CD w a (some ⟨wC.heap.size, 0, none⟩) L nm how k n s w4 := ⟨cc_next HC.out hN.below, hN.cols⟩
  clear HC hN
  generalize wC.heap.size = g at *
  go_wp2_with fail
  refine (to_cond _ _ _ _ _ _).mono ?_
  rintro e w5 ⟨rfl, hq⟩
  have h5 := cd_next h4 hq
  clear h4 hq
  go_wp2_with fail
  refine (impl_cond _ _ _ _ _ _ _ _ _ h5.2 hf hm hks hnm).mono ?_
  rintro e w6 ⟨rfl, hq⟩
  rw [HS.out]
  have h6 := cd_next h5 hq
  clear h5 hq HS
  go_wp2_with fail
  refine (to_cols _ _ _ _ h6.1.2 h20).mono ?_
  rintro e w7 ⟨rfl, hN⟩
  have h7 : Hid (CD w a (some ⟨g, 0, none⟩) L nm how k n s w7 ∧ ColsAt w7 (some ⟨w6.heap.size, 0, none⟩) L) := ⟨cd_next h6 hN.below, hN.cols⟩
  clear h6 hN
  go_wp2_with fail
  refine (eq_cols _ _ _ _ _ _ h7.out.1.2 h7.out.2 hm).mono ?_
  rintro e w8 ⟨rfl, hq⟩
  have h8 : Hid (Below w.heap.size w w8) := (cd_next h7.out.1 hq).1.1.2.2.2.2.2.2
  clear h7 hq
  go_wp2_with fail
  go_ret
  exact ⟨rfl, h8.out⟩

end Go.Proofs.Ytmlclmilchfihaa
