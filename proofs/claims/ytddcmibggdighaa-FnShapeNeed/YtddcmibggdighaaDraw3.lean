/- The contracts of the draws of a value, over the seat's translation. -/
import Derived.Test.YtddcmibggdighaaDraw2
namespace Go.Proofs.Ytddcmibggdighaa
open Go.RowKit

def ints8 : List Int := [0, 1, 2, 3, -1, 7, 999, -999]
def strs9 : List ByteArray := [⟨#[]⟩, ⟨#[97]⟩, ⟨#[98]⟩, ⟨#[97, 98]⟩, ⟨#[49, 50]⟩, ⟨#[45, 53]⟩, ⟨#[48, 48, 55]⟩, ⟨#[122, 122, 122, 122]⟩, ⟨#[51]⟩]
theorem strs9_le (s : ByteArray) (h : s ∈ strs9) : s.size ≤ 5 := by
  have : ∀ x ∈ strs9, x.size ≤ 5 := by decide
  exact this s h
theorem row_ints (w : World) (zs : List Int) (t : TypeId) : ∀ i, i < zs.length → (w.alloc (.cells (zs.map (Value.int .i64)).toArray t)).cell? ⟨w.heap.size, i, none⟩ = some (.int .i64 (zs.getD i 0)) := by
  intro i hi
  rw [World.cell?_alloc_mark w _ t (0, 0) i]
  simp [List.getD, hi]
theorem row_strs (w : World) (ss : List ByteArray) (t : TypeId) : ∀ i, i < ss.length → (w.alloc (.cells (ss.map Value.string).toArray t)).cell? ⟨w.heap.size, i, none⟩ = some (.string (ss.getD i ByteArray.empty)) := by
  intro i hi
  rw [World.cell?_alloc_mark w _ t (0, 0) i]
  simp [List.getD, hi]

set_option maxHeartbeats 1000000 in
theorem l1_some (B g p : Nat) (kind : Int) (w : World) (hr : Rd B g p w) (hp : p < 900000) :
    Calls Try.prog 24 #[.pointer (some ⟨g, 0, none⟩), .int .i64 kind] w fun e w' => ∃ (k n : Int) (s : ByteArray) (q : Nat), e = .returned (.agg #[.int .i64 k, .int .i64 n, .string s]) ∧ s.size ≤ 5 ∧ q ≤ p + 2 ∧ Rd B g q w' ∧ Upd g w w' := by
  have hg : g < w.heap.size := hr.2.1
  have hne : w.heap.size ≠ g := by omega
  have hne1 : w.heap.size + 1 ≠ g := by omega
  have hBw : B ≤ w.heap.size := by have := hr.1; omega
  have Hr : Hid (Rd B g p (w.alloc (.cells #[.int .i64 0, .int .i64 0, .string ⟨#[]⟩] 29))) := hr.keep ((Below.refl _ _).alloc (Nat.le_refl _) _)
  have Hu0 : Hid (Upd g w (w.alloc (.cells #[.int .i64 0, .int .i64 0, .string ⟨#[]⟩] 29))) := Upd.ofBelow ((Below.refl _ _).alloc (Nat.le_refl _) _)
  clear hr
  go_enter Try.func24, Try.ntmps24
  go_wp2_with fail
  refine (pick_any B g p _ _ Hr.out (by omega) (by omega) (by omega)).mono ?_
  rintro e w1 ⟨v, rfl, hv, hr1, hu⟩
  have hz : w.heap.size < w1.heap.size := by have := hu.size; simp at this; omega
  have hz' : w.heap.size < w1.heap.size + 1 := by omega
  have HX : Hid (Box3 w.heap.size (.int .i64 0) (.int .i64 0) (.string ⟨#[]⟩) w1) := (box3 w _ _ _ 29).upd hu hne
  obtain ⟨_, c0, c1, c2, f0, f1, f2⟩ := HX.out
  have Hr1 : Hid (Rd B g (p + 1) w1) := hr1
  have Hu : Hid (Upd g w w1) := Hu0.out.trans hu
  clear hr1 hu
  cases hv0 : ((v : Int) == 0)
  · cases hk0 : (kind == 0)
    · cases hk1 : (kind == 1)
      · go_wp2_with fail
        refine (of_of_any B g (p + 1) w1.heap.size strs9 _ (Hr1.out.keep ((Below.refl _ _).alloc (Nat.le_refl _) _)) (by omega) (by omega) (by simp) (by decide) (by decide) (row_strs w1 strs9 9)).mono ?_
        rintro e w2 ⟨s, rfl, hs, hr2, hu2⟩
        have hzs : s.size ≤ 5 := strs9_le s hs
        obtain ⟨_, d0, d1, d2, e0, e1, e2⟩ := (HX.out.keep (alloc_below _ _)).upd hu2 hne
        clear c0 c1 c2 f0 f1 f2
        have Hu2 : Hid (Upd g w w2) := (Hu.out.trans (Upd.ofBelow ((Below.refl _ _).alloc (Nat.le_refl _) _))).trans hu2
        have Hr2 : Hid (Rd B g (p + 1 + 1) w2) := hr2
        clear hu2 hr2 hs
        go_wp2_with fail
        exact bodyPost_ret (v := .agg #[.int .i64 kind, .int .i64 0, .string s]) (by simp [results, Try.results24, go_sem, d0, d1, d2]) rfl ⟨_, _, _, p + 1 + 1, rfl, hzs, by omega, Hr2.out.other (Upd.set3 _ _ _ _) hne hBw, Hu2.out.other (Upd.set3 _ _ _ _) (Nat.le_refl _)⟩
      · go_wp2_with fail
        refine (num_of_any B g (p + 1) w1.heap.size ints8 _ (Hr1.out.keep ((Below.refl _ _).alloc (Nat.le_refl _) _)) (by omega) (by omega) (by simp) (by decide) (by decide) (row_ints w1 ints8 3)).mono ?_
        rintro e w2 ⟨n, rfl, _, hr2, hu2⟩
        obtain ⟨_, d0, d1, d2, e0, e1, e2⟩ := (HX.out.keep (alloc_below _ _)).upd hu2 hne
        clear c0 c1 c2 f0 f1 f2
        have Hu2 : Hid (Upd g w w2) := (Hu.out.trans (Upd.ofBelow ((Below.refl _ _).alloc (Nat.le_refl _) _))).trans hu2
        have Hr2 : Hid (Rd B g (p + 1 + 1) w2) := hr2
        clear hu2 hr2
        go_wp2_with fail
        exact bodyPost_ret (v := .agg #[.int .i64 kind, .int .i64 n, .string ⟨#[]⟩]) (by simp [results, Try.results24, go_sem, d0, d1, d2]) rfl ⟨_, _, _, p + 1 + 1, rfl, by decide, by omega, Hr2.out.other (Upd.set3 _ _ _ _) hne hBw, Hu2.out.other (Upd.set3 _ _ _ _) (Nat.le_refl _)⟩
    · go_wp2_with fail
      exact bodyPost_ret (v := .agg #[.int .i64 0, .int .i64 0, .string ⟨#[]⟩]) (by simp [results, Try.results24, go_sem, c0, c1, c2]) rfl ⟨_, _, _, p + 1, rfl, by decide, by omega, Hr1.out.other (Upd.set3 _ _ _ _) hne hBw, Hu.out.other (Upd.set3 _ _ _ _) (Nat.le_refl _)⟩
  · go_wp2_with fail
    exact bodyPost_ret (v := .agg #[.int .i64 0, .int .i64 0, .string ⟨#[]⟩]) (by simp [results, Try.results24, go_sem, c0, c1, c2]) rfl ⟨_, _, _, p + 1, rfl, by decide, by omega, Hr1.out.other (Upd.set3 _ _ _ _) hne hBw, Hu.out.other (Upd.set3 _ _ _ _) (Nat.le_refl _)⟩

def ints5 : List Int := [0, 3, -1, 1, 2]
def ints4 : List Int := [1000, -1000, 5, 9223372036854775807]
def strs4 : List ByteArray := [⟨#[97, 98, 99, 100, 101]⟩, ⟨#[65]⟩, ⟨#[113]⟩, ⟨#[39]⟩]
theorem strs4_le (s : ByteArray) (h : s ∈ strs4) : s.size ≤ 5 := by
  have : ∀ x ∈ strs4, x.size ≤ 5 := by decide
  exact this s h

set_option maxHeartbeats 2000000 in
theorem l1_bent (B g p : Nat) (k n : Int) (s : ByteArray) (w : World) (hr : Rd B g p w) (hp : p < 900000) (hs : s.size ≤ 5) :
    Calls Try.prog 34 #[.pointer (some ⟨g, 0, none⟩), .agg #[.int .i64 k, .int .i64 n, .string s]] w fun e w' => ∃ (k n : Int) (s : ByteArray) (q : Nat), e = .returned (.agg #[.int .i64 k, .int .i64 n, .string s]) ∧ s.size ≤ 5 ∧ q ≤ p + 2 ∧ Rd B g q w' ∧ Upd g w w' := by
  have hg : g < w.heap.size := hr.2.1
  have hne : w.heap.size ≠ g := by omega
  have hne1 : w.heap.size + 1 ≠ g := by omega
  have hBw : B ≤ w.heap.size := by have := hr.1; omega
  have b1 := alloc_below w (.cells #[.int .i64 k, .int .i64 n, .string s] 29)
  have b2 := alloc_below (w.alloc (.cells #[.int .i64 k, .int .i64 n, .string s] 29)) (.cells #[.int .i64 0, .int .i64 0, .string ⟨#[]⟩] 29)
  have Hr : Hid (Rd B g p ((w.alloc (.cells #[.int .i64 k, .int .i64 n, .string s] 29)).alloc (.cells #[.int .i64 0, .int .i64 0, .string ⟨#[]⟩] 29))) := (hr.keep b1).keep b2
  have Hu0 : Hid (Upd g w ((w.alloc (.cells #[.int .i64 k, .int .i64 n, .string s] 29)).alloc (.cells #[.int .i64 0, .int .i64 0, .string ⟨#[]⟩] 29))) := (Upd.ofBelow b1).trans (Upd.ofBelow b2)
  have HA : Hid (Box3 w.heap.size (.int .i64 k) (.int .i64 n) (.string s) ((w.alloc (.cells #[.int .i64 k, .int .i64 n, .string s] 29)).alloc (.cells #[.int .i64 0, .int .i64 0, .string ⟨#[]⟩] 29))) := (box3 w _ _ _ _).keep b2
  have HB : Hid (Box3 (w.heap.size + 1) (.int .i64 0) (.int .i64 0) (.string ⟨#[]⟩) ((w.alloc (.cells #[.int .i64 k, .int .i64 n, .string s] 29)).alloc (.cells #[.int .i64 0, .int .i64 0, .string ⟨#[]⟩] 29))) := box3b w _ _ _ _ _
  clear hr b1 b2
  go_enter Try.func34, Try.ntmps34
  go_wp2_with fail
  refine (pick_any B g p _ _ Hr.out (by omega) (by omega) (by omega)).mono ?_
  rintro e w1 ⟨v, rfl, hv, hr1, hu⟩
  have hz : w.heap.size + 1 < w1.heap.size := by have := hu.size; simp at this; omega
  have HA1 : Hid (Box3 w.heap.size (.int .i64 k) (.int .i64 n) (.string s) w1) := HA.out.upd hu hne
  have HB1 : Hid (Box3 (w.heap.size + 1) (.int .i64 0) (.int .i64 0) (.string ⟨#[]⟩) w1) := HB.out.upd hu hne1
  have Hr1 : Hid (Rd B g (p + 1) w1) := hr1
  have Hu1 : Hid (Upd g w w1) := Hu0.out.trans hu
  clear hr1 hu HA HB Hr Hu0
  cases hv0 : ((v : Int) == 0)
  · cases hv1 : ((v : Int) == 1)
    · cases hv2 : ((v : Int) == 2)
      · obtain ⟨_, a0, a1, a2, _, _, _⟩ := HA1.out
        obtain ⟨_, c0, c1, c2, f0, f1, f2⟩ := HB1.out
        go_wp2_with fail
        exact bodyPost_ret (v := .agg #[.int .i64 k, .int .i64 n, .string s]) (by simp [results, Try.results34, go_sem, c0, c1, c2]) rfl ⟨_, _, _, p + 1, rfl, hs, by omega, Hr1.out.other (Upd.set3 _ _ _ _) hne1 (by omega), Hu1.out.other (Upd.set3 _ _ _ _) (by omega)⟩
      · go_wp2_with fail
        refine (of_of_any B g (p + 1) w1.heap.size strs4 _ (Hr1.out.keep (alloc_below _ _)) (by omega) (by omega) (by simp) (by decide) (by decide) (row_strs w1 strs4 9)).mono ?_
        rintro e w2 ⟨s', rfl, hs', hr2, hu2⟩
        have hzs : s'.size ≤ 5 := strs4_le s' hs'
        obtain ⟨_, a0, a1, a2, x0, x1, x2⟩ := (HA1.out.keep (alloc_below _ _)).upd hu2 hne
        obtain ⟨_, c0, c1, c2, f0, f1, f2⟩ := (HB1.out.keep (alloc_below _ _)).upd hu2 hne1
        have Hu2 : Hid (Upd g w w2) := (Hu1.out.trans (Upd.ofBelow (alloc_below _ _))).trans hu2
        have Hr2 : Hid (Rd B g (p + 1 + 1) w2) := hr2
        clear hu2 hr2 hs'
        go_wp2_with fail
        exact bodyPost_ret (v := .agg #[.int .i64 k, .int .i64 n, .string s']) (by simp [results, Try.results34, go_sem, c0, c1, c2]) rfl ⟨_, _, _, p + 1 + 1, rfl, hzs, by omega, (Hr2.out.other (Upd.set _ _ _) hne (by omega)).other (Upd.set3 _ _ _ _) hne1 (by omega), (Hu2.out.other (Upd.set _ _ _) (by omega)).other (Upd.set3 _ _ _ _) (by omega)⟩
    · go_wp2_with fail
      refine (num_of_any B g (p + 1) w1.heap.size ints4 _ (Hr1.out.keep (alloc_below _ _)) (by omega) (by omega) (by simp) (by decide) (by decide) (row_ints w1 ints4 3)).mono ?_
      rintro e w2 ⟨m, rfl, _, hr2, hu2⟩
      obtain ⟨_, a0, a1, a2, x0, x1, x2⟩ := (HA1.out.keep (alloc_below _ _)).upd hu2 hne
      obtain ⟨_, c0, c1, c2, f0, f1, f2⟩ := (HB1.out.keep (alloc_below _ _)).upd hu2 hne1
      have Hu2 : Hid (Upd g w w2) := (Hu1.out.trans (Upd.ofBelow (alloc_below _ _))).trans hu2
      have Hr2 : Hid (Rd B g (p + 1 + 1) w2) := hr2
      clear hu2 hr2
      go_wp2_with fail
      exact bodyPost_ret (v := .agg #[.int .i64 k, .int .i64 m, .string s]) (by simp [results, Try.results34, go_sem, c0, c1, c2]) rfl ⟨_, _, _, p + 1 + 1, rfl, hs, by omega, (Hr2.out.other (Upd.set _ _ _) hne (by omega)).other (Upd.set3 _ _ _ _) hne1 (by omega), (Hu2.out.other (Upd.set _ _ _) (by omega)).other (Upd.set3 _ _ _ _) (by omega)⟩
  · go_wp2_with fail
    refine (num_of_any B g (p + 1) w1.heap.size ints5 _ (Hr1.out.keep (alloc_below _ _)) (by omega) (by omega) (by simp) (by decide) (by decide) (row_ints w1 ints5 3)).mono ?_
    rintro e w2 ⟨m, rfl, _, hr2, hu2⟩
    obtain ⟨_, a0, a1, a2, x0, x1, x2⟩ := (HA1.out.keep (alloc_below _ _)).upd hu2 hne
    obtain ⟨_, c0, c1, c2, f0, f1, f2⟩ := (HB1.out.keep (alloc_below _ _)).upd hu2 hne1
    have Hu2 : Hid (Upd g w w2) := (Hu1.out.trans (Upd.ofBelow (alloc_below _ _))).trans hu2
    have Hr2 : Hid (Rd B g (p + 1 + 1) w2) := hr2
    clear hu2 hr2
    go_wp2_with fail
    exact bodyPost_ret (v := .agg #[.int .i64 m, .int .i64 n, .string s]) (by simp [results, Try.results34, go_sem, c0, c1, c2]) rfl ⟨_, _, _, p + 1 + 1, rfl, hs, by omega, (Hr2.out.other (Upd.set _ _ _) hne (by omega)).other (Upd.set3 _ _ _ _) hne1 (by omega), (Hu2.out.other (Upd.set _ _ _) (by omega)).other (Upd.set3 _ _ _ _) (by omega)⟩

end Go.Proofs.Ytddcmibggdighaa
