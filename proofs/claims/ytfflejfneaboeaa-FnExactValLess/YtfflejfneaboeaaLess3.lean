/- Contracts of laws.toVal and laws.szVal, and the walk of laws.FnExactValLess, over the seat's translation. -/
import Derived.Test.YtfflejfneaboeaaLess2
import Derived.Deep.DeepCutAuto
namespace Go.Proofs.Ytfflejfneaboeaa
open Go.RowKit

set_option maxHeartbeats 400000 in
theorem to_val (k n : Int) (s : ByteArray) (w : World) :
    Calls Try.prog 6 #[.agg #[.int .i64 k, .int .i64 n, .string s]] w fun e w' => e = .returned (.agg #[.int .i64 k, .int .i64 n, .string s]) ∧ Below w.heap.size w w' := by
  go_enter Try.func6, Try.ntmps6
  go_wp2
  exact bodyPost_ret (v := .agg #[.int .i64 k, .int .i64 n, .string s]) (by simp [results, Try.results6, go_sem]) rfl ⟨rfl, ((((Below.refl _ _).alloc (Nat.le_refl _) _).alloc (by simp) _).alloc (by simp; omega) _)⟩

theorem sz_big (k n l : Int) (s : ByteArray) (w : World) (hs : s.size ≤ maxLen) (h0 : 0 ≤ l) (h1 : l ≤ 1048576) (h : l < s.size) :
    Calls Try.prog 4 #[.agg #[.int .i64 k, .int .i64 n, .string s], .int .i64 l] w fun e w' => e = .returned (.int .i64 (-1)) ∧ Below w.heap.size w w' := by
  unfold maxLen at hs
  go_enter Try.func4, Try.ntmps4
  go_wp2
  go_ret
  exact ⟨rfl, (Below.refl _ _).alloc (Nat.le_refl _) _⟩

theorem sz_fits (k n l : Int) (s : ByteArray) (w : World) (hs : s.size ≤ maxLen) (h0 : 0 ≤ l) (h1 : l ≤ 1048576) (h : s.size ≤ l) :
    Calls Try.prog 4 #[.agg #[.int .i64 k, .int .i64 n, .string s], .int .i64 l] w fun e w' => e = .returned (.int .i64 (l - s.size)) ∧ Below w.heap.size w w' := by
  unfold maxLen at hs
  go_enter Try.func4, Try.ntmps4
  go_wp2
  go_ret
  exact ⟨rfl, (Below.refl _ _).alloc (Nat.le_refl _) _⟩

theorem bcell {W w1 : World} (hb : Below W.heap.size W w1) : (∀ b o, b < W.heap.size → w1.cell? ⟨b, o, none⟩ = W.cell? ⟨b, o, none⟩) ∧ (∀ b o, b < W.heap.size → w1.frozen? ⟨b, o, none⟩ = W.frozen? ⟨b, o, none⟩) :=
  ⟨fun b o h => hb.cell (p := ⟨b, o, none⟩) h, fun b o h => hb.frozen (p := ⟨b, o, none⟩) h⟩

/-- The two boxes at B and B + 1 hold the two values in W, and W lies over w. -/
abbrev Held (w : World) (B : Nat) (k1 n1 : Int) (s1 : ByteArray) (k2 n2 : Int) (s2 : ByteArray) (W : World) : Prop :=
  W.cell? ⟨B, 0, none⟩ = some (.int .i64 k1) ∧ W.cell? ⟨B, 1, none⟩ = some (.int .i64 n1) ∧ W.cell? ⟨B, 2, none⟩ = some (.string s1) ∧
  W.cell? ⟨B + 1, 0, none⟩ = some (.int .i64 k2) ∧ W.cell? ⟨B + 1, 1, none⟩ = some (.int .i64 n2) ∧ W.cell? ⟨B + 1, 2, none⟩ = some (.string s2) ∧ B + 2 ≤ W.heap.size ∧ Below B w W

theorem held_next {w : World} {B : Nat} {k1 n1 : Int} {s1 : ByteArray} {k2 n2 : Int} {s2 : ByteArray} {W W' : World} (h : Held w B k1 n1 s1 k2 n2 s2 W) (hb : Below W.heap.size W W') : Held w B k1 n1 s1 k2 n2 s2 W' := by
  obtain ⟨a, b, c, d, e, f, g, i⟩ := h
  have hc := (bcell hb).1
  have hz := hb.size
  exact ⟨by rw [hc _ _ (by omega)]; exact a, by rw [hc _ _ (by omega)]; exact b, by rw [hc _ _ (by omega)]; exact c, by rw [hc _ _ (by omega)]; exact d, by rw [hc _ _ (by omega)]; exact e, by rw [hc _ _ (by omega)]; exact f, by omega, i.trans (hb.mono (by omega))⟩
theorem held_drew {w : World} {B : Nat} {k1 n1 : Int} {s1 : ByteArray} {k2 n2 : Int} {s2 : ByteArray} {W : World} (h : Held w B k1 n1 s1 k2 n2 s2 W) : Held w B k1 n1 s1 k2 n2 s2 W.drew :=
  held_next h (Below.refl _ _).drew

set_option maxHeartbeats 400000 in
theorem law_less (k1 n1 : Int) (s1 : ByteArray) (k2 n2 : Int) (s2 : ByteArray) (w : World) (hs1 : s1.size ≤ maxLen) (hs2 : s2.size ≤ maxLen) :
    Calls Try.prog 3 #[.agg #[.int .i64 k1, .int .i64 n1, .string s1], .agg #[.int .i64 k2, .int .i64 n2, .string s2]] w fun e w' => e = .returned (.bool true) ∧ Below w.heap.size w w' := by
  by_cases hl1 : (1048576 : Int) < s1.size
  · go_enter Try.func3, Try.ntmps3
    go_wp2_with fail
    refine (sz_big _ _ _ _ _ hs1 (by omega) (by omega) hl1).mono ?_
    rintro e w1 ⟨rfl, hb⟩
    go_wp2_with fail
    go_ret
    exact ⟨rfl, ((((Below.refl _ _).alloc (Nat.le_refl _) _).alloc (by simp) _).trans (hb.mono (by simp; omega)))⟩
  · have hl1' : (s1.size : Int) ≤ 1048576 := by omega
    clear hl1
    go_enter Try.func3, Try.ntmps3
    go_wp2_with fail
    refine (sz_fits _ _ _ _ _ hs1 (by omega) (by omega) hl1').mono ?_
    rintro e w1 ⟨rfl, hb⟩
    obtain ⟨hc, hf⟩ := bcell hb
    have hz : w.heap.size + 2 ≤ w1.heap.size := by have := hb.size; simp at this; omega
    by_cases hl2 : (1048576 : Int) - s1.size < s2.size
    · go_wp2_with fail
      refine (sz_big _ _ _ _ _ hs2 (by omega) (by omega) hl2).mono ?_
      rintro e w2 ⟨rfl, hb2⟩
      go_wp2_with fail
      go_ret
      exact ⟨rfl, ((((Below.refl _ _).alloc (Nat.le_refl _) _).alloc (by simp) _).trans (hb.mono (by simp; omega))).trans (hb2.mono (by omega))⟩
    · have hl2' : (s2.size : Int) ≤ 1048576 - s1.size := by omega
      clear hl2
      go_wp2_with fail
      refine (sz_fits _ _ _ _ _ hs2 (by omega) (by omega) hl2').mono ?_
      rintro e w2 ⟨rfl, hb2⟩
      have hB : Below w.heap.size w w2 := ((((Below.refl _ _).alloc (Nat.le_refl _) _).alloc (by simp) _).trans (hb.mono (by simp; omega))).trans (hb2.mono (by omega))
      have hH1 : Held w w.heap.size k1 n1 s1 k2 n2 s2 w1 := held_next (W := (w.alloc (.cells #[.int .i64 k1, .int .i64 n1, .string s1] 23)).alloc (.cells #[.int .i64 k2, .int .i64 n2, .string s2] 23)) (by refine ⟨?_, ?_, ?_, ?_, ?_, ?_, ?_, ?_⟩; (go_simp); (go_simp); (go_simp); (go_simp); (go_simp); (go_simp); (simp); exact ((Below.refl _ _).alloc (Nat.le_refl _) _).alloc (by simp) _) hb
      have hH2 := held_next hH1 hb2
      clear hc hf hz hb hb2 hB hH1
      go_wp2_with fail
      go_region_held3 (fun W => Held w w.heap.size k1 n1 s1 k2 n2 s2 W) (first | assumption | exact held_drew (by assumption))
        (first
          | (go_at_call 6; refine (to_val _ _ _ _).mono ?_; rintro e w' ⟨rfl, hb⟩; have hN := held_next (by assumption) hb; clear hb)
          | (go_at_call 5; refine (spec_less _ _ _ _ _ _ _).mono ?_; rintro e w' ⟨rfl, hb⟩; have hN := held_next (by assumption) hb; clear hb))
      go_wp2_with fail
      go_region_held3 (fun W => Held w w.heap.size k1 n1 s1 k2 n2 s2 W) (first | assumption | exact held_drew (by assumption))
        (first
          | (go_at_call 6; refine (to_val _ _ _ _).mono ?_; rintro e w' ⟨rfl, hb⟩; have hN := held_next (by assumption) hb; clear hb)
          | (go_at_call 7; refine (impl_less _ _ _ _ _ _ _).mono ?_; rintro e w' ⟨rfl, hb⟩; have hN := held_next (by assumption) hb; clear hb))
      go_wp2_with fail
      go_ret
      refine ⟨rfl, ?_⟩
      have hE := ‹Held w w.heap.size k1 n1 s1 k2 n2 s2 _›
      exact hE.2.2.2.2.2.2.2

end Go.Proofs.Ytfflejfneaboeaa
