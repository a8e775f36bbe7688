/- A condition in a box; the contracts of spec.l7Has and of impl.howTest and the tests that it gives, over the seat's translation. -/
import Derived.Test.YtedlfdneepachaaLess2
import Derived.Test.YtedlfdneepachaaEq1
import Derived.Test.YtedlfdneepachaaA3
namespace Go.Proofs.Ytedlfdneepachaa
open Go.RowKit

/-- A value is as it must be. -/
def hasV (how k n : Int) (s : ByteArray) (vk vn : Int) (vs : ByteArray) : Bool :=
  if how = 1 then eqV vk vn vs k n s else vk != 0 && (if how = 2 then lessV vk vn vs k n s else lessV k n s vk vn vs)

/-- The box at B holds the condition in W, and W lies over w. -/
abbrev Held5 (w : World) (B : Nat) (nm : ByteArray) (how k n : Int) (s : ByteArray) (W : World) : Prop :=
  W.cell? ⟨B, 0, none⟩ = some (.string nm) ∧ W.cell? ⟨B, 1, none⟩ = some (.int .i64 how) ∧ W.cell? ⟨B, 2, none⟩ = some (.int .i64 k) ∧ W.cell? ⟨B, 3, none⟩ = some (.int .i64 n) ∧ W.cell? ⟨B, 4, none⟩ = some (.string s) ∧ B + 1 ≤ W.heap.size ∧ Below B w W
theorem held5_next {w : World} {B : Nat} {nm : ByteArray} {how k n : Int} {s : ByteArray} {W W' : World} (h : Held5 w B nm how k n s W) (hb : Below W.heap.size W W') : Held5 w B nm how k n s W' := by
  obtain ⟨a, b, c, d, e, hz, i⟩ := h
  have hc := (bcell hb).1
  have hq := hb.size
  exact ⟨by rw [hc _ _ (by omega)]; exact a, by rw [hc _ _ (by omega)]; exact b, by rw [hc _ _ (by omega)]; exact c, by rw [hc _ _ (by omega)]; exact d, by rw [hc _ _ (by omega)]; exact e, by omega, i.trans (hb.mono (by omega))⟩
theorem held5_box (w : World) (nm : ByteArray) (how k n : Int) (s : ByteArray) (t : TypeId) :
    Held5 w w.heap.size nm how k n s (w.alloc (.cells #[.string nm, .int .i64 how, .int .i64 k, .int .i64 n, .string s] t)) := by
  refine ⟨?_, ?_, ?_, ?_, ?_, ?_, (Below.refl _ _).alloc (Nat.le_refl _) _⟩
  all_goals go_simp

set_option maxHeartbeats 1000000 in
theorem l7_has (nm : ByteArray) (how k n : Int) (s : ByteArray) (vk vn : Int) (vs : ByteArray) (w : World) :
    Calls Try.prog 17 #[.agg #[.string nm, .int .i64 how, .int .i64 k, .int .i64 n, .string s], .agg #[.int .i64 vk, .int .i64 vn, .string vs]] w fun e w' => e = .returned (.bool (hasV how k n s vk vn vs)) ∧ Below w.heap.size w w' := by
  have heql := run_eql vk vn vs k n s
  by_cases h1 : how = 1
  · subst h1
    go_enter Try.func17, Try.ntmps17
    go_wp2_with fail
    go_ret
    exact ⟨ret_bool (by simp [hasV]), ((Below.refl _ _).alloc (Nat.le_refl _) _).alloc (by simp) _⟩
  by_cases h2 : how = 2
  · subst h2
    go_enter Try.func17, Try.ntmps17
    go_wp2_with (go_at_call 33; refine (spec_less _ _ _ _ _ _ _).mono ?_; rintro e w' ⟨rfl, hb⟩)
    · go_ret
      exact ⟨ret_bool (by simp_all [hasV]), ((Below.refl _ _).alloc (Nat.le_refl _) _).alloc (by simp) _⟩
    · go_ret
      exact ⟨ret_bool (by simp [hasV]), (((Below.refl _ _).alloc (Nat.le_refl _) _).alloc (by simp) _).trans (hb.mono (by simp; omega))⟩
  · have e1 : (how == 1) = false := by simp [h1]
    have e2 : (how == 2) = false := by simp [h2]
    cases hk : (vk != 0)
    · go_enter Try.func17, Try.ntmps17
      go_wp2_with fail
      go_ret
      exact ⟨ret_bool (by simp [hasV, h1, hk]), ((Below.refl _ _).alloc (Nat.le_refl _) _).alloc (by simp) _⟩
    · go_enter Try.func17, Try.ntmps17
      go_wp2_with (go_at_call 33; refine (spec_less _ _ _ _ _ _ _).mono ?_; rintro e w' ⟨rfl, hb⟩)
      go_ret
      exact ⟨ret_bool (by simp [hasV, h1, h2, hk]), (((Below.refl _ _).alloc (Nat.le_refl _) _).alloc (by simp) _).trans (hb.mono (by simp; omega))⟩

/-- The value that a test asks for lies at B, and, but for the first test, the test behind it at B + 1. -/
structure HasAt (W : World) (how k n : Int) (s : ByteArray) (B : Nat) : Prop where
  c0 : W.cell? ⟨B, 0, none⟩ = some (.int .i64 k)
  c1 : W.cell? ⟨B, 1, none⟩ = some (.int .i64 n)
  c2 : W.cell? ⟨B, 2, none⟩ = some (.string s)
  lt : B < W.heap.size
  c3 : how = 2 → W.cell? ⟨B + 1, 0, none⟩ = some (.func (.func 41) #[] #[.pointer (some ⟨B, 0, none⟩)]) ∧ B + 1 < W.heap.size
  c4 : how = 3 → W.cell? ⟨B + 1, 0, none⟩ = some (.func (.func 43) #[] #[.pointer (some ⟨B, 0, none⟩)]) ∧ B + 1 < W.heap.size
theorem HasAt.keep {W W' : World} {how k n : Int} {s : ByteArray} {B : Nat} (h : HasAt W how k n s B) (hb : Below W.heap.size W W') : HasAt W' how k n s B := by
  have hc := (bcell hb).1
  have hz := hb.size
  refine ⟨by rw [hc _ _ h.lt]; exact h.c0, by rw [hc _ _ h.lt]; exact h.c1, by rw [hc _ _ h.lt]; exact h.c2, by have := h.lt; omega, fun e => ?_, fun e => ?_⟩
  · obtain ⟨a, b⟩ := h.c3 e
    exact ⟨by rw [hc _ _ b]; exact a, by omega⟩
  · obtain ⟨a, b⟩ := h.c4 e
    exact ⟨by rw [hc _ _ b]; exact a, by omega⟩

theorem past {w : World} {B o : Nat} {v : Value} (x : Obj) (hB : B < w.heap.size) (h : w.cell? ⟨B, o, none⟩ = some v) : (w.alloc x).cell? ⟨B, o, none⟩ = some v := by
  rw [World.cell?_alloc_past _ _ _ hB]; exact h

set_option maxHeartbeats 1000000 in
theorem test_same (B : Nat) (k n : Int) (s : ByteArray) (vk vn : Int) (vs : ByteArray) (w : World) (hB : B < w.heap.size) (h0 : w.cell? ⟨B, 0, none⟩ = some (.int .i64 k)) (h1 : w.cell? ⟨B, 1, none⟩ = some (.int .i64 n)) (h2 : w.cell? ⟨B, 2, none⟩ = some (.string s)) :
    Calls Try.prog 40 #[.agg #[.int .i64 vk, .int .i64 vn, .string vs], .pointer (some ⟨B, 0, none⟩)] w fun e w' => e = .returned (.bool (eqV vk vn vs k n s)) ∧ Below w.heap.size w w' := by
  have heql := run_eql vk vn vs k n s
  have g0 := past (.cells #[.int .i64 vk, .int .i64 vn, .string vs] 25) hB h0
  have g1 := past (.cells #[.int .i64 vk, .int .i64 vn, .string vs] 25) hB h1
  have g2 := past (.cells #[.int .i64 vk, .int .i64 vn, .string vs] 25) hB h2
  go_enter Try.func40, Try.ntmps40
  go_wp2_with fail
  go_ret
  exact ⟨rfl, (Below.refl _ _).alloc (Nat.le_refl _) _⟩
set_option maxHeartbeats 1000000 in
theorem test_less (B : Nat) (k n : Int) (s : ByteArray) (vk vn : Int) (vs : ByteArray) (w : World) (hB : B < w.heap.size) (h0 : w.cell? ⟨B, 0, none⟩ = some (.int .i64 k)) (h1 : w.cell? ⟨B, 1, none⟩ = some (.int .i64 n)) (h2 : w.cell? ⟨B, 2, none⟩ = some (.string s)) :
    Calls Try.prog 41 #[.agg #[.int .i64 vk, .int .i64 vn, .string vs], .pointer (some ⟨B, 0, none⟩)] w fun e w' => e = .returned (.bool (lessV vk vn vs k n s)) ∧ Below w.heap.size w w' := by
  have g0 := past (.cells #[.int .i64 vk, .int .i64 vn, .string vs] 25) hB h0
  have g1 := past (.cells #[.int .i64 vk, .int .i64 vn, .string vs] 25) hB h1
  have g2 := past (.cells #[.int .i64 vk, .int .i64 vn, .string vs] 25) hB h2
  go_enter Try.func41, Try.ntmps41
  go_wp2_with (go_at_call 42; refine (impl_less _ _ _ _ _ _ _).mono ?_; rintro e w' ⟨rfl, hb⟩)
  go_ret
  exact ⟨rfl, ((Below.refl _ _).alloc (Nat.le_refl _) _).trans (hb.mono (by simp))⟩
set_option maxHeartbeats 1000000 in
theorem test_more (B : Nat) (k n : Int) (s : ByteArray) (vk vn : Int) (vs : ByteArray) (w : World) (hB : B < w.heap.size) (h0 : w.cell? ⟨B, 0, none⟩ = some (.int .i64 k)) (h1 : w.cell? ⟨B, 1, none⟩ = some (.int .i64 n)) (h2 : w.cell? ⟨B, 2, none⟩ = some (.string s)) :
    Calls Try.prog 43 #[.agg #[.int .i64 vk, .int .i64 vn, .string vs], .pointer (some ⟨B, 0, none⟩)] w fun e w' => e = .returned (.bool (lessV k n s vk vn vs)) ∧ Below w.heap.size w w' := by
  have g0 := past (.cells #[.int .i64 vk, .int .i64 vn, .string vs] 25) hB h0
  have g1 := past (.cells #[.int .i64 vk, .int .i64 vn, .string vs] 25) hB h1
  have g2 := past (.cells #[.int .i64 vk, .int .i64 vn, .string vs] 25) hB h2
  go_enter Try.func43, Try.ntmps43
  go_wp2_with (go_at_call 42; refine (impl_less _ _ _ _ _ _ _).mono ?_; rintro e w' ⟨rfl, hb⟩)
  go_ret
  exact ⟨rfl, ((Below.refl _ _).alloc (Nat.le_refl _) _).trans (hb.mono (by simp))⟩

/-- What impl.howTest gives. -/
def hasFn (how : Int) (B : Nat) : Value := if how = 1 then .func (.func 40) #[] #[.pointer (some ⟨B, 0, none⟩)] else .func (.func 49) #[] #[.pointer (some ⟨B + 1, 0, none⟩)]

theorem how_test (how k n : Int) (s : ByteArray) (w : World) (h : how = 1 ∨ how = 2 ∨ how = 3) :
    Calls Try.prog 31 #[.int .i64 how, .agg #[.int .i64 k, .int .i64 n, .string s]] w fun e w' => e = .returned (.tuple #[hasFn how w.heap.size, .bool true]) ∧ HasAt w' how k n s w.heap.size ∧ Below w.heap.size w w' := by
  have hmf : ∀ (fn : Fn) (first cap : Array Value) (w : World), (Instr.makeFunc fn first cap).run Try.prog w = .ok (.func fn first cap) w := fun _ _ _ _ => rfl
  rcases h with rfl | rfl | rfl
  · go_enter Try.func31, Try.ntmps31
    go_wp2_with go_in
    go_ret2
    refine ⟨rfl, ⟨?_, ?_, ?_, by simp, fun e => absurd e (by decide), fun e => absurd e (by decide)⟩, (Below.refl _ _).alloc (Nat.le_refl _) _⟩
    all_goals go_simp
  · go_enter Try.func31, Try.ntmps31
    go_wp2_with go_in
    go_ret2
    refine ⟨rfl, ⟨?_, ?_, ?_, by simp; omega, fun _ => ⟨?_, by simp⟩, fun e => absurd e (by decide)⟩, ((Below.refl _ _).alloc (Nat.le_refl _) _).alloc (by simp) _⟩
    all_goals go_simp
  · go_enter Try.func31, Try.ntmps31
    go_wp2_with go_in
    go_ret2
    refine ⟨rfl, ⟨?_, ?_, ?_, by simp; omega, fun e => absurd e (by decide), fun _ => ⟨?_, by simp⟩⟩, ((Below.refl _ _).alloc (Nat.le_refl _) _).alloc (by simp) _⟩
    all_goals go_simp

theorem how_none (how k n : Int) (s : ByteArray) (w : World) (h1 : ¬ how = 1) (h2 : ¬ how = 2) (h3 : ¬ how = 3) :
    Calls Try.prog 31 #[.int .i64 how, .agg #[.int .i64 k, .int .i64 n, .string s]] w fun e w' => e = .returned (.tuple #[.nilFunc, .bool false]) ∧ Below w.heap.size w w' := by
  have hmf : ∀ (fn : Fn) (first cap : Array Value) (w : World), (Instr.makeFunc fn first cap).run Try.prog w = .ok (.func fn first cap) w := fun _ _ _ _ => rfl
  have e1 : (how == 1) = false := by simp [h1]
  have e2 : (how == 2) = false := by simp [h2]
  have e3 : (how == 3) = false := by simp [h3]
  go_enter Try.func31, Try.ntmps31
  go_wp2_with fail
  go_ret2
  exact ⟨rfl, (Below.refl _ _).alloc (Nat.le_refl _) _⟩

set_option maxHeartbeats 1000000 in
theorem not_less (B : Nat) (k n : Int) (s : ByteArray) (vk vn : Int) (vs : ByteArray) (w : World) (h : HasAt w 2 k n s B) :
    Calls Try.prog 49 #[.agg #[.int .i64 vk, .int .i64 vn, .string vs], .pointer (some ⟨B + 1, 0, none⟩)] w fun e w' => e = .returned (.bool (hasV 2 k n s vk vn vs)) ∧ Below w.heap.size w w' := by
  obtain ⟨hc, hlt⟩ := h.c3 rfl
  have g0 := past (.cells #[.int .i64 vk, .int .i64 vn, .string vs] 25) hlt hc
  have hcon : Calls Try.prog 41 #[.agg #[.int .i64 vk, .int .i64 vn, .string vs], .pointer (some ⟨B, 0, none⟩)] (w.alloc (.cells #[.int .i64 vk, .int .i64 vn, .string vs] 25)) fun e w' => e = .returned (.bool (lessV vk vn vs k n s)) ∧ Below (w.alloc (.cells #[.int .i64 vk, .int .i64 vn, .string vs] 25)).heap.size (w.alloc (.cells #[.int .i64 vk, .int .i64 vn, .string vs] 25)) w' :=
    test_less B k n s vk vn vs _ (by have := h.lt; simp; omega) (past _ h.lt h.c0) (past _ h.lt h.c1) (past _ h.lt h.c2)
  clear h hc
  cases hk : (vk != 0)
  · go_enter Try.func49, Try.ntmps49
    go_wp2_with fail
    go_ret
    exact ⟨ret_bool (by simp [hasV, hk]), (Below.refl _ _).alloc (Nat.le_refl _) _⟩
  · go_enter Try.func49, Try.ntmps49
    go_wp2_with fail
    refine hcon.mono ?_
    rintro e w' ⟨rfl, hb⟩
    go_wp2_with fail
    go_ret
    exact ⟨ret_bool (by simp [hasV, hk]), ((Below.refl _ _).alloc (Nat.le_refl _) _).trans (hb.mono (by simp))⟩

set_option maxHeartbeats 1000000 in
theorem not_more (B : Nat) (k n : Int) (s : ByteArray) (vk vn : Int) (vs : ByteArray) (w : World) (h : HasAt w 3 k n s B) :
    Calls Try.prog 49 #[.agg #[.int .i64 vk, .int .i64 vn, .string vs], .pointer (some ⟨B + 1, 0, none⟩)] w fun e w' => e = .returned (.bool (hasV 3 k n s vk vn vs)) ∧ Below w.heap.size w w' := by
  obtain ⟨hc, hlt⟩ := h.c4 rfl
  have g0 := past (.cells #[.int .i64 vk, .int .i64 vn, .string vs] 25) hlt hc
  have hcon : Calls Try.prog 43 #[.agg #[.int .i64 vk, .int .i64 vn, .string vs], .pointer (some ⟨B, 0, none⟩)] (w.alloc (.cells #[.int .i64 vk, .int .i64 vn, .string vs] 25)) fun e w' => e = .returned (.bool (lessV k n s vk vn vs)) ∧ Below (w.alloc (.cells #[.int .i64 vk, .int .i64 vn, .string vs] 25)).heap.size (w.alloc (.cells #[.int .i64 vk, .int .i64 vn, .string vs] 25)) w' :=
    test_more B k n s vk vn vs _ (by have := h.lt; simp; omega) (past _ h.lt h.c0) (past _ h.lt h.c1) (past _ h.lt h.c2)
  clear h hc
  cases hk : (vk != 0)
  · go_enter Try.func49, Try.ntmps49
    go_wp2_with fail
    go_ret
    exact ⟨ret_bool (by simp [hasV, hk]), (Below.refl _ _).alloc (Nat.le_refl _) _⟩
  · go_enter Try.func49, Try.ntmps49
    go_wp2_with fail
    refine hcon.mono ?_
    rintro e w' ⟨rfl, hb⟩
    go_wp2_with fail
    go_ret
    exact ⟨ret_bool (by simp [hasV, hk]), ((Below.refl _ _).alloc (Nat.le_refl _) _).trans (hb.mono (by simp))⟩

end Go.Proofs.Ytedlfdneepachaa
