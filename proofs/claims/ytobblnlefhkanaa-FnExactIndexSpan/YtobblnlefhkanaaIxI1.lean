/- The contracts of cmp.Or at two, impl.compareEntries and impl.entryOk, over the seat's translation. -/
import Derived.Test.YtobblnlefhkanaaIxM
import Derived.Test.YtobblnlefhkanaaIxE0
namespace Go.Proofs.Ytobblnlefhkanaa
open Go.RowKit

def orTwo (x y : Int) : Int := if x = 0 then y else x

theorem or_two (x y : Int) (g : Nat) (w : World) (h0 : w.cell? ⟨g, 0, none⟩ = some (.int .i64 x)) (h1 : w.cell? ⟨g, 1, none⟩ = some (.int .i64 y)) :
    Calls Try.prog 58 #[.slice (some ⟨g, 0, none⟩) 2 2] w fun e w' => e = .returned (.int .i64 (orTwo x y)) ∧ w' = w := by
  go_enter Try.func58, Try.ntmps58
  go_wp2
  go_loop [5, 8] (fun _ i => ∃ k : Nat, k ≤ 2 ∧ i = .int .i64 k ∧ (1 ≤ k → x = 0) ∧ (2 ≤ k → y = 0)) (fun _ i => 2 - (intOf i).toNat)
  case atStart => exact ⟨0, Nat.zero_le _, rfl, by omega, by omega⟩
  case round =>
    obtain ⟨k, hk, rfl, kx, ky⟩ := hrel
    have hh : k = 0 ∨ k = 1 ∨ k = 2 := by omega
    rcases hh with rfl | rfl | rfl
    · clear kx ky
      go_wp2
      · go_ret
        refine ⟨ret_int ?_, rfl⟩
        have hx : ¬ x = 0 := by simp_all
        simp [orTwo, hx]
      · have hx : x = 0 := by simp_all
        go_round
        case rel => exact ⟨1, by omega, rfl, fun _ => hx, by omega⟩
        case measure => simp [intOf]
    · have hx := kx (by omega)
      clear kx ky
      go_wp2
      · go_ret
        refine ⟨ret_int ?_, rfl⟩
        simp [orTwo]
      · have hy : y = 0 := by simp_all
        go_round
        case rel => exact ⟨2, by omega, rfl, fun _ => hx, fun _ => hy⟩
        case measure => simp [intOf]
    · have hx := kx (by omega)
      have hy := ky (by omega)
      clear kx ky
      go_wp2
      go_ret
      exact ⟨ret_int (by simp [orTwo]), rfl⟩

/-- Two entries lie in boxes in W, and W lies over w. -/
abbrev TwoBox (w : World) (x y : AEnt) (W : World) : Prop :=
  W.cell? ⟨w.heap.size, 0, none⟩ = some (.int .i64 x.k) ∧ W.cell? ⟨w.heap.size, 1, none⟩ = some (.int .i64 x.n) ∧ W.cell? ⟨w.heap.size, 2, none⟩ = some (.string x.s) ∧ W.cell? ⟨w.heap.size, 3, none⟩ = some (.int .i64 x.id) ∧
  W.cell? ⟨w.heap.size + 1, 0, none⟩ = some (.int .i64 y.k) ∧ W.cell? ⟨w.heap.size + 1, 1, none⟩ = some (.int .i64 y.n) ∧ W.cell? ⟨w.heap.size + 1, 2, none⟩ = some (.string y.s) ∧ W.cell? ⟨w.heap.size + 1, 3, none⟩ = some (.int .i64 y.id) ∧ w.heap.size + 2 ≤ W.heap.size ∧ Below w.heap.size w W
theorem twob_next {w : World} {x y : AEnt} {W W' : World} (h : TwoBox w x y W) (hb : Below W.heap.size W W') : TwoBox w x y W' := by
  obtain ⟨h0, h1, h2, h3, g0, g1, g2, g3, hz, hB⟩ := h
  have hc := (bcell hb).1
  have hs := hb.size
  exact ⟨by rw [hc _ _ (by omega)]; exact h0, by rw [hc _ _ (by omega)]; exact h1, by rw [hc _ _ (by omega)]; exact h2, by rw [hc _ _ (by omega)]; exact h3,
    by rw [hc _ _ (by omega)]; exact g0, by rw [hc _ _ (by omega)]; exact g1, by rw [hc _ _ (by omega)]; exact g2, by rw [hc _ _ (by omega)]; exact g3, by omega, hB.trans (hb.mono (by omega))⟩
theorem twob_drew {w : World} {x y : AEnt} {W : World} (h : TwoBox w x y W) : TwoBox w x y W.drew := twob_next h (Below.refl _ _).drew
theorem twob_start (w : World) (x y : AEnt) (t : TypeId) : TwoBox w x y ((w.alloc (.cells #[.int .i64 x.k, .int .i64 x.n, .string x.s, .int .i64 x.id] t)).alloc (.cells #[.int .i64 y.k, .int .i64 y.n, .string y.s, .int .i64 y.id] t)) := by
  refine ⟨?_, ?_, ?_, ?_, ?_, ?_, ?_, ?_, by simp, ((Below.refl _ _).alloc (Nat.le_refl _) _).alloc (by simp) _⟩
  all_goals go_simp

set_option maxRecDepth 100000 in
set_option maxHeartbeats 2000000 in
theorem compare_entries (x y : AEnt) (w : World) :
    Calls Try.prog 50 #[.agg #[.int .i64 x.k, .int .i64 x.n, .string x.s, .int .i64 x.id], .agg #[.int .i64 y.k, .int .i64 y.n, .string y.s, .int .i64 y.id]] w fun e w' => e = .returned (.int .i64 (cmpE x y)) ∧ Below w.heap.size w w' := by
  have hT := twob_start w x y 38
  have hE : Hid (cmpE x y = orTwo (cmpV x.k x.n x.s y.k y.n y.s) (cmpI x.id y.id)) := rfl
  go_enter Try.func50, Try.ntmps50
  go_wp2_with fail
  go_region_held3 (fun W => TwoBox w x y W) (first | assumption | exact twob_drew (by assumption) | exact twob_next (by assumption) ((Below.refl _ _).alloc (Nat.le_refl _) _))
    (first
      | (go_at_call 59; refine (compare_vals _ _ _ _ _ _ _).mono ?_; rintro e w' ⟨rfl, hb⟩; have hN := twob_next (by assumption) hb; clear hb)
      | (go_at_call 60; refine (cmp_int _ _ _).mono ?_; rintro e w' ⟨rfl, rfl⟩)
      | (go_at_call 58; refine (or_two (cmpV x.k x.n x.s y.k y.n y.s) (cmpI x.id y.id) _ _ ?_ ?_).mono ?_; (go_simp); (go_simp); rintro e w' ⟨rfl, rfl⟩))
  go_wp2_with fail
  go_ret
  have hZ := ‹TwoBox w x y _›
  exact ⟨ret_int hE.out.symm, hZ.2.2.2.2.2.2.2.2.2⟩

set_option maxRecDepth 100000 in
set_option maxHeartbeats 1000000 in
theorem entry_ok (x : AEnt) (w : World) (hf : x.fit) :
    Calls Try.prog 41 #[.agg #[.int .i64 x.k, .int .i64 x.n, .string x.s, .int .i64 x.id]] w fun e w' => e = .returned (.bool x.ok) ∧ Below w.heap.size w w' := by
  have hX := Box.start w [.int .i64 x.k, .int .i64 x.n, .string x.s, .int .i64 x.id] 38
  have H1 : Hid (Box w.heap.size [.int .i64 x.k, .int .i64 x.n, .string x.s, .int .i64 x.id] (w.alloc (.cells #[.int .i64 x.k, .int .i64 x.n, .string x.s, .int .i64 x.id] 38))) := hX
  clear hX
  go_enter Try.func41, Try.ntmps41
  go_wp2_with fail
  refine (impl_ok _ _ _ _ hf).mono ?_
  rintro e w' ⟨rfl, hb⟩
  have hB : Hid (Below w.heap.size w w') := ((Below.refl _ _).alloc (Nat.le_refl _) _).trans (hb.mono (by simp))
  have g := (H1.out.next hb).four
  clear hb H1
  cases hok : valOk x.k x.n x.s
  · go_wp2_with fail
    go_ret
    exact ⟨ret_bool (by rw [AEnt.ok, hok]; rfl), hB.out⟩
  · go_wp2_with fail
    all_goals
      go_ret
      refine ⟨ret_bool ?_, hB.out⟩
      rw [AEnt.ok, hok, Bool.eq_iff_iff]
      simp only [Bool.true_and, Bool.and_eq_true, decide_eq_true_eq, Bool.false_eq_true, false_iff]
      omega

end Go.Proofs.Ytobblnlefhkanaa
