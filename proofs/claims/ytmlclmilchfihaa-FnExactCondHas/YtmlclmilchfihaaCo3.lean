/- Contract of impl.condTest, over the seat's translation. -/
import Derived.Test.YtmlclmilchfihaaCo2
import Derived.Test.YtmlclmilchfihaaColC2
import Derived.Laws.EntriesVeiled
namespace Go.Proofs.Ytmlclmilchfihaa
open Go.RowKit

theorem col_kind (L : List ACol) (p : Nat) (hs : shapeOk L = true) (hp : p < L.length) : ¬ L[p].kd = 0 := by
  intro h0
  have : L[p].ok = false := by
    unfold ACol.ok colOk
    rw [h0]
    simp
  rw [upto_bad L p L[p] (List.getElem?_eq_getElem hp) (Or.inl this)] at hs
  cases hs

/-- The columns' list and the condition in their boxes, and the columns, lie in W, and W lies over w. -/
structure CB (w : World) (a : Option Addr) (cap : Nat) (L : List ACol) (nm : ByteArray) (how k n : Int) (s : ByteArray) (W : World) : Prop where
  s0 : W.cell? ⟨w.heap.size, 0, none⟩ = some (.slice a L.length cap)
  c0 : W.cell? ⟨w.heap.size + 1, 0, none⟩ = some (.string nm)
  c1 : W.cell? ⟨w.heap.size + 1, 1, none⟩ = some (.int .i64 how)
  c2 : W.cell? ⟨w.heap.size + 1, 2, none⟩ = some (.int .i64 k)
  c3 : W.cell? ⟨w.heap.size + 1, 3, none⟩ = some (.int .i64 n)
  c4 : W.cell? ⟨w.heap.size + 1, 4, none⟩ = some (.string s)
  sz : w.heap.size + 2 ≤ W.heap.size
  cols : ColsAt W a L
  bl : Below w.heap.size w W
theorem CB.keep {w : World} {a : Option Addr} {cap : Nat} {L : List ACol} {nm : ByteArray} {how k n : Int} {s : ByteArray} {W W' : World} (h : CB w a cap L nm how k n s W) (hb : Below W.heap.size W W') : CB w a cap L nm how k n s W' := by
  have hc := (bcell hb).1
  have hz := hb.size
  have hq := h.sz
  exact ⟨by rw [hc _ _ (by omega)]; exact h.s0, by rw [hc _ _ (by omega)]; exact h.c0, by rw [hc _ _ (by omega)]; exact h.c1, by rw [hc _ _ (by omega)]; exact h.c2, by rw [hc _ _ (by omega)]; exact h.c3, by rw [hc _ _ (by omega)]; exact h.c4, by omega, h.cols.keep hb, h.bl.trans (hb.mono (by omega))⟩
theorem CB.start (w : World) (a : Option Addr) (cap : Nat) (L : List ACol) (nm : ByteArray) (how k n : Int) (s : ByteArray) (hL : ColsAt w a L) :
    CB w a cap L nm how k n s ((w.alloc (.cells #[.slice a L.length cap] 30)).alloc (.cells #[.string nm, .int .i64 how, .int .i64 k, .int .i64 n, .string s] 34)) := by
  have hb : Below w.heap.size w ((w.alloc (.cells #[.slice a L.length cap] 30)).alloc (.cells #[.string nm, .int .i64 how, .int .i64 k, .int .i64 n, .string s] 34)) := ((Below.refl _ _).alloc (Nat.le_refl _) _).alloc (by simp) _
  refine ⟨?_, ?_, ?_, ?_, ?_, ?_, ?_, hL.keep hb, hb⟩
  all_goals go_simp

/-- Besides, the place of the column at A. -/
structure CP (w : World) (a : Option Addr) (cap : Nat) (L : List ACol) (nm : ByteArray) (how k n : Int) (s : ByteArray) (A : Nat) (p : Int) (W : World) : Prop where
  cb : CB w a cap L nm how k n s W
  at0 : W.cell? ⟨A, 0, none⟩ = some (.int .i64 p)
  lt : A < W.heap.size
theorem CP.keep {w : World} {a : Option Addr} {cap : Nat} {L : List ACol} {nm : ByteArray} {how k n : Int} {s : ByteArray} {A : Nat} {p : Int} {W W' : World} (h : CP w a cap L nm how k n s A p W) (hb : Below W.heap.size W W') : CP w a cap L nm how k n s A p W' :=
  ⟨h.cb.keep hb, by rw [(bcell hb).1 _ _ h.lt]; exact h.at0, by have := hb.size; have := h.lt; omega⟩
theorem CP.drew {w : World} {a : Option Addr} {cap : Nat} {L : List ACol} {nm : ByteArray} {how k n : Int} {s : ByteArray} {A : Nat} {p : Int} {W : World} (h : CP w a cap L nm how k n s A p W) : CP w a cap L nm how k n s A p W.drew := h.keep (Below.refl _ _).drew

/-- The test that impl.condTest gave lies in W. -/
structure TestAt (W : World) (a : Option Addr) (cap : Nat) (L : List ACol) (how k n : Int) (s : ByteArray) (p S H A B : Nat) : Prop where
  s0 : W.cell? ⟨S, 0, none⟩ = some (.slice a L.length cap)
  h0 : W.cell? ⟨H, 0, none⟩ = some (hasFn how B)
  a0 : W.cell? ⟨A, 0, none⟩ = some (.int .i64 p)
  has : HasAt W how k n s B
  sz : S < W.heap.size ∧ H < W.heap.size ∧ A < W.heap.size

/-- What impl.condTest answers. -/
def CondPost (a : Option Addr) (cap : Nat) (L : List ACol) (nm : ByteArray) (how k n : Int) (s : ByteArray) (w : World) (e : Ending) (w' : World) : Prop :=
  Below w.heap.size w w' ∧ ((condOk L nm how k n s = false ∧ e = .returned (.tuple #[.nilFunc, .bool false])) ∨
      (condOk L nm how k n s = true ∧ ∃ p S H A B, placeOf L nm = (p : Nat) ∧ p < L.length ∧ (how = 1 ∨ how = 2 ∨ how = 3) ∧ TestAt w' a cap L how k n s p S H A B ∧ e = .returned (.tuple #[.func (.func 34) #[] #[.pointer (some ⟨S, 0, none⟩), .pointer (some ⟨H, 0, none⟩), .pointer (some ⟨A, 0, none⟩)], .bool true])))

set_option maxRecDepth 100000 in
set_option maxHeartbeats 4000000 in
theorem cond_test (a : Option Addr) (cap : Nat) (L : List ACol) (nm : ByteArray) (how k n : Int) (s : ByteArray) (w : World) (hL : ColsAt w a L) (hf : ∀ c ∈ L, c.fit) (hm : L.length ≤ maxLen) (hks : s.size ≤ maxLen) (hnm : nm.size ≤ maxLen) :
    Calls Try.prog 24 #[.slice a L.length cap, .agg #[.string nm, .int .i64 how, .int .i64 k, .int .i64 n, .string s]] w fun e w' => CondPost a cap L nm how k n s w e w' := by
  have hmf : ∀ (fn : Fn) (first cap : Array Value) (w : World), (Instr.makeFunc fn first cap).run Try.prog w = .ok (.func fn first cap) w := fun _ _ _ _ => rfl
  have hB0 : Hid (CB w a cap L nm how k n s ((w.alloc (.cells #[.slice a L.length cap] 30)).alloc (.cells #[.string nm, .int .i64 how, .int .i64 k, .int .i64 n, .string s] 34))) := CB.start w a cap L nm how k n s hL
  clear hL
  go_enter Try.func24, Try.ntmps24
  go_wp2_with fail
  refine (impl_at _ _ _ _ _ hB0.out.cols hf hm hnm).mono ?_
  rintro e w1 ⟨rfl, hb⟩
  have hB1 : Hid (CB w a cap L nm how k n s w1) := hB0.out.keep hb
  clear hb hB0
  have hT : CP w a cap L nm how k n s w1.heap.size (shapeAt L nm) (w1.alloc (.cells #[.int .i64 (shapeAt L nm)] 3)) := ⟨hB1.out.keep ((Below.refl _ _).alloc (Nat.le_refl _) _), by go_simp, by simp⟩
  have hcol : Hid (0 ≤ shapeAt L nm → shapeOk L = true ∧ placeOf L nm = shapeAt L nm) := fun h => by
    unfold shapeAt at h ⊢
    cases hs : shapeOk L
    · rw [hs] at h; simp at h
    · simp
  have hneg : Hid (shapeAt L nm < 0 → condOk L nm how k n s = false) := fun h => by
    unfold shapeAt at h
    cases hs : shapeOk L
    · simp [condOk, hs]
    · rw [hs] at h
      simp only [if_true] at h
      rw [condOk, decide_eq_false (p := 0 ≤ placeOf L nm) (by omega)]
      simp
  clear hB1
  generalize shapeAt L nm = q at hT hcol hneg ⊢
  have inh : Nonempty (Over (CP w a cap L nm how k n s w1.heap.size q)) := ⟨⟨_, hT⟩⟩
  have g0 : ∀ p : Over (CP w a cap L nm how k n s w1.heap.size q), p.W.cell? ⟨w.heap.size, 0, none⟩ = some (.slice a L.length cap) := fun p => p.ok.cb.s0
  have g1 : ∀ p : Over (CP w a cap L nm how k n s w1.heap.size q), p.W.cell? ⟨w.heap.size + 1, 1, none⟩ = some (.int .i64 how) := fun p => p.ok.cb.c1
  have g2 : ∀ p : Over (CP w a cap L nm how k n s w1.heap.size q), p.W.cell? ⟨w.heap.size + 1, 2, none⟩ = some (.int .i64 k) := fun p => p.ok.cb.c2
  have g3 : ∀ p : Over (CP w a cap L nm how k n s w1.heap.size q), p.W.cell? ⟨w.heap.size + 1, 3, none⟩ = some (.int .i64 n) := fun p => p.ok.cb.c3
  have g4 : ∀ p : Over (CP w a cap L nm how k n s w1.heap.size q), p.W.cell? ⟨w.heap.size + 1, 4, none⟩ = some (.string s) := fun p => p.ok.cb.c4
  have g5 : ∀ p : Over (CP w a cap L nm how k n s w1.heap.size q), p.W.cell? ⟨w1.heap.size, 0, none⟩ = some (.int .i64 q) := fun p => p.ok.at0
  by_cases hq : 0 ≤ q
  rotate_left
  · have hN := hneg.out (by omega)
    have hq1 : decide (q < 0) = true := decide_eq_true (by omega)
    clear hneg hcol
    go_wp2_with fail
    refine wp_region_over (S := CP w a cap L nm how k n s w1.heap.size q) (by kernel_rfl) (by kernel_rfl) hT.drew ?_
    repeat (go_big_quiet_step (fail))
    refine wpQuiet_nil ?_
    rintro wq ⟨pp, hp⟩
    have hZ := pp.ok
    rw [← hp] at hZ
    clear hp pp g0 g1 g2 g3 g4 g5 inh hT
    go_wp2_with fail
    go_ret2
    exact ⟨hZ.cb.bl, Or.inl ⟨hN, rfl⟩⟩
  obtain ⟨hs, hpq⟩ := hcol.out hq
  obtain ⟨p, hpe, hlt⟩ := place_lt L nm (by omega)
  have hpq2 : q = (p : Int) := by omega
  subst hpq2
  have hkd : kindOf L nm = L[p].kd := by simp [kindOf, hpe, hlt]
  have hk0 := col_kind L p hs hlt
  have hgoal : Hid (condOk L nm how k n s = (valOk k n s && ((decide (1 ≤ how) && decide (how ≤ 3)) && (k == L[p].kd || (k == 0 && how == 1))))) := by
    unfold Hid condOk
    rw [hs, hkd, decide_eq_true (p := 0 ≤ placeOf L nm) (by omega)]
    simp
  obtain ⟨b1, o1, hab1, _, _⟩ := hT.cb.cols.at hlt
  have hix : ∀ wx, (Instr.indexAt 30 (.slice a L.length cap) (.int .i64 p)).run Try.prog wx = .ok (.pointer (some ⟨b1, o1 + p * 7, none⟩)) wx := fun wx => by
    rw [hab1]; exact run_ix _ _ _ _ _ _ _ wx hlt Try.underlying30 (Try.sizeOf53 wx)
  have g6 : ∀ p' : Over (CP w a cap L nm how k n s w1.heap.size (p : Int)), Cells7 p'.W b1 (o1 + p * 7) L[p] := fun p' => by
    obtain ⟨b2, o2, hab2, _, hr⟩ := p'.ok.cb.cols.at hlt
    rw [hab1] at hab2
    simp only [Option.some.injEq, Addr.mk.injEq] at hab2
    obtain ⟨rfl, rfl, _⟩ := hab2
    exact cells7_of hr
  have hP : Hid (placeOf L nm = (p : Int) ∧ p < L.length) := ⟨hpe, hlt⟩
  revert hk0 hgoal g6
  generalize L[p] = c
  intro hk0 hgoal g6
  have hfit : ∀ p' : Over (CP w a cap L nm how k n s w1.heap.size (p : Int)), Calls Try.prog 32 #[.agg #[.string c.nm, .int .i64 c.kd, .bool c.nd, .bool c.oc, .int .i64 c.k, .int .i64 c.n, .string c.s], .agg #[.int .i64 k, .int .i64 n, .string s]] p'.W fun e w' => e = .returned (.bool (fitsOk c.kd k n s)) ∧ Below p'.W.heap.size p'.W w' := fun p' => fits_ok _ _ _ _ _ _ _ _ _ _ _ hks
  have hq1 : decide ((p : Int) < 0) = false := decide_eq_false (by omega)
  clear hneg hcol hab1 hkd hpq hs hpe hq
  cases hfo : fitsOk c.kd k n s
  · rw [hfo] at hfit
    go_wp2_with fail
    refine wp_region_over (S := CP w a cap L nm how k n s w1.heap.size (p : Int)) (by kernel_rfl) (by kernel_rfl) hT.drew ?_
    repeat (go_big_quiet_step (exact over_call (hfit _) (fun _ h => CP.keep (Over.ok _) h)))
    refine wpQuiet_nil ?_
    rintro wq ⟨pp, hp⟩
    have hZ := pp.ok
    rw [← hp] at hZ
    clear hp pp g0 g1 g2 g3 g4 g5 g6 inh hT hfit
    go_wp2_with fail
    go_ret2
    refine ⟨hZ.cb.bl, Or.inl ⟨?_, rfl⟩⟩
    rw [hgoal.out]
    unfold fitsOk at hfo
    cases hv : valOk k n s
    · rfl
    · rw [hv] at hfo
      simp at hfo
      simp [hfo]
  rw [hfo] at hfit
  have hv : valOk k n s = true ∧ (k = 0 ∨ k = c.kd) := by
    unfold fitsOk at hfo
    simpa using hfo
  clear hfo
  by_cases hkk : k = 0 ∧ ¬ how = 1
  · obtain ⟨rfl, hh1⟩ := hkk
    have e2 : (how != 1) = true := by simp [hh1]
    go_wp2_with fail
    refine wp_region_over (S := CP w a cap L nm how 0 n s w1.heap.size (p : Int)) (by kernel_rfl) (by kernel_rfl) hT.drew ?_
    repeat (go_big_quiet_step (exact over_call (hfit _) (fun _ h => CP.keep (Over.ok _) h)))
    refine wpQuiet_nil ?_
    rintro wq ⟨pp, hp⟩
    have hZ := pp.ok
    rw [← hp] at hZ
    clear hp pp g0 g1 g2 g3 g4 g5 g6 inh hT hfit
    go_wp2_with fail
    go_ret2
    refine ⟨hZ.cb.bl, Or.inl ⟨?_, rfl⟩⟩
    rw [hgoal.out]
    have : (0 == c.kd) = false := by simp; omega
    simp [this, hh1]
  have e3 : ((k == 0) && (how != 1)) = false := by
    cases h0 : (k == 0)
    · rfl
    · simp only [Bool.true_and, bne_eq_false_iff_eq]
      exact Classical.byContradiction fun h => hkk ⟨by simpa using h0, h⟩
  cases e1 : (k == 0)
  · go_wp2_with fail
    refine wp_region_over (S := CP w a cap L nm how k n s w1.heap.size (p : Int)) (by kernel_rfl) (by kernel_rfl) hT.drew ?_
    repeat (go_big_quiet_step (exact over_call (hfit _) (fun _ h => CP.keep (Over.ok _) h)))
    refine wpQuiet_nil ?_
    rintro wq ⟨pp, hp⟩
    have hZ : Hid _ := pp.ok
    rw [← hp] at hZ
    clear hp pp g0 g1 g2 g3 g4 g5 g6 inh hT hfit
    by_cases hh : how = 1 ∨ how = 2 ∨ how = 3
    rotate_left
    · have z1 := hZ.out.cb.c1
      have z2 := hZ.out.cb.c2
      have z3 := hZ.out.cb.c3
      have z4 := hZ.out.cb.c4
      go_wp2_with fail
      refine (how_none _ _ _ _ _ (by omega) (by omega) (by omega)).mono ?_
      rintro e w2 ⟨rfl, hb⟩
      have hY : Hid (Below w.heap.size w w2) := (hZ.out.keep hb).cb.bl
      clear z1 z2 z3 z4 hb hZ
      go_wp2_with fail
      go_ret2
      refine ⟨hY.out.alloc hY.out.size _, Or.inl ⟨?_, rfl⟩⟩
      rw [hgoal.out]
      have : (decide (1 ≤ how) && decide (how ≤ 3)) = false := by
        rw [Bool.and_eq_false_iff, decide_eq_false_iff_not, decide_eq_false_iff_not]
        omega
      rw [this]
      simp
    · rcases hh with rfl | rfl | rfl
      all_goals
        have z1 := hZ.out.cb.c1
        have z2 := hZ.out.cb.c2
        have z3 := hZ.out.cb.c3
        have z4 := hZ.out.cb.c4
        go_wp2_with fail
        refine (how_test _ _ _ _ _ (by omega)).mono ?_
        rintro e w2 ⟨rfl, hA, hb⟩
        have hY : Hid (CP w a cap L nm _ k n s w1.heap.size (p : Int) w2) := hZ.out.keep hb
        have hA2 : Hid (HasAt w2 _ k n s wq.heap.size) := hA
        clear z1 z2 z3 z4 hb hZ hA
        unfold hasFn
        go_wp2_with fail
        go_ret2
        have hb2 : ∀ o, Below w2.heap.size w2 (w2.alloc o) := fun o => (Below.refl _ _).alloc (Nat.le_refl _) o
        have hz := hY.out.cb.sz
        have hz2 := hY.out.lt
        refine ⟨(hY.out.keep (hb2 _)).cb.bl, Or.inr ⟨?_, p, w.heap.size, w2.heap.size, w1.heap.size, wq.heap.size, hP.out.1, hP.out.2, by simp, ⟨(hY.out.keep (hb2 _)).cb.s0, ?_, (hY.out.keep (hb2 _)).at0, hA2.out.keep (hb2 _), ?_⟩, rfl⟩⟩
        · rw [hgoal.out, hv.1]
          rcases hv.2 with h | h <;> simp_all
        · go_simp
          rfl
        · simp; omega
  · have hkz : k = 0 := by simpa using e1
    subst hkz
    have hh1 : how = 1 := Classical.byContradiction fun h => hkk ⟨rfl, h⟩
    subst hh1
    clear hkk e3 e1
    go_wp2_with fail
    refine wp_region_over (S := CP w a cap L nm 1 0 n s w1.heap.size (p : Int)) (by kernel_rfl) (by kernel_rfl) hT.drew ?_
    repeat (go_big_quiet_step (exact over_call (hfit _) (fun _ h => CP.keep (Over.ok _) h)))
    refine wpQuiet_nil ?_
    rintro wq ⟨pp, hp⟩
    have hZ : Hid _ := pp.ok
    rw [← hp] at hZ
    clear hp pp g0 g1 g2 g3 g4 g5 g6 inh hT hfit
    have z1 := hZ.out.cb.c1
    have z2 := hZ.out.cb.c2
    have z3 := hZ.out.cb.c3
    have z4 := hZ.out.cb.c4
    go_wp2_with fail
    refine (how_test _ _ _ _ _ (by omega)).mono ?_
    rintro e w2 ⟨rfl, hA, hb⟩
    have hY : Hid (CP w a cap L nm _ 0 n s w1.heap.size (p : Int) w2) := hZ.out.keep hb
    have hA2 : Hid (HasAt w2 _ 0 n s wq.heap.size) := hA
    clear z1 z2 z3 z4 hb hZ hA
    unfold hasFn
    go_wp2_with fail
    go_ret2
    have hb2 : ∀ o, Below w2.heap.size w2 (w2.alloc o) := fun o => (Below.refl _ _).alloc (Nat.le_refl _) o
    have hz := hY.out.cb.sz
    have hz2 := hY.out.lt
    refine ⟨(hY.out.keep (hb2 _)).cb.bl, Or.inr ⟨?_, p, w.heap.size, w2.heap.size, w1.heap.size, wq.heap.size, hP.out.1, hP.out.2, by simp, ⟨(hY.out.keep (hb2 _)).cb.s0, ?_, (hY.out.keep (hb2 _)).at0, hA2.out.keep (hb2 _), ?_⟩, rfl⟩⟩
    · rw [hgoal.out, hv.1]
      simp
    · go_simp
      rfl
    · simp; omega

end Go.Proofs.Ytmlclmilchfihaa
