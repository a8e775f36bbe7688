/- The contract of impl.deedOf at what is put, set and taken off, over the seat's translation. -/
import Derived.Test.YtacindondkcaiaaGreatAcI5
namespace Go.Proofs.YtacindondkcaiaaGreat
open Go.RowKit

set_option maxRecDepth 100000 in
set_option maxHeartbeats 4000000 in
theorem deed_put (x : AAct) (a0 a1 : Option Addr) (c0 c1 : Nat) (w : World) (hT : ActAt w a0 a1 x) (hf : x.fit) (h3 : (x.kd == 3) = true) :
    Calls Tryz.prog 23 #[.agg #[.int .i64 x.kd, .string x.nm, .int .i64 x.id, .slice a0 x.sets.length c0, .slice a1 x.cols.length c1, .int .i64 x.g.kd, .string x.g.nm, .string x.g.nw, .string x.g.c.nm, .int .i64 x.g.c.kd, .bool x.g.c.nd, .bool x.g.c.oc, .int .i64 x.g.c.k, .int .i64 x.g.c.n, .string x.g.c.s, .string x.l.fr, .string x.l.co, .string x.l.tt, .int .i64 x.l.hw]] w fun e w' => (∃ v, e = .returned (.tuple #[v, .bool (implAct x)])) ∧ Below w.heap.size w w' := by
  have hS : DeedIn w x a0 c0 a1 c1 (w.alloc (.cells #[.int .i64 x.kd, .string x.nm, .int .i64 x.id, .slice a0 x.sets.length c0, .slice a1 x.cols.length c1, .int .i64 x.g.kd, .string x.g.nm, .string x.g.nw, .string x.g.c.nm, .int .i64 x.g.c.kd, .bool x.g.c.nd, .bool x.g.c.oc, .int .i64 x.g.c.k, .int .i64 x.g.c.n, .string x.g.c.s, .string x.l.fr, .string x.l.co, .string x.l.tt, .int .i64 x.l.hw] 45)) := DeedIn.start x a0 a1 c0 c1 w hT
  have HS : Hid (DeedIn w x a0 c0 a1 c1 (w.alloc (.cells #[.int .i64 x.kd, .string x.nm, .int .i64 x.id, .slice a0 x.sets.length c0, .slice a1 x.cols.length c1, .int .i64 x.g.kd, .string x.g.nm, .string x.g.nw, .string x.g.c.nm, .int .i64 x.g.c.kd, .bool x.g.c.nd, .bool x.g.c.oc, .int .i64 x.g.c.k, .int .i64 x.g.c.n, .string x.g.c.s, .string x.l.fr, .string x.l.co, .string x.l.tt, .int .i64 x.l.hw] 45))) := hS
  clear hS
  have HF : Hid x.fit := hf
  clear hf hT
  have inh : Nonempty (Over (DeedIn w x a0 c0 a1 c1)) := ⟨⟨_, HS.out⟩⟩
  have g0 : ∀ W, (∃ p : Over (DeedIn w x a0 c0 a1 c1), W = p.W) → W.rangeAt w.heap.size 0 [.int .i64 x.kd, .string x.nm, .int .i64 x.id, .slice a0 x.sets.length c0, .slice a1 x.cols.length c1, .int .i64 x.g.kd, .string x.g.nm, .string x.g.nw, .string x.g.c.nm, .int .i64 x.g.c.kd, .bool x.g.c.nd, .bool x.g.c.oc, .int .i64 x.g.c.k, .int .i64 x.g.c.n, .string x.g.c.s, .string x.l.fr, .string x.l.co, .string x.l.tt, .int .i64 x.l.hw] := fun W ⟨p, e⟩ => e ▸ p.ok.1.1
  have G0 : Hid (∀ W, (∃ p : Over (DeedIn w x a0 c0 a1 c1), W = p.W) → W.rangeAt w.heap.size 0 [.int .i64 x.kd, .string x.nm, .int .i64 x.id, .slice a0 x.sets.length c0, .slice a1 x.cols.length c1, .int .i64 x.g.kd, .string x.g.nm, .string x.g.nw, .string x.g.c.nm, .int .i64 x.g.c.kd, .bool x.g.c.nd, .bool x.g.c.oc, .int .i64 x.g.c.k, .int .i64 x.g.c.n, .string x.g.c.s, .string x.l.fr, .string x.l.co, .string x.l.tt, .int .i64 x.l.hw]) := g0
  clear g0
  have hm1 := m_put_ok x.nm a0 x.sets.length c0
  have hm2 := m_put_act x.nm a0 x.sets.length c0
  have hv : implAct x = (nameOk x.nm && (decide (x.sets.length ≤ 5) && x.sets.all ASet.ok) && actSame (⟨3, x.nm, 0, x.sets, [], chg0, lnk0⟩) x) := by simp [implAct, implDeed, deedAct, beq_iff_eq.1 h3]
  rw [hv]
  have h1 : (x.kd == 1) = false := by simp [beq_iff_eq.1 h3]
  have h2 : (x.kd == 2) = false := by simp [beq_iff_eq.1 h3]
  have hcon : ∀ p : Over (DeedIn w x a0 c0 a1 c1), Calls Tryz.prog 78 #[.agg #[.string x.nm, .slice a0 x.sets.length c0]] p.W fun e w' => e = .returned (.bool (nameOk x.nm && (decide (x.sets.length ≤ 5) && x.sets.all ASet.ok))) ∧ Below p.W.heap.size p.W w' := fun p => put_ok x.nm a0 c0 x.sets p.W p.ok.2.1 HF.out.1 HF.out.2.1.1 HF.out.2.1.2
  have hact : ∀ p : Over (DeedIn w x a0 c0 a1 c1), Calls Tryz.prog 76 #[.agg #[.string x.nm, .slice a0 x.sets.length c0]] p.W fun e w' => e = .returned (.agg #[.int .i64 3, .string x.nm, .int .i64 0, .slice a0 x.sets.length c0, .slice none 0 0, .int .i64 0, .string ⟨#[]⟩, .string ⟨#[]⟩, .string ⟨#[]⟩, .int .i64 0, .bool false, .bool false, .int .i64 0, .int .i64 0, .string ⟨#[]⟩, .string ⟨#[]⟩, .string ⟨#[]⟩, .string ⟨#[]⟩, .int .i64 0]) ∧ Below p.W.heap.size p.W w' := fun p => put_act x.nm a0 x.sets.length c0 p.W
  have hsam : ∀ p : Over (DeedIn w x a0 c0 a1 c1), Calls Tryz.prog 35 #[.agg #[.int .i64 3, .string x.nm, .int .i64 0, .slice a0 x.sets.length c0, .slice none 0 0, .int .i64 0, .string ⟨#[]⟩, .string ⟨#[]⟩, .string ⟨#[]⟩, .int .i64 0, .bool false, .bool false, .int .i64 0, .int .i64 0, .string ⟨#[]⟩, .string ⟨#[]⟩, .string ⟨#[]⟩, .string ⟨#[]⟩, .int .i64 0], .agg #[.int .i64 x.kd, .string x.nm, .int .i64 x.id, .slice a0 x.sets.length c0, .slice a1 x.cols.length c1, .int .i64 x.g.kd, .string x.g.nm, .string x.g.nw, .string x.g.c.nm, .int .i64 x.g.c.kd, .bool x.g.c.nd, .bool x.g.c.oc, .int .i64 x.g.c.k, .int .i64 x.g.c.n, .string x.g.c.s, .string x.l.fr, .string x.l.co, .string x.l.tt, .int .i64 x.l.hw]] p.W fun e w' => e = .returned (.bool (actSame (⟨3, x.nm, 0, x.sets, [], chg0, lnk0⟩) x)) ∧ Below p.W.heap.size p.W w' := fun p => act_same (⟨3, x.nm, 0, x.sets, [], chg0, lnk0⟩) x a0 none a0 a1 c0 0 c0 c1 p.W ⟨p.ok.2.1, Or.inl rfl⟩ p.ok.2 ⟨HF.out.2.1.2, by simp, HF.out.2.1.2, HF.out.2.2.1.2⟩
  cases hok : (nameOk x.nm && (decide (x.sets.length ≤ 5) && x.sets.all ASet.ok))
  case false =>
    rw [hok] at hcon
    go_enter Tryz.func23, Tryz.ntmps23
    go_wp2_with fail
    refine wp_region_over (S := DeedIn w x a0 c0 a1 c1) (by kernel_rfl) (by kernel_rfl) (HS.out.next (Below.refl _ _).drew) ?_
    repeat (first | (refine quiet_ld rfl _ rfl _ rfl _ G0.out rfl _ rfl ?_; simp only [Act.put, List.setIfInBounds_toArray, List.set_cons_succ, List.set_cons_zero]) | go_big_quiet_step (first | exact over_call (hcon _) (fun _ h => DeedIn.next (Over.ok _) h) | exact over_call (hact _) (fun _ h => DeedIn.next (Over.ok _) h) | exact over_call (hsam _) (fun _ h => DeedIn.next (Over.ok _) h)))
    refine wpQuiet_nil ?_
    rintro wq ⟨pp, hp⟩
    have hZ := pp.ok
    rw [← hp] at hZ
    have hK : Hid (Below w.heap.size w wq) := hZ.1.2.2
    clear hp pp G0 inh hZ hcon hact hsam
    go_wp2_with fail
    go_ret2
    exact ⟨⟨_, rfl⟩, hK.out⟩
  case true =>
    rw [hok] at hcon
    go_enter Tryz.func23, Tryz.ntmps23
    go_wp2_with fail
    refine wp_region_over (S := DeedIn w x a0 c0 a1 c1) (by kernel_rfl) (by kernel_rfl) (HS.out.next (Below.refl _ _).drew) ?_
    repeat (first | (refine quiet_ld rfl _ rfl _ rfl _ G0.out rfl _ rfl ?_; simp only [Act.put, List.setIfInBounds_toArray, List.set_cons_succ, List.set_cons_zero]) | go_big_quiet_step (first | exact over_call (hcon _) (fun _ h => DeedIn.next (Over.ok _) h) | exact over_call (hact _) (fun _ h => DeedIn.next (Over.ok _) h) | exact over_call (hsam _) (fun _ h => DeedIn.next (Over.ok _) h)))
    refine wpQuiet_nil ?_
    rintro wq ⟨pp, hp⟩
    have hZ := pp.ok
    rw [← hp] at hZ
    have hK : Hid (Below w.heap.size w wq) := hZ.1.2.2
    clear hp pp G0 inh hZ hcon hact hsam
    go_wp2_with fail
    go_ret2
    exact ⟨⟨_, rfl⟩, hK.out⟩

set_option maxRecDepth 100000 in
set_option maxHeartbeats 4000000 in
theorem deed_setd (x : AAct) (a0 a1 : Option Addr) (c0 c1 : Nat) (w : World) (hT : ActAt w a0 a1 x) (hf : x.fit) (h4 : (x.kd == 4) = true) :
    Calls Tryz.prog 23 #[.agg #[.int .i64 x.kd, .string x.nm, .int .i64 x.id, .slice a0 x.sets.length c0, .slice a1 x.cols.length c1, .int .i64 x.g.kd, .string x.g.nm, .string x.g.nw, .string x.g.c.nm, .int .i64 x.g.c.kd, .bool x.g.c.nd, .bool x.g.c.oc, .int .i64 x.g.c.k, .int .i64 x.g.c.n, .string x.g.c.s, .string x.l.fr, .string x.l.co, .string x.l.tt, .int .i64 x.l.hw]] w fun e w' => (∃ v, e = .returned (.tuple #[v, .bool (implAct x)])) ∧ Below w.heap.size w w' := by
  have hS : DeedIn w x a0 c0 a1 c1 (w.alloc (.cells #[.int .i64 x.kd, .string x.nm, .int .i64 x.id, .slice a0 x.sets.length c0, .slice a1 x.cols.length c1, .int .i64 x.g.kd, .string x.g.nm, .string x.g.nw, .string x.g.c.nm, .int .i64 x.g.c.kd, .bool x.g.c.nd, .bool x.g.c.oc, .int .i64 x.g.c.k, .int .i64 x.g.c.n, .string x.g.c.s, .string x.l.fr, .string x.l.co, .string x.l.tt, .int .i64 x.l.hw] 45)) := DeedIn.start x a0 a1 c0 c1 w hT
  have HS : Hid (DeedIn w x a0 c0 a1 c1 (w.alloc (.cells #[.int .i64 x.kd, .string x.nm, .int .i64 x.id, .slice a0 x.sets.length c0, .slice a1 x.cols.length c1, .int .i64 x.g.kd, .string x.g.nm, .string x.g.nw, .string x.g.c.nm, .int .i64 x.g.c.kd, .bool x.g.c.nd, .bool x.g.c.oc, .int .i64 x.g.c.k, .int .i64 x.g.c.n, .string x.g.c.s, .string x.l.fr, .string x.l.co, .string x.l.tt, .int .i64 x.l.hw] 45))) := hS
  clear hS
  have HF : Hid x.fit := hf
  clear hf hT
  have inh : Nonempty (Over (DeedIn w x a0 c0 a1 c1)) := ⟨⟨_, HS.out⟩⟩
  have g0 : ∀ W, (∃ p : Over (DeedIn w x a0 c0 a1 c1), W = p.W) → W.rangeAt w.heap.size 0 [.int .i64 x.kd, .string x.nm, .int .i64 x.id, .slice a0 x.sets.length c0, .slice a1 x.cols.length c1, .int .i64 x.g.kd, .string x.g.nm, .string x.g.nw, .string x.g.c.nm, .int .i64 x.g.c.kd, .bool x.g.c.nd, .bool x.g.c.oc, .int .i64 x.g.c.k, .int .i64 x.g.c.n, .string x.g.c.s, .string x.l.fr, .string x.l.co, .string x.l.tt, .int .i64 x.l.hw] := fun W ⟨p, e⟩ => e ▸ p.ok.1.1
  have G0 : Hid (∀ W, (∃ p : Over (DeedIn w x a0 c0 a1 c1), W = p.W) → W.rangeAt w.heap.size 0 [.int .i64 x.kd, .string x.nm, .int .i64 x.id, .slice a0 x.sets.length c0, .slice a1 x.cols.length c1, .int .i64 x.g.kd, .string x.g.nm, .string x.g.nw, .string x.g.c.nm, .int .i64 x.g.c.kd, .bool x.g.c.nd, .bool x.g.c.oc, .int .i64 x.g.c.k, .int .i64 x.g.c.n, .string x.g.c.s, .string x.l.fr, .string x.l.co, .string x.l.tt, .int .i64 x.l.hw]) := g0
  clear g0
  have hm1 := m_setd_ok x.nm x.id a0 x.sets.length c0
  have hm2 := m_setd_act x.nm x.id a0 x.sets.length c0
  have hv : implAct x = (nameOk x.nm && (idOk x.id && (decide (x.sets.length ≤ 5) && x.sets.all ASet.ok)) && actSame (⟨4, x.nm, x.id, x.sets, [], chg0, lnk0⟩) x) := by simp [implAct, implDeed, deedAct, beq_iff_eq.1 h4]
  rw [hv]
  have h1 : (x.kd == 1) = false := by simp [beq_iff_eq.1 h4]
  have h2 : (x.kd == 2) = false := by simp [beq_iff_eq.1 h4]
  have h3 : (x.kd == 3) = false := by simp [beq_iff_eq.1 h4]
  have hcon : ∀ p : Over (DeedIn w x a0 c0 a1 c1), Calls Tryz.prog 85 #[.agg #[.string x.nm, .int .i64 x.id, .slice a0 x.sets.length c0]] p.W fun e w' => e = .returned (.bool (nameOk x.nm && (idOk x.id && (decide (x.sets.length ≤ 5) && x.sets.all ASet.ok)))) ∧ Below p.W.heap.size p.W w' := fun p => setd_ok x.nm x.id a0 c0 x.sets p.W p.ok.2.1 HF.out.1 HF.out.2.1.1 HF.out.2.1.2
  have hact : ∀ p : Over (DeedIn w x a0 c0 a1 c1), Calls Tryz.prog 83 #[.agg #[.string x.nm, .int .i64 x.id, .slice a0 x.sets.length c0]] p.W fun e w' => e = .returned (.agg #[.int .i64 4, .string x.nm, .int .i64 x.id, .slice a0 x.sets.length c0, .slice none 0 0, .int .i64 0, .string ⟨#[]⟩, .string ⟨#[]⟩, .string ⟨#[]⟩, .int .i64 0, .bool false, .bool false, .int .i64 0, .int .i64 0, .string ⟨#[]⟩, .string ⟨#[]⟩, .string ⟨#[]⟩, .string ⟨#[]⟩, .int .i64 0]) ∧ Below p.W.heap.size p.W w' := fun p => setd_act x.nm x.id a0 x.sets.length c0 p.W
  have hsam : ∀ p : Over (DeedIn w x a0 c0 a1 c1), Calls Tryz.prog 35 #[.agg #[.int .i64 4, .string x.nm, .int .i64 x.id, .slice a0 x.sets.length c0, .slice none 0 0, .int .i64 0, .string ⟨#[]⟩, .string ⟨#[]⟩, .string ⟨#[]⟩, .int .i64 0, .bool false, .bool false, .int .i64 0, .int .i64 0, .string ⟨#[]⟩, .string ⟨#[]⟩, .string ⟨#[]⟩, .string ⟨#[]⟩, .int .i64 0], .agg #[.int .i64 x.kd, .string x.nm, .int .i64 x.id, .slice a0 x.sets.length c0, .slice a1 x.cols.length c1, .int .i64 x.g.kd, .string x.g.nm, .string x.g.nw, .string x.g.c.nm, .int .i64 x.g.c.kd, .bool x.g.c.nd, .bool x.g.c.oc, .int .i64 x.g.c.k, .int .i64 x.g.c.n, .string x.g.c.s, .string x.l.fr, .string x.l.co, .string x.l.tt, .int .i64 x.l.hw]] p.W fun e w' => e = .returned (.bool (actSame (⟨4, x.nm, x.id, x.sets, [], chg0, lnk0⟩) x)) ∧ Below p.W.heap.size p.W w' := fun p => act_same (⟨4, x.nm, x.id, x.sets, [], chg0, lnk0⟩) x a0 none a0 a1 c0 0 c0 c1 p.W ⟨p.ok.2.1, Or.inl rfl⟩ p.ok.2 ⟨HF.out.2.1.2, by simp, HF.out.2.1.2, HF.out.2.2.1.2⟩
  cases hok : (nameOk x.nm && (idOk x.id && (decide (x.sets.length ≤ 5) && x.sets.all ASet.ok)))
  case false =>
    rw [hok] at hcon
    go_enter Tryz.func23, Tryz.ntmps23
    go_wp2_with fail
    refine wp_region_over (S := DeedIn w x a0 c0 a1 c1) (by kernel_rfl) (by kernel_rfl) (HS.out.next (Below.refl _ _).drew) ?_
    repeat (first | (refine quiet_ld rfl _ rfl _ rfl _ G0.out rfl _ rfl ?_; simp only [Act.put, List.setIfInBounds_toArray, List.set_cons_succ, List.set_cons_zero]) | go_big_quiet_step (first | exact over_call (hcon _) (fun _ h => DeedIn.next (Over.ok _) h) | exact over_call (hact _) (fun _ h => DeedIn.next (Over.ok _) h) | exact over_call (hsam _) (fun _ h => DeedIn.next (Over.ok _) h)))
    refine wpQuiet_nil ?_
    rintro wq ⟨pp, hp⟩
    have hZ := pp.ok
    rw [← hp] at hZ
    have hK : Hid (Below w.heap.size w wq) := hZ.1.2.2
    clear hp pp G0 inh hZ hcon hact hsam
    go_wp2_with fail
    go_ret2
    exact ⟨⟨_, rfl⟩, hK.out⟩
  case true =>
    rw [hok] at hcon
    go_enter Tryz.func23, Tryz.ntmps23
    go_wp2_with fail
    refine wp_region_over (S := DeedIn w x a0 c0 a1 c1) (by kernel_rfl) (by kernel_rfl) (HS.out.next (Below.refl _ _).drew) ?_
    repeat (first | (refine quiet_ld rfl _ rfl _ rfl _ G0.out rfl _ rfl ?_; simp only [Act.put, List.setIfInBounds_toArray, List.set_cons_succ, List.set_cons_zero]) | go_big_quiet_step (first | exact over_call (hcon _) (fun _ h => DeedIn.next (Over.ok _) h) | exact over_call (hact _) (fun _ h => DeedIn.next (Over.ok _) h) | exact over_call (hsam _) (fun _ h => DeedIn.next (Over.ok _) h)))
    refine wpQuiet_nil ?_
    rintro wq ⟨pp, hp⟩
    have hZ := pp.ok
    rw [← hp] at hZ
    have hK : Hid (Below w.heap.size w wq) := hZ.1.2.2
    clear hp pp G0 inh hZ hcon hact hsam
    go_wp2_with fail
    go_ret2
    exact ⟨⟨_, rfl⟩, hK.out⟩

set_option maxRecDepth 100000 in
set_option maxHeartbeats 4000000 in
theorem deed_off (x : AAct) (a0 a1 : Option Addr) (c0 c1 : Nat) (w : World) (hT : ActAt w a0 a1 x) (hf : x.fit) (h5 : (x.kd == 5) = true) :
    Calls Tryz.prog 23 #[.agg #[.int .i64 x.kd, .string x.nm, .int .i64 x.id, .slice a0 x.sets.length c0, .slice a1 x.cols.length c1, .int .i64 x.g.kd, .string x.g.nm, .string x.g.nw, .string x.g.c.nm, .int .i64 x.g.c.kd, .bool x.g.c.nd, .bool x.g.c.oc, .int .i64 x.g.c.k, .int .i64 x.g.c.n, .string x.g.c.s, .string x.l.fr, .string x.l.co, .string x.l.tt, .int .i64 x.l.hw]] w fun e w' => (∃ v, e = .returned (.tuple #[v, .bool (implAct x)])) ∧ Below w.heap.size w w' := by
  have hS : DeedIn w x a0 c0 a1 c1 (w.alloc (.cells #[.int .i64 x.kd, .string x.nm, .int .i64 x.id, .slice a0 x.sets.length c0, .slice a1 x.cols.length c1, .int .i64 x.g.kd, .string x.g.nm, .string x.g.nw, .string x.g.c.nm, .int .i64 x.g.c.kd, .bool x.g.c.nd, .bool x.g.c.oc, .int .i64 x.g.c.k, .int .i64 x.g.c.n, .string x.g.c.s, .string x.l.fr, .string x.l.co, .string x.l.tt, .int .i64 x.l.hw] 45)) := DeedIn.start x a0 a1 c0 c1 w hT
  have HS : Hid (DeedIn w x a0 c0 a1 c1 (w.alloc (.cells #[.int .i64 x.kd, .string x.nm, .int .i64 x.id, .slice a0 x.sets.length c0, .slice a1 x.cols.length c1, .int .i64 x.g.kd, .string x.g.nm, .string x.g.nw, .string x.g.c.nm, .int .i64 x.g.c.kd, .bool x.g.c.nd, .bool x.g.c.oc, .int .i64 x.g.c.k, .int .i64 x.g.c.n, .string x.g.c.s, .string x.l.fr, .string x.l.co, .string x.l.tt, .int .i64 x.l.hw] 45))) := hS
  clear hS
  have HF : Hid x.fit := hf
  clear hf hT
  have inh : Nonempty (Over (DeedIn w x a0 c0 a1 c1)) := ⟨⟨_, HS.out⟩⟩
  have g0 : ∀ W, (∃ p : Over (DeedIn w x a0 c0 a1 c1), W = p.W) → W.rangeAt w.heap.size 0 [.int .i64 x.kd, .string x.nm, .int .i64 x.id, .slice a0 x.sets.length c0, .slice a1 x.cols.length c1, .int .i64 x.g.kd, .string x.g.nm, .string x.g.nw, .string x.g.c.nm, .int .i64 x.g.c.kd, .bool x.g.c.nd, .bool x.g.c.oc, .int .i64 x.g.c.k, .int .i64 x.g.c.n, .string x.g.c.s, .string x.l.fr, .string x.l.co, .string x.l.tt, .int .i64 x.l.hw] := fun W ⟨p, e⟩ => e ▸ p.ok.1.1
  have G0 : Hid (∀ W, (∃ p : Over (DeedIn w x a0 c0 a1 c1), W = p.W) → W.rangeAt w.heap.size 0 [.int .i64 x.kd, .string x.nm, .int .i64 x.id, .slice a0 x.sets.length c0, .slice a1 x.cols.length c1, .int .i64 x.g.kd, .string x.g.nm, .string x.g.nw, .string x.g.c.nm, .int .i64 x.g.c.kd, .bool x.g.c.nd, .bool x.g.c.oc, .int .i64 x.g.c.k, .int .i64 x.g.c.n, .string x.g.c.s, .string x.l.fr, .string x.l.co, .string x.l.tt, .int .i64 x.l.hw]) := g0
  clear g0
  have hm1 := m_off_ok x.nm x.id
  have hm2 := m_off_act x.nm x.id
  have hv : implAct x = (nameOk x.nm && idOk x.id && actSame (⟨5, x.nm, x.id, [], [], chg0, lnk0⟩) x) := by simp [implAct, implDeed, deedAct, beq_iff_eq.1 h5]
  rw [hv]
  have h1 : (x.kd == 1) = false := by simp [beq_iff_eq.1 h5]
  have h2 : (x.kd == 2) = false := by simp [beq_iff_eq.1 h5]
  have h3 : (x.kd == 3) = false := by simp [beq_iff_eq.1 h5]
  have h4 : (x.kd == 4) = false := by simp [beq_iff_eq.1 h5]
  have hcon : ∀ p : Over (DeedIn w x a0 c0 a1 c1), Calls Tryz.prog 90 #[.agg #[.string x.nm, .int .i64 x.id]] p.W fun e w' => e = .returned (.bool (nameOk x.nm && idOk x.id)) ∧ Below p.W.heap.size p.W w' := fun p => off_ok x.nm x.id p.W HF.out.1
  have hact : ∀ p : Over (DeedIn w x a0 c0 a1 c1), Calls Tryz.prog 88 #[.agg #[.string x.nm, .int .i64 x.id]] p.W fun e w' => e = .returned (.agg #[.int .i64 5, .string x.nm, .int .i64 x.id, .slice none 0 0, .slice none 0 0, .int .i64 0, .string ⟨#[]⟩, .string ⟨#[]⟩, .string ⟨#[]⟩, .int .i64 0, .bool false, .bool false, .int .i64 0, .int .i64 0, .string ⟨#[]⟩, .string ⟨#[]⟩, .string ⟨#[]⟩, .string ⟨#[]⟩, .int .i64 0]) ∧ Below p.W.heap.size p.W w' := fun p => off_act x.nm x.id p.W
  have hsam : ∀ p : Over (DeedIn w x a0 c0 a1 c1), Calls Tryz.prog 35 #[.agg #[.int .i64 5, .string x.nm, .int .i64 x.id, .slice none 0 0, .slice none 0 0, .int .i64 0, .string ⟨#[]⟩, .string ⟨#[]⟩, .string ⟨#[]⟩, .int .i64 0, .bool false, .bool false, .int .i64 0, .int .i64 0, .string ⟨#[]⟩, .string ⟨#[]⟩, .string ⟨#[]⟩, .string ⟨#[]⟩, .int .i64 0], .agg #[.int .i64 x.kd, .string x.nm, .int .i64 x.id, .slice a0 x.sets.length c0, .slice a1 x.cols.length c1, .int .i64 x.g.kd, .string x.g.nm, .string x.g.nw, .string x.g.c.nm, .int .i64 x.g.c.kd, .bool x.g.c.nd, .bool x.g.c.oc, .int .i64 x.g.c.k, .int .i64 x.g.c.n, .string x.g.c.s, .string x.l.fr, .string x.l.co, .string x.l.tt, .int .i64 x.l.hw]] p.W fun e w' => e = .returned (.bool (actSame (⟨5, x.nm, x.id, [], [], chg0, lnk0⟩) x)) ∧ Below p.W.heap.size p.W w' := fun p => act_same (⟨5, x.nm, x.id, [], [], chg0, lnk0⟩) x none none a0 a1 0 0 c0 c1 p.W ⟨Or.inl rfl, Or.inl rfl⟩ p.ok.2 ⟨by simp, by simp, HF.out.2.1.2, HF.out.2.2.1.2⟩
  cases hok : (nameOk x.nm && idOk x.id)
  case false =>
    rw [hok] at hcon
    go_enter Tryz.func23, Tryz.ntmps23
    go_wp2_with fail
    refine wp_region_over (S := DeedIn w x a0 c0 a1 c1) (by kernel_rfl) (by kernel_rfl) (HS.out.next (Below.refl _ _).drew) ?_
    repeat (first | (refine quiet_ld rfl _ rfl _ rfl _ G0.out rfl _ rfl ?_; simp only [Act.put, List.setIfInBounds_toArray, List.set_cons_succ, List.set_cons_zero]) | go_big_quiet_step (first | exact over_call (hcon _) (fun _ h => DeedIn.next (Over.ok _) h) | exact over_call (hact _) (fun _ h => DeedIn.next (Over.ok _) h) | exact over_call (hsam _) (fun _ h => DeedIn.next (Over.ok _) h)))
    refine wpQuiet_nil ?_
    rintro wq ⟨pp, hp⟩
    have hZ := pp.ok
    rw [← hp] at hZ
    have hK : Hid (Below w.heap.size w wq) := hZ.1.2.2
    clear hp pp G0 inh hZ hcon hact hsam
    go_wp2_with fail
    go_ret2
    exact ⟨⟨_, rfl⟩, hK.out⟩
  case true =>
    rw [hok] at hcon
    go_enter Tryz.func23, Tryz.ntmps23
    go_wp2_with fail
    refine wp_region_over (S := DeedIn w x a0 c0 a1 c1) (by kernel_rfl) (by kernel_rfl) (HS.out.next (Below.refl _ _).drew) ?_
    repeat (first | (refine quiet_ld rfl _ rfl _ rfl _ G0.out rfl _ rfl ?_; simp only [Act.put, List.setIfInBounds_toArray, List.set_cons_succ, List.set_cons_zero]) | go_big_quiet_step (first | exact over_call (hcon _) (fun _ h => DeedIn.next (Over.ok _) h) | exact over_call (hact _) (fun _ h => DeedIn.next (Over.ok _) h) | exact over_call (hsam _) (fun _ h => DeedIn.next (Over.ok _) h)))
    refine wpQuiet_nil ?_
    rintro wq ⟨pp, hp⟩
    have hZ := pp.ok
    rw [← hp] at hZ
    have hK : Hid (Below w.heap.size w wq) := hZ.1.2.2
    clear hp pp G0 inh hZ hcon hact hsam
    go_wp2_with fail
    go_ret2
    exact ⟨⟨_, rfl⟩, hK.out⟩

end Go.Proofs.YtacindondkcaiaaGreat
