/- The contract of impl.deedOf at a column that is named otherwise and made of another kind, over the seat's translation. -/
import Derived.Test.YtacindondkcaiaaGreatAcI7
namespace Go.Proofs.YtacindondkcaiaaGreat
open Go.RowKit

set_option maxRecDepth 100000 in
set_option maxHeartbeats 4000000 in
theorem deed_named (x : AAct) (a0 a1 : Option Addr) (c0 c1 : Nat) (w : World) (hT : ActAt w a0 a1 x) (hf : x.fit) (h6 : (x.kd == 6) = true) (g3 : (x.g.kd == 3) = true) :
    Calls Tryz.prog 23 #[.agg #[.int .i64 x.kd, .string x.nm, .int .i64 x.id, .slice a0 x.sets.length c0, .slice a1 x.cols.length c1, .int .i64 x.g.kd, .string x.g.nm, .string x.g.nw, .string x.g.c.nm, .int .i64 x.g.c.kd, .bool x.g.c.nd, .bool x.g.c.oc, .int .i64 x.g.c.k, .int .i64 x.g.c.n, .string x.g.c.s, .string x.l.fr, .string x.l.co, .string x.l.tt, .int .i64 x.l.hw]] w fun e w' => (∃ v, e = .returned (.tuple #[v, .bool (implAct x)])) ∧ Below w.heap.size w w' := by
  have hS : DeedIn w x a0 c0 a1 c1 (w.alloc (.cells #[.int .i64 x.kd, .string x.nm, .int .i64 x.id, .slice a0 x.sets.length c0, .slice a1 x.cols.length c1, .int .i64 x.g.kd, .string x.g.nm, .string x.g.nw, .string x.g.c.nm, .int .i64 x.g.c.kd, .bool x.g.c.nd, .bool x.g.c.oc, .int .i64 x.g.c.k, .int .i64 x.g.c.n, .string x.g.c.s, .string x.l.fr, .string x.l.co, .string x.l.tt, .int .i64 x.l.hw] 45)) := DeedIn.start x a0 a1 c0 c1 w hT
  have HS : Hid (DeedIn w x a0 c0 a1 c1 (w.alloc (.cells #[.int .i64 x.kd, .string x.nm, .int .i64 x.id, .slice a0 x.sets.length c0, .slice a1 x.cols.length c1, .int .i64 x.g.kd, .string x.g.nm, .string x.g.nw, .string x.g.c.nm, .int .i64 x.g.c.kd, .bool x.g.c.nd, .bool x.g.c.oc, .int .i64 x.g.c.k, .int .i64 x.g.c.n, .string x.g.c.s, .string x.l.fr, .string x.l.co, .string x.l.tt, .int .i64 x.l.hw] 45))) := hS
  clear hS
  have HF : Hid x.fit := hf
  clear hf hT
  have inh : Nonempty (Over (DeedIn w x a0 c0 a1 c1)) := ⟨⟨_, HS.out⟩⟩
  have g0 : ∀ W, (∃ p : Over (DeedIn w x a0 c0 a1 c1), W = p.W) → W.rangeAt w.heap.size 0 [.int .i64 x.kd, .string x.nm, .int .i64 x.id, .slice a0 x.sets.length c0, .slice a1 x.cols.length c1, .int .i64 x.g.kd, .string x.g.nm, .string x.g.nw, .string x.g.c.nm, .int .i64 x.g.c.kd, .bool x.g.c.nd, .bool x.g.c.oc, .int .i64 x.g.c.k, .int .i64 x.g.c.n, .string x.g.c.s, .string x.l.fr, .string x.l.co, .string x.l.tt, .int .i64 x.l.hw] := fun W ⟨p, e⟩ => e ▸ p.ok.1.1
  have G0 : Hid (∀ W, (∃ p : Over (DeedIn w x a0 c0 a1 c1), W = p.W) → W.rangeAt w.heap.size 0 [.int .i64 x.kd, .string x.nm, .int .i64 x.id, .slice a0 x.sets.length c0, .slice a1 x.cols.length c1, .int .i64 x.g.kd, .string x.g.nm, .string x.g.nw, .string x.g.c.nm, .int .i64 x.g.c.kd, .bool x.g.c.nd, .bool x.g.c.oc, .int .i64 x.g.c.k, .int .i64 x.g.c.n, .string x.g.c.s, .string x.l.fr, .string x.l.co, .string x.l.tt, .int .i64 x.l.hw]) := g0
  clear g0
  have hm1 := m_named_ok x.nm x.g.nm x.g.nw
  have hm2 := m_named_act x.nm x.g.nm x.g.nw
  have hv : implAct x = (nameOk x.nm && (nameOk x.g.nm && nameOk x.g.nw) && actSame (⟨6, x.nm, 0, [], [], ⟨3, x.g.nm, x.g.nw, colK 0⟩, lnk0⟩) x) := by simp [implAct, implDeed, deedAct, beq_iff_eq.1 h6, beq_iff_eq.1 g3]
  rw [hv]
  have h1 : (x.kd == 1) = false := by simp [beq_iff_eq.1 h6]
  have h2 : (x.kd == 2) = false := by simp [beq_iff_eq.1 h6]
  have h3 : (x.kd == 3) = false := by simp [beq_iff_eq.1 h6]
  have h4 : (x.kd == 4) = false := by simp [beq_iff_eq.1 h6]
  have h5 : (x.kd == 5) = false := by simp [beq_iff_eq.1 h6]
  have hcon : ∀ p : Over (DeedIn w x a0 c0 a1 c1), Calls Tryz.prog 103 #[.agg #[.string x.nm, .string x.g.nm, .string x.g.nw]] p.W fun e w' => e = .returned (.bool (nameOk x.nm && (nameOk x.g.nm && nameOk x.g.nw))) ∧ Below p.W.heap.size p.W w' := fun p => named_ok x.nm x.g.nm x.g.nw p.W HF.out.1 HF.out.2.2.2.1.1 HF.out.2.2.2.1.2.1
  have hact : ∀ p : Over (DeedIn w x a0 c0 a1 c1), Calls Tryz.prog 101 #[.agg #[.string x.nm, .string x.g.nm, .string x.g.nw]] p.W fun e w' => e = .returned (.agg #[.int .i64 6, .string x.nm, .int .i64 0, .slice none 0 0, .slice none 0 0, .int .i64 3, .string x.g.nm, .string x.g.nw, .string ⟨#[]⟩, .int .i64 0, .bool false, .bool false, .int .i64 0, .int .i64 0, .string ⟨#[]⟩, .string ⟨#[]⟩, .string ⟨#[]⟩, .string ⟨#[]⟩, .int .i64 0]) ∧ Below p.W.heap.size p.W w' := fun p => named_act x.nm x.g.nm x.g.nw p.W
  have hsam : ∀ p : Over (DeedIn w x a0 c0 a1 c1), Calls Tryz.prog 35 #[.agg #[.int .i64 6, .string x.nm, .int .i64 0, .slice none 0 0, .slice none 0 0, .int .i64 3, .string x.g.nm, .string x.g.nw, .string ⟨#[]⟩, .int .i64 0, .bool false, .bool false, .int .i64 0, .int .i64 0, .string ⟨#[]⟩, .string ⟨#[]⟩, .string ⟨#[]⟩, .string ⟨#[]⟩, .int .i64 0], .agg #[.int .i64 x.kd, .string x.nm, .int .i64 x.id, .slice a0 x.sets.length c0, .slice a1 x.cols.length c1, .int .i64 x.g.kd, .string x.g.nm, .string x.g.nw, .string x.g.c.nm, .int .i64 x.g.c.kd, .bool x.g.c.nd, .bool x.g.c.oc, .int .i64 x.g.c.k, .int .i64 x.g.c.n, .string x.g.c.s, .string x.l.fr, .string x.l.co, .string x.l.tt, .int .i64 x.l.hw]] p.W fun e w' => e = .returned (.bool (actSame (⟨6, x.nm, 0, [], [], ⟨3, x.g.nm, x.g.nw, colK 0⟩, lnk0⟩) x)) ∧ Below p.W.heap.size p.W w' := fun p => act_same (⟨6, x.nm, 0, [], [], ⟨3, x.g.nm, x.g.nw, colK 0⟩, lnk0⟩) x none none a0 a1 0 0 c0 c1 p.W ⟨Or.inl rfl, Or.inl rfl⟩ p.ok.2 ⟨by simp, by simp, HF.out.2.1.2, HF.out.2.2.1.2⟩
  cases hok : (nameOk x.nm && (nameOk x.g.nm && nameOk x.g.nw))
  case false =>
    rw [hok] at hcon
    go_enter Tryz.func23, Tryz.ntmps23
    go_wp2_with fail
    refine (chg_named x.nm x.g _ g3).mono ?_
    rintro e w1 ⟨rfl, hb⟩
    have HS1 : Hid (DeedIn w x a0 c0 a1 c1 w1) := HS.out.next hb
    clear hb HS
    go_wp2_with fail
    refine wp_region_over (S := DeedIn w x a0 c0 a1 c1) (by kernel_rfl) (by kernel_rfl) (HS1.out.next (Below.refl _ _).drew) ?_
    repeat (first | (refine quiet_ld rfl _ rfl _ rfl _ G0.out rfl _ rfl ?_; simp only [Act.put, List.setIfInBounds_toArray, List.set_cons_succ, List.set_cons_zero]) | go_big_quiet_step (first | exact over_call (hcon _) (fun _ h => DeedIn.next (Over.ok _) h) | exact over_call (hact _) (fun _ h => DeedIn.next (Over.ok _) h) | exact over_call (hsam _) (fun _ h => DeedIn.next (Over.ok _) h)))
    refine wpQuiet_nil ?_
    rintro wq ⟨pp, hp⟩
    have hZ := pp.ok
    rw [← hp] at hZ
    have hK : Hid (Below w.heap.size w wq) := hZ.1.2.2
    clear hp pp G0 inh hZ hcon hact hsam
    go_wp2_with fail
    go_ret2
    exact ⟨⟨_, rfl⟩, hK.out⟩
  case true =>
    rw [hok] at hcon
    go_enter Tryz.func23, Tryz.ntmps23
    go_wp2_with fail
    refine (chg_named x.nm x.g _ g3).mono ?_
    rintro e w1 ⟨rfl, hb⟩
    have HS1 : Hid (DeedIn w x a0 c0 a1 c1 w1) := HS.out.next hb
    clear hb HS
    go_wp2_with fail
    refine wp_region_over (S := DeedIn w x a0 c0 a1 c1) (by kernel_rfl) (by kernel_rfl) (HS1.out.next (Below.refl _ _).drew) ?_
    repeat (first | (refine quiet_ld rfl _ rfl _ rfl _ G0.out rfl _ rfl ?_; simp only [Act.put, List.setIfInBounds_toArray, List.set_cons_succ, List.set_cons_zero]) | go_big_quiet_step (first | exact over_call (hcon _) (fun _ h => DeedIn.next (Over.ok _) h) | exact over_call (hact _) (fun _ h => DeedIn.next (Over.ok _) h) | exact over_call (hsam _) (fun _ h => DeedIn.next (Over.ok _) h)))
    refine wpQuiet_nil ?_
    rintro wq ⟨pp, hp⟩
    have hZ := pp.ok
    rw [← hp] at hZ
    have hK : Hid (Below w.heap.size w wq) := hZ.1.2.2
    clear hp pp G0 inh hZ hcon hact hsam
    go_wp2_with fail
    go_ret2
    exact ⟨⟨_, rfl⟩, hK.out⟩

set_option maxRecDepth 100000 in
set_option maxHeartbeats 4000000 in
theorem deed_kindd (x : AAct) (a0 a1 : Option Addr) (c0 c1 : Nat) (w : World) (hT : ActAt w a0 a1 x) (hf : x.fit) (h6 : (x.kd == 6) = true) (g4 : (x.g.kd == 4) = true) :
    Calls Tryz.prog 23 #[.agg #[.int .i64 x.kd, .string x.nm, .int .i64 x.id, .slice a0 x.sets.length c0, .slice a1 x.cols.length c1, .int .i64 x.g.kd, .string x.g.nm, .string x.g.nw, .string x.g.c.nm, .int .i64 x.g.c.kd, .bool x.g.c.nd, .bool x.g.c.oc, .int .i64 x.g.c.k, .int .i64 x.g.c.n, .string x.g.c.s, .string x.l.fr, .string x.l.co, .string x.l.tt, .int .i64 x.l.hw]] w fun e w' => (∃ v, e = .returned (.tuple #[v, .bool (implAct x)])) ∧ Below w.heap.size w w' := by
  have hS : DeedIn w x a0 c0 a1 c1 (w.alloc (.cells #[.int .i64 x.kd, .string x.nm, .int .i64 x.id, .slice a0 x.sets.length c0, .slice a1 x.cols.length c1, .int .i64 x.g.kd, .string x.g.nm, .string x.g.nw, .string x.g.c.nm, .int .i64 x.g.c.kd, .bool x.g.c.nd, .bool x.g.c.oc, .int .i64 x.g.c.k, .int .i64 x.g.c.n, .string x.g.c.s, .string x.l.fr, .string x.l.co, .string x.l.tt, .int .i64 x.l.hw] 45)) := DeedIn.start x a0 a1 c0 c1 w hT
  have HS : Hid (DeedIn w x a0 c0 a1 c1 (w.alloc (.cells #[.int .i64 x.kd, .string x.nm, .int .i64 x.id, .slice a0 x.sets.length c0, .slice a1 x.cols.length c1, .int .i64 x.g.kd, .string x.g.nm, .string x.g.nw, .string x.g.c.nm, .int .i64 x.g.c.kd, .bool x.g.c.nd, .bool x.g.c.oc, .int .i64 x.g.c.k, .int .i64 x.g.c.n, .string x.g.c.s, .string x.l.fr, .string x.l.co, .string x.l.tt, .int .i64 x.l.hw] 45))) := hS
  clear hS
  have HF : Hid x.fit := hf
  clear hf hT
  have inh : Nonempty (Over (DeedIn w x a0 c0 a1 c1)) := ⟨⟨_, HS.out⟩⟩
  have g0 : ∀ W, (∃ p : Over (DeedIn w x a0 c0 a1 c1), W = p.W) → W.rangeAt w.heap.size 0 [.int .i64 x.kd, .string x.nm, .int .i64 x.id, .slice a0 x.sets.length c0, .slice a1 x.cols.length c1, .int .i64 x.g.kd, .string x.g.nm, .string x.g.nw, .string x.g.c.nm, .int .i64 x.g.c.kd, .bool x.g.c.nd, .bool x.g.c.oc, .int .i64 x.g.c.k, .int .i64 x.g.c.n, .string x.g.c.s, .string x.l.fr, .string x.l.co, .string x.l.tt, .int .i64 x.l.hw] := fun W ⟨p, e⟩ => e ▸ p.ok.1.1
  have G0 : Hid (∀ W, (∃ p : Over (DeedIn w x a0 c0 a1 c1), W = p.W) → W.rangeAt w.heap.size 0 [.int .i64 x.kd, .string x.nm, .int .i64 x.id, .slice a0 x.sets.length c0, .slice a1 x.cols.length c1, .int .i64 x.g.kd, .string x.g.nm, .string x.g.nw, .string x.g.c.nm, .int .i64 x.g.c.kd, .bool x.g.c.nd, .bool x.g.c.oc, .int .i64 x.g.c.k, .int .i64 x.g.c.n, .string x.g.c.s, .string x.l.fr, .string x.l.co, .string x.l.tt, .int .i64 x.l.hw]) := g0
  clear g0
  have hm1 := m_kindd_ok x.nm x.g.nm x.g.c.kd
  have hm2 := m_kindd_act x.nm x.g.nm x.g.c.kd
  have hv : implAct x = (nameOk x.nm && (nameOk x.g.nm && kindOk x.g.c.kd) && actSame (⟨6, x.nm, 0, [], [], ⟨4, x.g.nm, ⟨#[]⟩, colK x.g.c.kd⟩, lnk0⟩) x) := by simp [implAct, implDeed, deedAct, beq_iff_eq.1 h6, beq_iff_eq.1 g4]
  rw [hv]
  have h1 : (x.kd == 1) = false := by simp [beq_iff_eq.1 h6]
  have h2 : (x.kd == 2) = false := by simp [beq_iff_eq.1 h6]
  have h3 : (x.kd == 3) = false := by simp [beq_iff_eq.1 h6]
  have h4 : (x.kd == 4) = false := by simp [beq_iff_eq.1 h6]
  have h5 : (x.kd == 5) = false := by simp [beq_iff_eq.1 h6]
  have hcon : ∀ p : Over (DeedIn w x a0 c0 a1 c1), Calls Tryz.prog 107 #[.agg #[.string x.nm, .string x.g.nm, .int .i64 x.g.c.kd]] p.W fun e w' => e = .returned (.bool (nameOk x.nm && (nameOk x.g.nm && kindOk x.g.c.kd))) ∧ Below p.W.heap.size p.W w' := fun p => kindd_ok x.nm x.g.nm x.g.c.kd p.W HF.out.1 HF.out.2.2.2.1.1
  have hact : ∀ p : Over (DeedIn w x a0 c0 a1 c1), Calls Tryz.prog 105 #[.agg #[.string x.nm, .string x.g.nm, .int .i64 x.g.c.kd]] p.W fun e w' => e = .returned (.agg #[.int .i64 6, .string x.nm, .int .i64 0, .slice none 0 0, .slice none 0 0, .int .i64 4, .string x.g.nm, .string ⟨#[]⟩, .string ⟨#[]⟩, .int .i64 x.g.c.kd, .bool false, .bool false, .int .i64 0, .int .i64 0, .string ⟨#[]⟩, .string ⟨#[]⟩, .string ⟨#[]⟩, .string ⟨#[]⟩, .int .i64 0]) ∧ Below p.W.heap.size p.W w' := fun p => kindd_act x.nm x.g.nm x.g.c.kd p.W
  have hsam : ∀ p : Over (DeedIn w x a0 c0 a1 c1), Calls Tryz.prog 35 #[.agg #[.int .i64 6, .string x.nm, .int .i64 0, .slice none 0 0, .slice none 0 0, .int .i64 4, .string x.g.nm, .string ⟨#[]⟩, .string ⟨#[]⟩, .int .i64 x.g.c.kd, .bool false, .bool false, .int .i64 0, .int .i64 0, .string ⟨#[]⟩, .string ⟨#[]⟩, .string ⟨#[]⟩, .string ⟨#[]⟩, .int .i64 0], .agg #[.int .i64 x.kd, .string x.nm, .int .i64 x.id, .slice a0 x.sets.length c0, .slice a1 x.cols.length c1, .int .i64 x.g.kd, .string x.g.nm, .string x.g.nw, .string x.g.c.nm, .int .i64 x.g.c.kd, .bool x.g.c.nd, .bool x.g.c.oc, .int .i64 x.g.c.k, .int .i64 x.g.c.n, .string x.g.c.s, .string x.l.fr, .string x.l.co, .string x.l.tt, .int .i64 x.l.hw]] p.W fun e w' => e = .returned (.bool (actSame (⟨6, x.nm, 0, [], [], ⟨4, x.g.nm, ⟨#[]⟩, colK x.g.c.kd⟩, lnk0⟩) x)) ∧ Below p.W.heap.size p.W w' := fun p => act_same (⟨6, x.nm, 0, [], [], ⟨4, x.g.nm, ⟨#[]⟩, colK x.g.c.kd⟩, lnk0⟩) x none none a0 a1 0 0 c0 c1 p.W ⟨Or.inl rfl, Or.inl rfl⟩ p.ok.2 ⟨by simp, by simp, HF.out.2.1.2, HF.out.2.2.1.2⟩
  cases hok : (nameOk x.nm && (nameOk x.g.nm && kindOk x.g.c.kd))
  case false =>
    rw [hok] at hcon
    go_enter Tryz.func23, Tryz.ntmps23
    go_wp2_with fail
    refine (chg_kindd x.nm x.g _ g4).mono ?_
    rintro e w1 ⟨rfl, hb⟩
    have HS1 : Hid (DeedIn w x a0 c0 a1 c1 w1) := HS.out.next hb
    clear hb HS
    go_wp2_with fail
    refine wp_region_over (S := DeedIn w x a0 c0 a1 c1) (by kernel_rfl) (by kernel_rfl) (HS1.out.next (Below.refl _ _).drew) ?_
    repeat (first | (refine quiet_ld rfl _ rfl _ rfl _ G0.out rfl _ rfl ?_; simp only [Act.put, List.setIfInBounds_toArray, List.set_cons_succ, List.set_cons_zero]) | go_big_quiet_step (first | exact over_call (hcon _) (fun _ h => DeedIn.next (Over.ok _) h) | exact over_call (hact _) (fun _ h => DeedIn.next (Over.ok _) h) | exact over_call (hsam _) (fun _ h => DeedIn.next (Over.ok _) h)))
    refine wpQuiet_nil ?_
    rintro wq ⟨pp, hp⟩
    have hZ := pp.ok
    rw [← hp] at hZ
    have hK : Hid (Below w.heap.size w wq) := hZ.1.2.2
    clear hp pp G0 inh hZ hcon hact hsam
    go_wp2_with fail
    go_ret2
    exact ⟨⟨_, rfl⟩, hK.out⟩
  case true =>
    rw [hok] at hcon
    go_enter Tryz.func23, Tryz.ntmps23
    go_wp2_with fail
    refine (chg_kindd x.nm x.g _ g4).mono ?_
    rintro e w1 ⟨rfl, hb⟩
    have HS1 : Hid (DeedIn w x a0 c0 a1 c1 w1) := HS.out.next hb
    clear hb HS
    go_wp2_with fail
    refine wp_region_over (S := DeedIn w x a0 c0 a1 c1) (by kernel_rfl) (by kernel_rfl) (HS1.out.next (Below.refl _ _).drew) ?_
    repeat (first | (refine quiet_ld rfl _ rfl _ rfl _ G0.out rfl _ rfl ?_; simp only [Act.put, List.setIfInBounds_toArray, List.set_cons_succ, List.set_cons_zero]) | go_big_quiet_step (first | exact over_call (hcon _) (fun _ h => DeedIn.next (Over.ok _) h) | exact over_call (hact _) (fun _ h => DeedIn.next (Over.ok _) h) | exact over_call (hsam _) (fun _ h => DeedIn.next (Over.ok _) h)))
    refine wpQuiet_nil ?_
    rintro wq ⟨pp, hp⟩
    have hZ := pp.ok
    rw [← hp] at hZ
    have hK : Hid (Below w.heap.size w wq) := hZ.1.2.2
    clear hp pp G0 inh hZ hcon hact hsam
    go_wp2_with fail
    go_ret2
    exact ⟨⟨_, rfl⟩, hK.out⟩

end Go.Proofs.YtacindondkcaiaaGreat
