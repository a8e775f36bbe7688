/- The contract of impl.changeDeed, and of impl.deedOf at a column that is added and dropped, over the seat's translation. -/
import Derived.Test.YtacindondkcaiaaGreatAcI5
namespace Go.Proofs.YtacindondkcaiaaGreat
open Go.RowKit

set_option maxRecDepth 100000 in
set_option maxHeartbeats 1000000 in
theorem chg_add (nm : ByteArray) (g : AChg) (w : World) (g1 : (g.kd == 1) = true) :
    Calls Tryz.prog 34 #[.string nm, .agg #[.int .i64 g.kd, .string g.nm, .string g.nw, .string g.c.nm, .int .i64 g.c.kd, .bool g.c.nd, .bool g.c.oc, .int .i64 g.c.k, .int .i64 g.c.n, .string g.c.s]] w fun e w' => e = .returned (.iface 99 (.agg #[.string nm, .string g.c.nm, .int .i64 g.c.kd, .bool g.c.nd, .bool g.c.oc, .int .i64 g.c.k, .int .i64 g.c.n, .string g.c.s])) ∧ Below w.heap.size w w' := by
  go_enter Tryz.func34, Tryz.ntmps34
  go_wp2_with fail
  go_ret
  exact ⟨rfl, (Below.refl _ _).alloc (Nat.le_refl _) _⟩

set_option maxRecDepth 100000 in
set_option maxHeartbeats 1000000 in
theorem chg_drop (nm : ByteArray) (g : AChg) (w : World) (g2 : (g.kd == 2) = true) :
    Calls Tryz.prog 34 #[.string nm, .agg #[.int .i64 g.kd, .string g.nm, .string g.nw, .string g.c.nm, .int .i64 g.c.kd, .bool g.c.nd, .bool g.c.oc, .int .i64 g.c.k, .int .i64 g.c.n, .string g.c.s]] w fun e w' => e = .returned (.iface 101 (.agg #[.string nm, .string g.nm])) ∧ Below w.heap.size w w' := by
  have g1 : (g.kd == 1) = false := by simp [beq_iff_eq.1 g2]
  go_enter Tryz.func34, Tryz.ntmps34
  go_wp2_with fail
  go_ret
  exact ⟨rfl, (Below.refl _ _).alloc (Nat.le_refl _) _⟩

set_option maxRecDepth 100000 in
set_option maxHeartbeats 1000000 in
theorem chg_named (nm : ByteArray) (g : AChg) (w : World) (g3 : (g.kd == 3) = true) :
    Calls Tryz.prog 34 #[.string nm, .agg #[.int .i64 g.kd, .string g.nm, .string g.nw, .string g.c.nm, .int .i64 g.c.kd, .bool g.c.nd, .bool g.c.oc, .int .i64 g.c.k, .int .i64 g.c.n, .string g.c.s]] w fun e w' => e = .returned (.iface 103 (.agg #[.string nm, .string g.nm, .string g.nw])) ∧ Below w.heap.size w w' := by
  have g1 : (g.kd == 1) = false := by simp [beq_iff_eq.1 g3]
  have g2 : (g.kd == 2) = false := by simp [beq_iff_eq.1 g3]
  go_enter Tryz.func34, Tryz.ntmps34
  go_wp2_with fail
  go_ret
  exact ⟨rfl, (Below.refl _ _).alloc (Nat.le_refl _) _⟩

set_option maxRecDepth 100000 in
set_option maxHeartbeats 1000000 in
theorem chg_kindd (nm : ByteArray) (g : AChg) (w : World) (g4 : (g.kd == 4) = true) :
    Calls Tryz.prog 34 #[.string nm, .agg #[.int .i64 g.kd, .string g.nm, .string g.nw, .string g.c.nm, .int .i64 g.c.kd, .bool g.c.nd, .bool g.c.oc, .int .i64 g.c.k, .int .i64 g.c.n, .string g.c.s]] w fun e w' => e = .returned (.iface 105 (.agg #[.string nm, .string g.nm, .int .i64 g.c.kd])) ∧ Below w.heap.size w w' := by
  have g1 : (g.kd == 1) = false := by simp [beq_iff_eq.1 g4]
  have g2 : (g.kd == 2) = false := by simp [beq_iff_eq.1 g4]
  have g3 : (g.kd == 3) = false := by simp [beq_iff_eq.1 g4]
  go_enter Tryz.func34, Tryz.ntmps34
  go_wp2_with fail
  go_ret
  exact ⟨rfl, (Below.refl _ _).alloc (Nat.le_refl _) _⟩

set_option maxRecDepth 100000 in
set_option maxHeartbeats 1000000 in
theorem chg_none (nm : ByteArray) (g : AChg) (w : World) (g1 : (g.kd == 1) = false) (g2 : (g.kd == 2) = false) (g3 : (g.kd == 3) = false) (g4 : (g.kd == 4) = false) :
    Calls Tryz.prog 34 #[.string nm, .agg #[.int .i64 g.kd, .string g.nm, .string g.nw, .string g.c.nm, .int .i64 g.c.kd, .bool g.c.nd, .bool g.c.oc, .int .i64 g.c.k, .int .i64 g.c.n, .string g.c.s]] w fun e w' => e = .returned .nilIface ∧ Below w.heap.size w w' := by
  go_enter Tryz.func34, Tryz.ntmps34
  go_wp2_with fail
  go_ret
  exact ⟨rfl, (Below.refl _ _).alloc (Nat.le_refl _) _⟩

set_option maxRecDepth 100000 in
set_option maxHeartbeats 4000000 in
theorem deed_add (x : AAct) (a0 a1 : Option Addr) (c0 c1 : Nat) (w : World) (hT : ActAt w a0 a1 x) (hf : x.fit) (h6 : (x.kd == 6) = true) (g1 : (x.g.kd == 1) = true) :
    Calls Tryz.prog 23 #[.agg #[.int .i64 x.kd, .string x.nm, .int .i64 x.id, .slice a0 x.sets.length c0, .slice a1 x.cols.length c1, .int .i64 x.g.kd, .string x.g.nm, .string x.g.nw, .string x.g.c.nm, .int .i64 x.g.c.kd, .bool x.g.c.nd, .bool x.g.c.oc, .int .i64 x.g.c.k, .int .i64 x.g.c.n, .string x.g.c.s, .string x.l.fr, .string x.l.co, .string x.l.tt, .int .i64 x.l.hw]] w fun e w' => (∃ v, e = .returned (.tuple #[v, .bool (implAct x)])) ∧ Below w.heap.size w w' := by
  have hS : DeedIn w x a0 c0 a1 c1 (w.alloc (.cells #[.int .i64 x.kd, .string x.nm, .int .i64 x.id, .slice a0 x.sets.length c0, .slice a1 x.cols.length c1, .int .i64 x.g.kd, .string x.g.nm, .string x.g.nw, .string x.g.c.nm, .int .i64 x.g.c.kd, .bool x.g.c.nd, .bool x.g.c.oc, .int .i64 x.g.c.k, .int .i64 x.g.c.n, .string x.g.c.s, .string x.l.fr, .string x.l.co, .string x.l.tt, .int .i64 x.l.hw] 45)) := DeedIn.start x a0 a1 c0 c1 w hT
  have HS : Hid (DeedIn w x a0 c0 a1 c1 (w.alloc (.cells #[.int .i64 x.kd, .string x.nm, .int .i64 x.id, .slice a0 x.sets.length c0, .slice a1 x.cols.length c1, .int .i64 x.g.kd, .string x.g.nm, .string x.g.nw, .string x.g.c.nm, .int .i64 x.g.c.kd, .bool x.g.c.nd, .bool x.g.c.oc, .int .i64 x.g.c.k, .int .i64 x.g.c.n, .string x.g.c.s, .string x.l.fr, .string x.l.co, .string x.l.tt, .int .i64 x.l.hw] 45))) := hS
  clear hS
  have HF : Hid x.fit := hf
  clear hf hT
  have inh : Nonempty (Over (DeedIn w x a0 c0 a1 c1)) := ⟨⟨_, HS.out⟩⟩
  have g0 : ∀ W, (∃ p : Over (DeedIn w x a0 c0 a1 c1), W = p.W) → W.rangeAt w.heap.size 0 [.int .i64 x.kd, .string x.nm, .int .i64 x.id, .slice a0 x.sets.length c0, .slice a1 x.cols.length c1, .int .i64 x.g.kd, .string x.g.nm, .string x.g.nw, .string x.g.c.nm, .int .i64 x.g.c.kd, .bool x.g.c.nd, .bool x.g.c.oc, .int .i64 x.g.c.k, .int .i64 x.g.c.n, .string x.g.c.s, .string x.l.fr, .string x.l.co, .string x.l.tt, .int .i64 x.l.hw] := fun W ⟨p, e⟩ => e ▸ p.ok.1.1
  have G0 : Hid (∀ W, (∃ p : Over (DeedIn w x a0 c0 a1 c1), W = p.W) → W.rangeAt w.heap.size 0 [.int .i64 x.kd, .string x.nm, .int .i64 x.id, .slice a0 x.sets.length c0, .slice a1 x.cols.length c1, .int .i64 x.g.kd, .string x.g.nm, .string x.g.nw, .string x.g.c.nm, .int .i64 x.g.c.kd, .bool x.g.c.nd, .bool x.g.c.oc, .int .i64 x.g.c.k, .int .i64 x.g.c.n, .string x.g.c.s, .string x.l.fr, .string x.l.co, .string x.l.tt, .int .i64 x.l.hw]) := g0
  clear g0
  have hm1 := m_add_ok x.nm x.g.c
  have hm2 := m_add_act x.nm x.g.c
  have hv : implAct x = (nameOk x.nm && x.g.c.ok && actSame (⟨6, x.nm, 0, [], [], ⟨1, ⟨#[]⟩, ⟨#[]⟩, x.g.c⟩, lnk0⟩) x) := by simp [implAct, implDeed, deedAct, beq_iff_eq.1 h6, beq_iff_eq.1 g1]
  rw [hv]
  have h1 : (x.kd == 1) = false := by simp [beq_iff_eq.1 h6]
  have h2 : (x.kd == 2) = false := by simp [beq_iff_eq.1 h6]
  have h3 : (x.kd == 3) = false := by simp [beq_iff_eq.1 h6]
  have h4 : (x.kd == 4) = false := by simp [beq_iff_eq.1 h6]
  have h5 : (x.kd == 5) = false := by simp [beq_iff_eq.1 h6]
  have hcon : ∀ p : Over (DeedIn w x a0 c0 a1 c1), Calls Tryz.prog 94 #[.agg #[.string x.nm, .string x.g.c.nm, .int .i64 x.g.c.kd, .bool x.g.c.nd, .bool x.g.c.oc, .int .i64 x.g.c.k, .int .i64 x.g.c.n, .string x.g.c.s]] p.W fun e w' => e = .returned (.bool (nameOk x.nm && x.g.c.ok)) ∧ Below p.W.heap.size p.W w' := fun p => add_ok x.nm x.g.c p.W HF.out.1 HF.out.2.2.2.1.2.2
  have hact : ∀ p : Over (DeedIn w x a0 c0 a1 c1), Calls Tryz.prog 92 #[.agg #[.string x.nm, .string x.g.c.nm, .int .i64 x.g.c.kd, .bool x.g.c.nd, .bool x.g.c.oc, .int .i64 x.g.c.k, .int .i64 x.g.c.n, .string x.g.c.s]] p.W fun e w' => e = .returned (.agg #[.int .i64 6, .string x.nm, .int .i64 0, .slice none 0 0, .slice none 0 0, .int .i64 1, .string ⟨#[]⟩, .string ⟨#[]⟩, .string x.g.c.nm, .int .i64 x.g.c.kd, .bool x.g.c.nd, .bool x.g.c.oc, .int .i64 x.g.c.k, .int .i64 x.g.c.n, .string x.g.c.s, .string ⟨#[]⟩, .string ⟨#[]⟩, .string ⟨#[]⟩, .int .i64 0]) ∧ Below p.W.heap.size p.W w' := fun p => add_act x.nm x.g.c p.W
  have hsam : ∀ p : Over (DeedIn w x a0 c0 a1 c1), Calls Tryz.prog 35 #[.agg #[.int .i64 6, .string x.nm, .int .i64 0, .slice none 0 0, .slice none 0 0, .int .i64 1, .string ⟨#[]⟩, .string ⟨#[]⟩, .string x.g.c.nm, .int .i64 x.g.c.kd, .bool x.g.c.nd, .bool x.g.c.oc, .int .i64 x.g.c.k, .int .i64 x.g.c.n, .string x.g.c.s, .string ⟨#[]⟩, .string ⟨#[]⟩, .string ⟨#[]⟩, .int .i64 0], .agg #[.int .i64 x.kd, .string x.nm, .int .i64 x.id, .slice a0 x.sets.length c0, .slice a1 x.cols.length c1, .int .i64 x.g.kd, .string x.g.nm, .string x.g.nw, .string x.g.c.nm, .int .i64 x.g.c.kd, .bool x.g.c.nd, .bool x.g.c.oc, .int .i64 x.g.c.k, .int .i64 x.g.c.n, .string x.g.c.s, .string x.l.fr, .string x.l.co, .string x.l.tt, .int .i64 x.l.hw]] p.W fun e w' => e = .returned (.bool (actSame (⟨6, x.nm, 0, [], [], ⟨1, ⟨#[]⟩, ⟨#[]⟩, x.g.c⟩, lnk0⟩) x)) ∧ Below p.W.heap.size p.W w' := fun p => act_same (⟨6, x.nm, 0, [], [], ⟨1, ⟨#[]⟩, ⟨#[]⟩, x.g.c⟩, lnk0⟩) x none none a0 a1 0 0 c0 c1 p.W ⟨Or.inl rfl, Or.inl rfl⟩ p.ok.2 ⟨by simp, by simp, HF.out.2.1.2, HF.out.2.2.1.2⟩
  cases hok : (nameOk x.nm && x.g.c.ok)
  case false =>
    rw [hok] at hcon
    go_enter Tryz.func23, Tryz.ntmps23
    go_wp2_with fail
    refine (chg_add x.nm x.g _ g1).mono ?_
    rintro e w1 ⟨rfl, hb⟩
    have HS1 : Hid (DeedIn w x a0 c0 a1 c1 w1) := HS.out.next hb
    clear hb HS
    go_wp2_with fail
    refine wp_region_over (S := DeedIn w x a0 c0 a1 c1) (by kernel_rfl) (by kernel_rfl) (HS1.out.next (Below.refl _ _).drew) ?_
    repeat (first | (refine quiet_ld rfl _ rfl _ rfl _ G0.out rfl _ rfl ?_; simp only [Act.put, List.setIfInBounds_toArray, List.set_cons_succ, List.set_cons_zero]) | go_big_quiet_step (first | exact over_call (hcon _) (fun _ h => DeedIn.next (Over.ok _) h) | exact over_call (hact _) (fun _ h => DeedIn.next (Over.ok _) h) | exact over_call (hsam _) (fun _ h => DeedIn.next (Over.ok _) h)))
    refine wpQuiet_nil ?_
    rintro wq ⟨pp, hp⟩
    have hZ := pp.ok
    rw [← hp] at hZ
    have hK : Hid (Below w.heap.size w wq) := hZ.1.2.2
    clear hp pp G0 inh hZ hcon hact hsam
    go_wp2_with fail
    go_ret2
    exact ⟨⟨_, rfl⟩, hK.out⟩
  case true =>
    rw [hok] at hcon
    go_enter Tryz.func23, Tryz.ntmps23
    go_wp2_with fail
    refine (chg_add x.nm x.g _ g1).mono ?_
    rintro e w1 ⟨rfl, hb⟩
    have HS1 : Hid (DeedIn w x a0 c0 a1 c1 w1) := HS.out.next hb
    clear hb HS
    go_wp2_with fail
    refine wp_region_over (S := DeedIn w x a0 c0 a1 c1) (by kernel_rfl) (by kernel_rfl) (HS1.out.next (Below.refl _ _).drew) ?_
    repeat (first | (refine quiet_ld rfl _ rfl _ rfl _ G0.out rfl _ rfl ?_; simp only [Act.put, List.setIfInBounds_toArray, List.set_cons_succ, List.set_cons_zero]) | go_big_quiet_step (first | exact over_call (hcon _) (fun _ h => DeedIn.next (Over.ok _) h) | exact over_call (hact _) (fun _ h => DeedIn.next (Over.ok _) h) | exact over_call (hsam _) (fun _ h => DeedIn.next (Over.ok _) h)))
    refine wpQuiet_nil ?_
    rintro wq ⟨pp, hp⟩
    have hZ := pp.ok
    rw [← hp] at hZ
    have hK : Hid (Below w.heap.size w wq) := hZ.1.2.2
    clear hp pp G0 inh hZ hcon hact hsam
    go_wp2_with fail
    go_ret2
    exact ⟨⟨_, rfl⟩, hK.out⟩

set_option maxRecDepth 100000 in
set_option maxHeartbeats 4000000 in
theorem deed_drop (x : AAct) (a0 a1 : Option Addr) (c0 c1 : Nat) (w : World) (hT : ActAt w a0 a1 x) (hf : x.fit) (h6 : (x.kd == 6) = true) (g2 : (x.g.kd == 2) = true) :
    Calls Tryz.prog 23 #[.agg #[.int .i64 x.kd, .string x.nm, .int .i64 x.id, .slice a0 x.sets.length c0, .slice a1 x.cols.length c1, .int .i64 x.g.kd, .string x.g.nm, .string x.g.nw, .string x.g.c.nm, .int .i64 x.g.c.kd, .bool x.g.c.nd, .bool x.g.c.oc, .int .i64 x.g.c.k, .int .i64 x.g.c.n, .string x.g.c.s, .string x.l.fr, .string x.l.co, .string x.l.tt, .int .i64 x.l.hw]] w fun e w' => (∃ v, e = .returned (.tuple #[v, .bool (implAct x)])) ∧ Below w.heap.size w w' := by
  have hS : DeedIn w x a0 c0 a1 c1 (w.alloc (.cells #[.int .i64 x.kd, .string x.nm, .int .i64 x.id, .slice a0 x.sets.length c0, .slice a1 x.cols.length c1, .int .i64 x.g.kd, .string x.g.nm, .string x.g.nw, .string x.g.c.nm, .int .i64 x.g.c.kd, .bool x.g.c.nd, .bool x.g.c.oc, .int .i64 x.g.c.k, .int .i64 x.g.c.n, .string x.g.c.s, .string x.l.fr, .string x.l.co, .string x.l.tt, .int .i64 x.l.hw] 45)) := DeedIn.start x a0 a1 c0 c1 w hT
  have HS : Hid (DeedIn w x a0 c0 a1 c1 (w.alloc (.cells #[.int .i64 x.kd, .string x.nm, .int .i64 x.id, .slice a0 x.sets.length c0, .slice a1 x.cols.length c1, .int .i64 x.g.kd, .string x.g.nm, .string x.g.nw, .string x.g.c.nm, .int .i64 x.g.c.kd, .bool x.g.c.nd, .bool x.g.c.oc, .int .i64 x.g.c.k, .int .i64 x.g.c.n, .string x.g.c.s, .string x.l.fr, .string x.l.co, .string x.l.tt, .int .i64 x.l.hw] 45))) := hS
  clear hS
  have HF : Hid x.fit := hf
  clear hf hT
  have inh : Nonempty (Over (DeedIn w x a0 c0 a1 c1)) := ⟨⟨_, HS.out⟩⟩
  have g0 : ∀ W, (∃ p : Over (DeedIn w x a0 c0 a1 c1), W = p.W) → W.rangeAt w.heap.size 0 [.int .i64 x.kd, .string x.nm, .int .i64 x.id, .slice a0 x.sets.length c0, .slice a1 x.cols.length c1, .int .i64 x.g.kd, .string x.g.nm, .string x.g.nw, .string x.g.c.nm, .int .i64 x.g.c.kd, .bool x.g.c.nd, .bool x.g.c.oc, .int .i64 x.g.c.k, .int .i64 x.g.c.n, .string x.g.c.s, .string x.l.fr, .string x.l.co, .string x.l.tt, .int .i64 x.l.hw] := fun W ⟨p, e⟩ => e ▸ p.ok.1.1
  have G0 : Hid (∀ W, (∃ p : Over (DeedIn w x a0 c0 a1 c1), W = p.W) → W.rangeAt w.heap.size 0 [.int .i64 x.kd, .string x.nm, .int .i64 x.id, .slice a0 x.sets.length c0, .slice a1 x.cols.length c1, .int .i64 x.g.kd, .string x.g.nm, .string x.g.nw, .string x.g.c.nm, .int .i64 x.g.c.kd, .bool x.g.c.nd, .bool x.g.c.oc, .int .i64 x.g.c.k, .int .i64 x.g.c.n, .string x.g.c.s, .string x.l.fr, .string x.l.co, .string x.l.tt, .int .i64 x.l.hw]) := g0
  clear g0
  have hm1 := m_drop_ok x.nm x.g.nm
  have hm2 := m_drop_act x.nm x.g.nm
  have hv : implAct x = (nameOk x.nm && nameOk x.g.nm && actSame (⟨6, x.nm, 0, [], [], ⟨2, x.g.nm, ⟨#[]⟩, colK 0⟩, lnk0⟩) x) := by simp [implAct, implDeed, deedAct, beq_iff_eq.1 h6, beq_iff_eq.1 g2]
  rw [hv]
  have h1 : (x.kd == 1) = false := by simp [beq_iff_eq.1 h6]
  have h2 : (x.kd == 2) = false := by simp [beq_iff_eq.1 h6]
  have h3 : (x.kd == 3) = false := by simp [beq_iff_eq.1 h6]
  have h4 : (x.kd == 4) = false := by simp [beq_iff_eq.1 h6]
  have h5 : (x.kd == 5) = false := by simp [beq_iff_eq.1 h6]
  have hcon : ∀ p : Over (DeedIn w x a0 c0 a1 c1), Calls Tryz.prog 99 #[.agg #[.string x.nm, .string x.g.nm]] p.W fun e w' => e = .returned (.bool (nameOk x.nm && nameOk x.g.nm)) ∧ Below p.W.heap.size p.W w' := fun p => drop_ok x.nm x.g.nm p.W HF.out.1 HF.out.2.2.2.1.1
  have hact : ∀ p : Over (DeedIn w x a0 c0 a1 c1), Calls Tryz.prog 97 #[.agg #[.string x.nm, .string x.g.nm]] p.W fun e w' => e = .returned (.agg #[.int .i64 6, .string x.nm, .int .i64 0, .slice none 0 0, .slice none 0 0, .int .i64 2, .string x.g.nm, .string ⟨#[]⟩, .string ⟨#[]⟩, .int .i64 0, .bool false, .bool false, .int .i64 0, .int .i64 0, .string ⟨#[]⟩, .string ⟨#[]⟩, .string ⟨#[]⟩, .string ⟨#[]⟩, .int .i64 0]) ∧ Below p.W.heap.size p.W w' := fun p => drop_act x.nm x.g.nm p.W
  have hsam : ∀ p : Over (DeedIn w x a0 c0 a1 c1), Calls Tryz.prog 35 #[.agg #[.int .i64 6, .string x.nm, .int .i64 0, .slice none 0 0, .slice none 0 0, .int .i64 2, .string x.g.nm, .string ⟨#[]⟩, .string ⟨#[]⟩, .int .i64 0, .bool false, .bool false, .int .i64 0, .int .i64 0, .string ⟨#[]⟩, .string ⟨#[]⟩, .string ⟨#[]⟩, .string ⟨#[]⟩, .int .i64 0], .agg #[.int .i64 x.kd, .string x.nm, .int .i64 x.id, .slice a0 x.sets.length c0, .slice a1 x.cols.length c1, .int .i64 x.g.kd, .string x.g.nm, .string x.g.nw, .string x.g.c.nm, .int .i64 x.g.c.kd, .bool x.g.c.nd, .bool x.g.c.oc, .int .i64 x.g.c.k, .int .i64 x.g.c.n, .string x.g.c.s, .string x.l.fr, .string x.l.co, .string x.l.tt, .int .i64 x.l.hw]] p.W fun e w' => e = .returned (.bool (actSame (⟨6, x.nm, 0, [], [], ⟨2, x.g.nm, ⟨#[]⟩, colK 0⟩, lnk0⟩) x)) ∧ Below p.W.heap.size p.W w' := fun p => act_same (⟨6, x.nm, 0, [], [], ⟨2, x.g.nm, ⟨#[]⟩, colK 0⟩, lnk0⟩) x none none a0 a1 0 0 c0 c1 p.W ⟨Or.inl rfl, Or.inl rfl⟩ p.ok.2 ⟨by simp, by simp, HF.out.2.1.2, HF.out.2.2.1.2⟩
  cases hok : (nameOk x.nm && nameOk x.g.nm)
  case false =>
    rw [hok] at hcon
    go_enter Tryz.func23, Tryz.ntmps23
    go_wp2_with fail
    refine (chg_drop x.nm x.g _ g2).mono ?_
    rintro e w1 ⟨rfl, hb⟩
    have HS1 : Hid (DeedIn w x a0 c0 a1 c1 w1) := HS.out.next hb
    clear hb HS
    go_wp2_with fail
    refine wp_region_over (S := DeedIn w x a0 c0 a1 c1) (by kernel_rfl) (by kernel_rfl) (HS1.out.next (Below.refl _ _).drew) ?_
    repeat (first | (refine quiet_ld rfl _ rfl _ rfl _ G0.out rfl _ rfl ?_; simp only [Act.put, List.setIfInBounds_toArray, List.set_cons_succ, List.set_cons_zero]) | go_big_quiet_step (first | exact over_call (hcon _) (fun _ h => DeedIn.next (Over.ok _) h) | exact over_call (hact _) (fun _ h => DeedIn.next (Over.ok _) h) | exact over_call (hsam _) (fun _ h => DeedIn.next (Over.ok _) h)))
    refine wpQuiet_nil ?_
    rintro wq ⟨pp, hp⟩
    have hZ := pp.ok
    rw [← hp] at hZ
    have hK : Hid (Below w.heap.size w wq) := hZ.1.2.2
    clear hp pp G0 inh hZ hcon hact hsam
    go_wp2_with fail
    go_ret2
    exact ⟨⟨_, rfl⟩, hK.out⟩
  case true =>
    rw [hok] at hcon
    go_enter Tryz.func23, Tryz.ntmps23
    go_wp2_with fail
    refine (chg_drop x.nm x.g _ g2).mono ?_
    rintro e w1 ⟨rfl, hb⟩
    have HS1 : Hid (DeedIn w x a0 c0 a1 c1 w1) := HS.out.next hb
    clear hb HS
    go_wp2_with fail
    refine wp_region_over (S := DeedIn w x a0 c0 a1 c1) (by kernel_rfl) (by kernel_rfl) (HS1.out.next (Below.refl _ _).drew) ?_
    repeat (first | (refine quiet_ld rfl _ rfl _ rfl _ G0.out rfl _ rfl ?_; simp only [Act.put, List.setIfInBounds_toArray, List.set_cons_succ, List.set_cons_zero]) | go_big_quiet_step (first | exact over_call (hcon _) (fun _ h => DeedIn.next (Over.ok _) h) | exact over_call (hact _) (fun _ h => DeedIn.next (Over.ok _) h) | exact over_call (hsam _) (fun _ h => DeedIn.next (Over.ok _) h)))
    refine wpQuiet_nil ?_
    rintro wq ⟨pp, hp⟩
    have hZ := pp.ok
    rw [← hp] at hZ
    have hK : Hid (Below w.heap.size w wq) := hZ.1.2.2
    clear hp pp G0 inh hZ hcon hact hsam
    go_wp2_with fail
    go_ret2
    exact ⟨⟨_, rfl⟩, hK.out⟩

end Go.Proofs.YtacindondkcaiaaGreat
