/- The contracts of impl.deedOf and impl.ActOk, over the seat's translation. -/
import Derived.Test.YtacindondkcaiaaGreatAcI6
import Derived.Test.YtacindondkcaiaaGreatAcI8
namespace Go.Proofs.YtacindondkcaiaaGreat
open Go.RowKit

set_option maxRecDepth 100000 in
set_option maxHeartbeats 1000000 in
theorem deed_none (x : AAct) (a0 a1 : Option Addr) (c0 c1 : Nat) (w : World) (h1 : (x.kd == 1) = false) (h2 : (x.kd == 2) = false) (h3 : (x.kd == 3) = false) (h4 : (x.kd == 4) = false) (h5 : (x.kd == 5) = false) (h6 : (x.kd == 6) = false) :
    Calls Tryz.prog 23 #[.agg #[.int .i64 x.kd, .string x.nm, .int .i64 x.id, .slice a0 x.sets.length c0, .slice a1 x.cols.length c1, .int .i64 x.g.kd, .string x.g.nm, .string x.g.nw, .string x.g.c.nm, .int .i64 x.g.c.kd, .bool x.g.c.nd, .bool x.g.c.oc, .int .i64 x.g.c.k, .int .i64 x.g.c.n, .string x.g.c.s, .string x.l.fr, .string x.l.co, .string x.l.tt, .int .i64 x.l.hw]] w fun e w' => (∃ v, e = .returned (.tuple #[v, .bool (implAct x)])) ∧ Below w.heap.size w w' := by
  have hv : implAct x = false := by simp [implAct, implDeed, beq_eq_false_iff_ne.1 h1, beq_eq_false_iff_ne.1 h2, beq_eq_false_iff_ne.1 h3, beq_eq_false_iff_ne.1 h4, beq_eq_false_iff_ne.1 h5, beq_eq_false_iff_ne.1 h6]
  rw [hv]
  go_enter Tryz.func23, Tryz.ntmps23
  go_wp2_with fail
  go_ret2
  exact ⟨⟨_, rfl⟩, (Below.refl _ _).alloc (Nat.le_refl _) _⟩

set_option maxRecDepth 100000 in
set_option maxHeartbeats 1000000 in
theorem deed_nochg (x : AAct) (a0 a1 : Option Addr) (c0 c1 : Nat) (w : World) (h6 : (x.kd == 6) = true) (g1 : (x.g.kd == 1) = false) (g2 : (x.g.kd == 2) = false) (g3 : (x.g.kd == 3) = false) (g4 : (x.g.kd == 4) = false) :
    Calls Tryz.prog 23 #[.agg #[.int .i64 x.kd, .string x.nm, .int .i64 x.id, .slice a0 x.sets.length c0, .slice a1 x.cols.length c1, .int .i64 x.g.kd, .string x.g.nm, .string x.g.nw, .string x.g.c.nm, .int .i64 x.g.c.kd, .bool x.g.c.nd, .bool x.g.c.oc, .int .i64 x.g.c.k, .int .i64 x.g.c.n, .string x.g.c.s, .string x.l.fr, .string x.l.co, .string x.l.tt, .int .i64 x.l.hw]] w fun e w' => (∃ v, e = .returned (.tuple #[v, .bool (implAct x)])) ∧ Below w.heap.size w w' := by
  have hv : implAct x = false := by simp [implAct, implDeed, beq_iff_eq.1 h6, beq_eq_false_iff_ne.1 g1, beq_eq_false_iff_ne.1 g2, beq_eq_false_iff_ne.1 g3, beq_eq_false_iff_ne.1 g4]
  rw [hv]
  have h1 : (x.kd == 1) = false := by simp [beq_iff_eq.1 h6]
  have h2 : (x.kd == 2) = false := by simp [beq_iff_eq.1 h6]
  have h3 : (x.kd == 3) = false := by simp [beq_iff_eq.1 h6]
  have h4 : (x.kd == 4) = false := by simp [beq_iff_eq.1 h6]
  have h5 : (x.kd == 5) = false := by simp [beq_iff_eq.1 h6]
  have hB : Hid (Below w.heap.size w (w.alloc (.cells #[.int .i64 x.kd, .string x.nm, .int .i64 x.id, .slice a0 x.sets.length c0, .slice a1 x.cols.length c1, .int .i64 x.g.kd, .string x.g.nm, .string x.g.nw, .string x.g.c.nm, .int .i64 x.g.c.kd, .bool x.g.c.nd, .bool x.g.c.oc, .int .i64 x.g.c.k, .int .i64 x.g.c.n, .string x.g.c.s, .string x.l.fr, .string x.l.co, .string x.l.tt, .int .i64 x.l.hw] 45))) := (Below.refl _ _).alloc (Nat.le_refl _) _
  go_enter Tryz.func23, Tryz.ntmps23
  go_wp2_with fail
  refine (chg_none x.nm x.g _ g1 g2 g3 g4).mono ?_
  rintro e w1 ⟨rfl, hb⟩
  have hB1 : Hid (Below w.heap.size w w1) := hB.out.trans (hb.mono hB.out.size)
  clear hB hb
  go_wp2_with fail
  go_ret2
  exact ⟨⟨_, rfl⟩, hB1.out⟩

theorem deed_any (x : AAct) (a0 a1 : Option Addr) (c0 c1 : Nat) (w : World) (hT : ActAt w a0 a1 x) (hf : x.fit) : Calls Tryz.prog 23 #[.agg #[.int .i64 x.kd, .string x.nm, .int .i64 x.id, .slice a0 x.sets.length c0, .slice a1 x.cols.length c1, .int .i64 x.g.kd, .string x.g.nm, .string x.g.nw, .string x.g.c.nm, .int .i64 x.g.c.kd, .bool x.g.c.nd, .bool x.g.c.oc, .int .i64 x.g.c.k, .int .i64 x.g.c.n, .string x.g.c.s, .string x.l.fr, .string x.l.co, .string x.l.tt, .int .i64 x.l.hw]] w fun e w' => (∃ v, e = .returned (.tuple #[v, .bool (implAct x)])) ∧ Below w.heap.size w w' := by
  cases h1 : (x.kd == 1)
  case true => exact deed_table x a0 a1 c0 c1 w hT hf h1
  cases h2 : (x.kd == 2)
  case true => exact deed_link x a0 a1 c0 c1 w hT hf h2
  cases h3 : (x.kd == 3)
  case true => exact deed_put x a0 a1 c0 c1 w hT hf h3
  cases h4 : (x.kd == 4)
  case true => exact deed_setd x a0 a1 c0 c1 w hT hf h4
  cases h5 : (x.kd == 5)
  case true => exact deed_off x a0 a1 c0 c1 w hT hf h5
  cases h6 : (x.kd == 6)
  case false => exact deed_none x a0 a1 c0 c1 w h1 h2 h3 h4 h5 h6
  cases g1 : (x.g.kd == 1)
  case true => exact deed_add x a0 a1 c0 c1 w hT hf h6 g1
  cases g2 : (x.g.kd == 2)
  case true => exact deed_drop x a0 a1 c0 c1 w hT hf h6 g2
  cases g3 : (x.g.kd == 3)
  case true => exact deed_named x a0 a1 c0 c1 w hT hf h6 g3
  cases g4 : (x.g.kd == 4)
  case true => exact deed_kindd x a0 a1 c0 c1 w hT hf h6 g4
  exact deed_nochg x a0 a1 c0 c1 w h6 g1 g2 g3 g4

set_option maxRecDepth 100000 in
set_option maxHeartbeats 1000000 in
theorem impl_act (x : AAct) (a0 a1 : Option Addr) (c0 c1 : Nat) (w : World) (hT : ActAt w a0 a1 x) (hf : x.fit) : Calls Tryz.prog 7 #[.agg #[.int .i64 x.kd, .string x.nm, .int .i64 x.id, .slice a0 x.sets.length c0, .slice a1 x.cols.length c1, .int .i64 x.g.kd, .string x.g.nm, .string x.g.nw, .string x.g.c.nm, .int .i64 x.g.c.kd, .bool x.g.c.nd, .bool x.g.c.oc, .int .i64 x.g.c.k, .int .i64 x.g.c.n, .string x.g.c.s, .string x.l.fr, .string x.l.co, .string x.l.tt, .int .i64 x.l.hw]] w fun e w' => e = .returned (.bool (implAct x)) ∧ Below w.heap.size w w' := by
  have hS : Hid (DeedIn w x a0 c0 a1 c1 (w.alloc (.cells #[.int .i64 x.kd, .string x.nm, .int .i64 x.id, .slice a0 x.sets.length c0, .slice a1 x.cols.length c1, .int .i64 x.g.kd, .string x.g.nm, .string x.g.nw, .string x.g.c.nm, .int .i64 x.g.c.kd, .bool x.g.c.nd, .bool x.g.c.oc, .int .i64 x.g.c.k, .int .i64 x.g.c.n, .string x.g.c.s, .string x.l.fr, .string x.l.co, .string x.l.tt, .int .i64 x.l.hw] 45))) := DeedIn.start x a0 a1 c0 c1 w hT
  have hR : (w.alloc (.cells #[.int .i64 x.kd, .string x.nm, .int .i64 x.id, .slice a0 x.sets.length c0, .slice a1 x.cols.length c1, .int .i64 x.g.kd, .string x.g.nm, .string x.g.nw, .string x.g.c.nm, .int .i64 x.g.c.kd, .bool x.g.c.nd, .bool x.g.c.oc, .int .i64 x.g.c.k, .int .i64 x.g.c.n, .string x.g.c.s, .string x.l.fr, .string x.l.co, .string x.l.tt, .int .i64 x.l.hw] 45)).rangeAt w.heap.size 0 [.int .i64 x.kd, .string x.nm, .int .i64 x.id, .slice a0 x.sets.length c0, .slice a1 x.cols.length c1, .int .i64 x.g.kd, .string x.g.nm, .string x.g.nw, .string x.g.c.nm, .int .i64 x.g.c.kd, .bool x.g.c.nd, .bool x.g.c.oc, .int .i64 x.g.c.k, .int .i64 x.g.c.n, .string x.g.c.s, .string x.l.fr, .string x.l.co, .string x.l.tt, .int .i64 x.l.hw] := hS.out.1.1
  go_enter Tryz.func7, Tryz.ntmps7
  go_wp2_with (refine ld_act rfl _ rfl _ rfl _ hR rfl ?_)
  refine (deed_any x a0 a1 c0 c1 _ hS.out.2 hf).mono ?_
  rintro e w1 ⟨⟨v, rfl⟩, hb⟩
  have hB : Hid (Below w.heap.size w w1) := hS.out.1.2.2.trans (hb.mono hS.out.1.2.2.size)
  clear hS hR hb
  go_wp2_with fail
  go_ret
  exact ⟨rfl, hB.out⟩

end Go.Proofs.YtacindondkcaiaaGreat
