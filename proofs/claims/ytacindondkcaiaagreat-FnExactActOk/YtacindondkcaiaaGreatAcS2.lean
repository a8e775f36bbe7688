/- The contract of spec.l5Only, kind by kind, over the seat's translation. -/
import Derived.Test.YtacindondkcaiaaGreatAcS1
import Derived.Test.YtacindondkcaiaaGreatAcI4
namespace Go.Proofs.YtacindondkcaiaaGreat
open Go.RowKit

set_option maxRecDepth 100000 in
set_option maxHeartbeats 2000000 in
theorem only1 (x : AAct) (a0 a1 : Option Addr) (c0 c1 : Nat) (w : World) (h1 : (x.kd == 1) = true) :
    Calls Tryz.prog 13 #[.agg #[.int .i64 x.kd, .string x.nm, .int .i64 x.id, .slice a0 x.sets.length c0, .slice a1 x.cols.length c1, .int .i64 x.g.kd, .string x.g.nm, .string x.g.nw, .string x.g.c.nm, .int .i64 x.g.c.kd, .bool x.g.c.nd, .bool x.g.c.oc, .int .i64 x.g.c.k, .int .i64 x.g.c.n, .string x.g.c.s, .string x.l.fr, .string x.l.co, .string x.l.tt, .int .i64 x.l.hw]] w fun e w' => e = .returned (.bool (specOnly x)) ∧ Below w.heap.size w w' := by
  have h2 : (x.kd == 2) = false := by simp [beq_iff_eq.1 h1]
  have h3 : (x.kd == 3) = false := by simp [beq_iff_eq.1 h1]
  have h4 : (x.kd == 4) = false := by simp [beq_iff_eq.1 h1]
  have h5 : (x.kd == 5) = false := by simp [beq_iff_eq.1 h1]
  have h6 : (x.kd == 6) = false := by simp [beq_iff_eq.1 h1]
  have hv : specOnly x = (((eqK x.l lnk0) && (true)) && (((eqX x.g chg0) && (true)) && ((decide (x.sets.length = 0)) && (x.id == 0)))) := by simp only [specOnly, h1, h2, h3, h4, h5, h6, Bool.true_or, Bool.false_or, Bool.not_false]
  have q1 : (x.kd != 1) = false := by simp [bne, h1]
  have q2 : (x.kd != 2) = true := by simp [bne, h2]
  have q3 : (x.kd != 3) = true := by simp [bne, h3]
  have q4 : (x.kd != 4) = true := by simp [bne, h4]
  have q6 : (x.kd != 6) = true := by simp [bne, h6]
  have HV : Hid (specOnly x = (((eqK x.l lnk0) && (true)) && (((eqX x.g chg0) && (true)) && ((decide (x.sets.length = 0)) && (x.id == 0))))) := hv
  clear hv
  have hB : Hid (Below w.heap.size w (w.alloc (.cells #[.int .i64 x.kd, .string x.nm, .int .i64 x.id, .slice a0 x.sets.length c0, .slice a1 x.cols.length c1, .int .i64 x.g.kd, .string x.g.nm, .string x.g.nw, .string x.g.c.nm, .int .i64 x.g.c.kd, .bool x.g.c.nd, .bool x.g.c.oc, .int .i64 x.g.c.k, .int .i64 x.g.c.n, .string x.g.c.s, .string x.l.fr, .string x.l.co, .string x.l.tt, .int .i64 x.l.hw] 45))) := (Below.refl _ _).alloc (Nat.le_refl _) _
  have nl : ∀ w, (binOp .neq 43 (.agg #[.string x.l.fr, .string x.l.co, .string x.l.tt, .int .i64 x.l.hw]) (.agg #[.string ⟨#[]⟩, .string ⟨#[]⟩, .string ⟨#[]⟩, .int .i64 0])).run Tryz.prog w = .ok (.bool (!(eqK x.l lnk0))) w := neq_lnk x.l lnk0
  have nc : ∀ w, (binOp .neq 42 (.agg #[.int .i64 x.g.kd, .string x.g.nm, .string x.g.nw, .string x.g.c.nm, .int .i64 x.g.c.kd, .bool x.g.c.nd, .bool x.g.c.oc, .int .i64 x.g.c.k, .int .i64 x.g.c.n, .string x.g.c.s]) (.agg #[.int .i64 0, .string ⟨#[]⟩, .string ⟨#[]⟩, .string ⟨#[]⟩, .int .i64 0, .bool false, .bool false, .int .i64 0, .int .i64 0, .string ⟨#[]⟩])).run Tryz.prog w = .ok (.bool (!(eqX x.g chg0))) w := neq_chg x.g chg0
  cases k1 : (eqK x.l lnk0)
  case false =>
    rw [k1] at nl
    go_enter Tryz.func13, Tryz.ntmps13
    go_wp2_with fail
    go_ret
    exact ⟨ret_bool (by rw [HV.out]; simp [k1]), hB.out⟩
  rw [k1] at nl
  cases k2 : (eqX x.g chg0)
  case false =>
    rw [k2] at nc
    go_enter Tryz.func13, Tryz.ntmps13
    go_wp2_with fail
    go_ret
    exact ⟨ret_bool (by rw [HV.out]; simp [k2]), hB.out⟩
  rw [k2] at nc
  by_cases k4 : (0 : Int) < x.sets.length
  case pos =>
    have hj : ¬ x.sets.length = 0 := by omega
    have HJ : Hid (¬ x.sets.length = 0) := hj
    clear hj
    go_enter Tryz.func13, Tryz.ntmps13
    go_wp2_with fail
    go_ret
    exact ⟨ret_bool (by rw [HV.out]; simp [HJ.out]), hB.out⟩
  have jk4 : x.sets.length = 0 := by omega
  have Jk4 : Hid (x.sets.length = 0) := jk4
  clear jk4
  go_enter Tryz.func13, Tryz.ntmps13
  go_wp2_with fail
  go_ret
  exact ⟨ret_bool (by rw [HV.out]; simp [k1, k2, Jk4.out]), hB.out⟩

set_option maxRecDepth 100000 in
set_option maxHeartbeats 2000000 in
theorem only2 (x : AAct) (a0 a1 : Option Addr) (c0 c1 : Nat) (w : World) (h2 : (x.kd == 2) = true) :
    Calls Tryz.prog 13 #[.agg #[.int .i64 x.kd, .string x.nm, .int .i64 x.id, .slice a0 x.sets.length c0, .slice a1 x.cols.length c1, .int .i64 x.g.kd, .string x.g.nm, .string x.g.nw, .string x.g.c.nm, .int .i64 x.g.c.kd, .bool x.g.c.nd, .bool x.g.c.oc, .int .i64 x.g.c.k, .int .i64 x.g.c.n, .string x.g.c.s, .string x.l.fr, .string x.l.co, .string x.l.tt, .int .i64 x.l.hw]] w fun e w' => e = .returned (.bool (specOnly x)) ∧ Below w.heap.size w w' := by
  have h1 : (x.kd == 1) = false := by simp [beq_iff_eq.1 h2]
  have h3 : (x.kd == 3) = false := by simp [beq_iff_eq.1 h2]
  have h4 : (x.kd == 4) = false := by simp [beq_iff_eq.1 h2]
  have h5 : (x.kd == 5) = false := by simp [beq_iff_eq.1 h2]
  have h6 : (x.kd == 6) = false := by simp [beq_iff_eq.1 h2]
  have hv : specOnly x = (((true) && (x.nm.toList == [])) && (((eqX x.g chg0) && (decide (x.cols.length = 0))) && ((decide (x.sets.length = 0)) && (x.id == 0)))) := by simp only [specOnly, h1, h2, h3, h4, h5, h6, Bool.true_or, Bool.false_or, Bool.not_true]
  have q1 : (x.kd != 1) = true := by simp [bne, h1]
  have q2 : (x.kd != 2) = false := by simp [bne, h2]
  have q3 : (x.kd != 3) = true := by simp [bne, h3]
  have q4 : (x.kd != 4) = true := by simp [bne, h4]
  have q6 : (x.kd != 6) = true := by simp [bne, h6]
  have HV : Hid (specOnly x = (((true) && (x.nm.toList == [])) && (((eqX x.g chg0) && (decide (x.cols.length = 0))) && ((decide (x.sets.length = 0)) && (x.id == 0))))) := hv
  clear hv
  have hB : Hid (Below w.heap.size w (w.alloc (.cells #[.int .i64 x.kd, .string x.nm, .int .i64 x.id, .slice a0 x.sets.length c0, .slice a1 x.cols.length c1, .int .i64 x.g.kd, .string x.g.nm, .string x.g.nw, .string x.g.c.nm, .int .i64 x.g.c.kd, .bool x.g.c.nd, .bool x.g.c.oc, .int .i64 x.g.c.k, .int .i64 x.g.c.n, .string x.g.c.s, .string x.l.fr, .string x.l.co, .string x.l.tt, .int .i64 x.l.hw] 45))) := (Below.refl _ _).alloc (Nat.le_refl _) _
  have nc : ∀ w, (binOp .neq 42 (.agg #[.int .i64 x.g.kd, .string x.g.nm, .string x.g.nw, .string x.g.c.nm, .int .i64 x.g.c.kd, .bool x.g.c.nd, .bool x.g.c.oc, .int .i64 x.g.c.k, .int .i64 x.g.c.n, .string x.g.c.s]) (.agg #[.int .i64 0, .string ⟨#[]⟩, .string ⟨#[]⟩, .string ⟨#[]⟩, .int .i64 0, .bool false, .bool false, .int .i64 0, .int .i64 0, .string ⟨#[]⟩])).run Tryz.prog w = .ok (.bool (!(eqX x.g chg0))) w := neq_chg x.g chg0
  cases k1 : (x.nm.toList.isEmpty)
  case false =>
    go_enter Tryz.func13, Tryz.ntmps13
    go_wp2_with fail
    go_ret
    exact ⟨ret_bool (by rw [HV.out]; simp [k1]), hB.out⟩
  cases k2 : (eqX x.g chg0)
  case false =>
    rw [k2] at nc
    go_enter Tryz.func13, Tryz.ntmps13
    go_wp2_with fail
    go_ret
    exact ⟨ret_bool (by rw [HV.out]; simp [k2]), hB.out⟩
  rw [k2] at nc
  by_cases k3 : (0 : Int) < x.cols.length
  case pos =>
    have hj : ¬ x.cols.length = 0 := by omega
    have HJ : Hid (¬ x.cols.length = 0) := hj
    clear hj
    go_enter Tryz.func13, Tryz.ntmps13
    go_wp2_with fail
    go_ret
    exact ⟨ret_bool (by rw [HV.out]; simp [HJ.out]), hB.out⟩
  have jk3 : x.cols.length = 0 := by omega
  have Jk3 : Hid (x.cols.length = 0) := jk3
  clear jk3
  by_cases k4 : (0 : Int) < x.sets.length
  case pos =>
    have hj : ¬ x.sets.length = 0 := by omega
    have HJ : Hid (¬ x.sets.length = 0) := hj
    clear hj
    go_enter Tryz.func13, Tryz.ntmps13
    go_wp2_with fail
    go_ret
    exact ⟨ret_bool (by rw [HV.out]; simp [HJ.out]), hB.out⟩
  have jk4 : x.sets.length = 0 := by omega
  have Jk4 : Hid (x.sets.length = 0) := jk4
  clear jk4
  go_enter Tryz.func13, Tryz.ntmps13
  go_wp2_with fail
  go_ret
  exact ⟨ret_bool (by rw [HV.out]; simp [k1, k2, Jk3.out, Jk4.out]), hB.out⟩

set_option maxRecDepth 100000 in
set_option maxHeartbeats 2000000 in
theorem only3 (x : AAct) (a0 a1 : Option Addr) (c0 c1 : Nat) (w : World) (h3 : (x.kd == 3) = true) :
    Calls Tryz.prog 13 #[.agg #[.int .i64 x.kd, .string x.nm, .int .i64 x.id, .slice a0 x.sets.length c0, .slice a1 x.cols.length c1, .int .i64 x.g.kd, .string x.g.nm, .string x.g.nw, .string x.g.c.nm, .int .i64 x.g.c.kd, .bool x.g.c.nd, .bool x.g.c.oc, .int .i64 x.g.c.k, .int .i64 x.g.c.n, .string x.g.c.s, .string x.l.fr, .string x.l.co, .string x.l.tt, .int .i64 x.l.hw]] w fun e w' => e = .returned (.bool (specOnly x)) ∧ Below w.heap.size w w' := by
  have h1 : (x.kd == 1) = false := by simp [beq_iff_eq.1 h3]
  have h2 : (x.kd == 2) = false := by simp [beq_iff_eq.1 h3]
  have h4 : (x.kd == 4) = false := by simp [beq_iff_eq.1 h3]
  have h5 : (x.kd == 5) = false := by simp [beq_iff_eq.1 h3]
  have h6 : (x.kd == 6) = false := by simp [beq_iff_eq.1 h3]
  have hv : specOnly x = (((eqK x.l lnk0) && (true)) && (((eqX x.g chg0) && (decide (x.cols.length = 0))) && ((true) && (x.id == 0)))) := by simp only [specOnly, h1, h2, h3, h4, h5, h6, Bool.true_or, Bool.false_or, Bool.not_false]
  have q1 : (x.kd != 1) = true := by simp [bne, h1]
  have q2 : (x.kd != 2) = true := by simp [bne, h2]
  have q3 : (x.kd != 3) = false := by simp [bne, h3]
  have q4 : (x.kd != 4) = true := by simp [bne, h4]
  have q6 : (x.kd != 6) = true := by simp [bne, h6]
  have HV : Hid (specOnly x = (((eqK x.l lnk0) && (true)) && (((eqX x.g chg0) && (decide (x.cols.length = 0))) && ((true) && (x.id == 0))))) := hv
  clear hv
  have hB : Hid (Below w.heap.size w (w.alloc (.cells #[.int .i64 x.kd, .string x.nm, .int .i64 x.id, .slice a0 x.sets.length c0, .slice a1 x.cols.length c1, .int .i64 x.g.kd, .string x.g.nm, .string x.g.nw, .string x.g.c.nm, .int .i64 x.g.c.kd, .bool x.g.c.nd, .bool x.g.c.oc, .int .i64 x.g.c.k, .int .i64 x.g.c.n, .string x.g.c.s, .string x.l.fr, .string x.l.co, .string x.l.tt, .int .i64 x.l.hw] 45))) := (Below.refl _ _).alloc (Nat.le_refl _) _
  have nl : ∀ w, (binOp .neq 43 (.agg #[.string x.l.fr, .string x.l.co, .string x.l.tt, .int .i64 x.l.hw]) (.agg #[.string ⟨#[]⟩, .string ⟨#[]⟩, .string ⟨#[]⟩, .int .i64 0])).run Tryz.prog w = .ok (.bool (!(eqK x.l lnk0))) w := neq_lnk x.l lnk0
  have nc : ∀ w, (binOp .neq 42 (.agg #[.int .i64 x.g.kd, .string x.g.nm, .string x.g.nw, .string x.g.c.nm, .int .i64 x.g.c.kd, .bool x.g.c.nd, .bool x.g.c.oc, .int .i64 x.g.c.k, .int .i64 x.g.c.n, .string x.g.c.s]) (.agg #[.int .i64 0, .string ⟨#[]⟩, .string ⟨#[]⟩, .string ⟨#[]⟩, .int .i64 0, .bool false, .bool false, .int .i64 0, .int .i64 0, .string ⟨#[]⟩])).run Tryz.prog w = .ok (.bool (!(eqX x.g chg0))) w := neq_chg x.g chg0
  cases k1 : (eqK x.l lnk0)
  case false =>
    rw [k1] at nl
    go_enter Tryz.func13, Tryz.ntmps13
    go_wp2_with fail
    go_ret
    exact ⟨ret_bool (by rw [HV.out]; simp [k1]), hB.out⟩
  rw [k1] at nl
  cases k2 : (eqX x.g chg0)
  case false =>
    rw [k2] at nc
    go_enter Tryz.func13, Tryz.ntmps13
    go_wp2_with fail
    go_ret
    exact ⟨ret_bool (by rw [HV.out]; simp [k2]), hB.out⟩
  rw [k2] at nc
  by_cases k3 : (0 : Int) < x.cols.length
  case pos =>
    have hj : ¬ x.cols.length = 0 := by omega
    have HJ : Hid (¬ x.cols.length = 0) := hj
    clear hj
    go_enter Tryz.func13, Tryz.ntmps13
    go_wp2_with fail
    go_ret
    exact ⟨ret_bool (by rw [HV.out]; simp [HJ.out]), hB.out⟩
  have jk3 : x.cols.length = 0 := by omega
  have Jk3 : Hid (x.cols.length = 0) := jk3
  clear jk3
  go_enter Tryz.func13, Tryz.ntmps13
  go_wp2_with fail
  go_ret
  exact ⟨ret_bool (by rw [HV.out]; simp [k1, k2, Jk3.out]), hB.out⟩

end Go.Proofs.YtacindondkcaiaaGreat
