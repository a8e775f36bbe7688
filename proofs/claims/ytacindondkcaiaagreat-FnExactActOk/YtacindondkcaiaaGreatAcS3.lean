/- The contract of spec.l5Only, over the seat's translation. -/
import Derived.Test.YtacindondkcaiaaGreatAcS2
namespace Go.Proofs.YtacindondkcaiaaGreat
open Go.RowKit

set_option maxRecDepth 100000 in
set_option maxHeartbeats 2000000 in
theorem only4 (x : AAct) (a0 a1 : Option Addr) (c0 c1 : Nat) (w : World) (h4 : (x.kd == 4) = true) :
    Calls Tryz.prog 13 #[.agg #[.int .i64 x.kd, .string x.nm, .int .i64 x.id, .slice a0 x.sets.length c0, .slice a1 x.cols.length c1, .int .i64 x.g.kd, .string x.g.nm, .string x.g.nw, .string x.g.c.nm, .int .i64 x.g.c.kd, .bool x.g.c.nd, .bool x.g.c.oc, .int .i64 x.g.c.k, .int .i64 x.g.c.n, .string x.g.c.s, .string x.l.fr, .string x.l.co, .string x.l.tt, .int .i64 x.l.hw]] w fun e w' => e = .returned (.bool (specOnly x)) ∧ Below w.heap.size w w' := by
  have h1 : (x.kd == 1) = false := by simp [beq_iff_eq.1 h4]
  have h2 : (x.kd == 2) = false := by simp [beq_iff_eq.1 h4]
  have h3 : (x.kd == 3) = false := by simp [beq_iff_eq.1 h4]
  have h5 : (x.kd == 5) = false := by simp [beq_iff_eq.1 h4]
  have h6 : (x.kd == 6) = false := by simp [beq_iff_eq.1 h4]
  have hv : specOnly x = (((eqK x.l lnk0) && (true)) && (((eqX x.g chg0) && (decide (x.cols.length = 0))) && ((true) && (true)))) := by simp only [specOnly, h1, h2, h3, h4, h5, h6, Bool.true_or, Bool.false_or, Bool.or_true, Bool.not_false]
  have q1 : (x.kd != 1) = true := by simp [bne, h1]
  have q2 : (x.kd != 2) = true := by simp [bne, h2]
  have q3 : (x.kd != 3) = true := by simp [bne, h3]
  have q4 : (x.kd != 4) = false := by simp [bne, h4]
  have q6 : (x.kd != 6) = true := by simp [bne, h6]
  have HV : Hid (specOnly x = (((eqK x.l lnk0) && (true)) && (((eqX x.g chg0) && (decide (x.cols.length = 0))) && ((true) && (true))))) := hv
  clear hv
  have hB : Hid (Below w.heap.size w (w.alloc (.cells #[.int .i64 x.kd, .string x.nm, .int .i64 x.id, .slice a0 x.sets.length c0, .slice a1 x.cols.length c1, .int .i64 x.g.kd, .string x.g.nm, .string x.g.nw, .string x.g.c.nm, .int .i64 x.g.c.kd, .bool x.g.c.nd, .bool x.g.c.oc, .int .i64 x.g.c.k, .int .i64 x.g.c.n, .string x.g.c.s, .string x.l.fr, .string x.l.co, .string x.l.tt, .int .i64 x.l.hw] 45))) := (Below.refl _ _).alloc (Nat.le_refl _) _
  have nl : ∀ w, (binOp .neq 43 (.agg #[.string x.l.fr, .string x.l.co, .string x.l.tt, .int .i64 x.l.hw]) (.agg #[.string ⟨#[]⟩, .string ⟨#[]⟩, .string ⟨#[]⟩, .int .i64 0])).run Tryz.prog w = .ok (.bool (!(eqK x.l lnk0))) w := neq_lnk x.l lnk0
  have nc : ∀ w, (binOp .neq 42 (.agg #[.int .i64 x.g.kd, .string x.g.nm, .string x.g.nw, .string x.g.c.nm, .int .i64 x.g.c.kd, .bool x.g.c.nd, .bool x.g.c.oc, .int .i64 x.g.c.k, .int .i64 x.g.c.n, .string x.g.c.s]) (.agg #[.int .i64 0, .string ⟨#[]⟩, .string ⟨#[]⟩, .string ⟨#[]⟩, .int .i64 0, .bool false, .bool false, .int .i64 0, .int .i64 0, .string ⟨#[]⟩])).run Tryz.prog w = .ok (.bool (!(eqX x.g chg0))) w := neq_chg x.g chg0
  cases k1 : (eqK x.l lnk0)
  case false =>
    rw [k1] at nl
    go_enter Tryz.func13, Tryz.ntmps13
    go_wp2_with fail
    go_ret
    exact ⟨ret_bool (by rw [HV.out]; simp [k1]), hB.out⟩
  rw [k1] at nl
  cases k2 : (eqX x.g chg0)
  case false =>
    rw [k2] at nc
    go_enter Tryz.func13, Tryz.ntmps13
    go_wp2_with fail
    go_ret
    exact ⟨ret_bool (by rw [HV.out]; simp [k2]), hB.out⟩
  rw [k2] at nc
  by_cases k3 : (0 : Int) < x.cols.length
  case pos =>
    have hj : ¬ x.cols.length = 0 := by omega
    have HJ : Hid (¬ x.cols.length = 0) := hj
    clear hj
    go_enter Tryz.func13, Tryz.ntmps13
    go_wp2_with fail
    go_ret
    exact ⟨ret_bool (by rw [HV.out]; simp [HJ.out]), hB.out⟩
  have jk3 : x.cols.length = 0 := by omega
  have Jk3 : Hid (x.cols.length = 0) := jk3
  clear jk3
  go_enter Tryz.func13, Tryz.ntmps13
  go_wp2_with fail
  go_ret
  exact ⟨ret_bool (by rw [HV.out]; simp [k1, k2, Jk3.out]), hB.out⟩

set_option maxRecDepth 100000 in
set_option maxHeartbeats 2000000 in
theorem only5 (x : AAct) (a0 a1 : Option Addr) (c0 c1 : Nat) (w : World) (h5 : (x.kd == 5) = true) :
    Calls Tryz.prog 13 #[.agg #[.int .i64 x.kd, .string x.nm, .int .i64 x.id, .slice a0 x.sets.length c0, .slice a1 x.cols.length c1, .int .i64 x.g.kd, .string x.g.nm, .string x.g.nw, .string x.g.c.nm, .int .i64 x.g.c.kd, .bool x.g.c.nd, .bool x.g.c.oc, .int .i64 x.g.c.k, .int .i64 x.g.c.n, .string x.g.c.s, .string x.l.fr, .string x.l.co, .string x.l.tt, .int .i64 x.l.hw]] w fun e w' => e = .returned (.bool (specOnly x)) ∧ Below w.heap.size w w' := by
  have h1 : (x.kd == 1) = false := by simp [beq_iff_eq.1 h5]
  have h2 : (x.kd == 2) = false := by simp [beq_iff_eq.1 h5]
  have h3 : (x.kd == 3) = false := by simp [beq_iff_eq.1 h5]
  have h4 : (x.kd == 4) = false := by simp [beq_iff_eq.1 h5]
  have h6 : (x.kd == 6) = false := by simp [beq_iff_eq.1 h5]
  have hv : specOnly x = (((eqK x.l lnk0) && (true)) && (((eqX x.g chg0) && (decide (x.cols.length = 0))) && ((decide (x.sets.length = 0)) && (true)))) := by simp only [specOnly, h1, h2, h3, h4, h5, h6, Bool.true_or, Bool.false_or, Bool.or_true, Bool.not_false]
  have q1 : (x.kd != 1) = true := by simp [bne, h1]
  have q2 : (x.kd != 2) = true := by simp [bne, h2]
  have q3 : (x.kd != 3) = true := by simp [bne, h3]
  have q4 : (x.kd != 4) = true := by simp [bne, h4]
  have q6 : (x.kd != 6) = true := by simp [bne, h6]
  have HV : Hid (specOnly x = (((eqK x.l lnk0) && (true)) && (((eqX x.g chg0) && (decide (x.cols.length = 0))) && ((decide (x.sets.length = 0)) && (true))))) := hv
  clear hv
  have hB : Hid (Below w.heap.size w (w.alloc (.cells #[.int .i64 x.kd, .string x.nm, .int .i64 x.id, .slice a0 x.sets.length c0, .slice a1 x.cols.length c1, .int .i64 x.g.kd, .string x.g.nm, .string x.g.nw, .string x.g.c.nm, .int .i64 x.g.c.kd, .bool x.g.c.nd, .bool x.g.c.oc, .int .i64 x.g.c.k, .int .i64 x.g.c.n, .string x.g.c.s, .string x.l.fr, .string x.l.co, .string x.l.tt, .int .i64 x.l.hw] 45))) := (Below.refl _ _).alloc (Nat.le_refl _) _
  have nl : ∀ w, (binOp .neq 43 (.agg #[.string x.l.fr, .string x.l.co, .string x.l.tt, .int .i64 x.l.hw]) (.agg #[.string ⟨#[]⟩, .string ⟨#[]⟩, .string ⟨#[]⟩, .int .i64 0])).run Tryz.prog w = .ok (.bool (!(eqK x.l lnk0))) w := neq_lnk x.l lnk0
  have nc : ∀ w, (binOp .neq 42 (.agg #[.int .i64 x.g.kd, .string x.g.nm, .string x.g.nw, .string x.g.c.nm, .int .i64 x.g.c.kd, .bool x.g.c.nd, .bool x.g.c.oc, .int .i64 x.g.c.k, .int .i64 x.g.c.n, .string x.g.c.s]) (.agg #[.int .i64 0, .string ⟨#[]⟩, .string ⟨#[]⟩, .string ⟨#[]⟩, .int .i64 0, .bool false, .bool false, .int .i64 0, .int .i64 0, .string ⟨#[]⟩])).run Tryz.prog w = .ok (.bool (!(eqX x.g chg0))) w := neq_chg x.g chg0
  cases k1 : (eqK x.l lnk0)
  case false =>
    rw [k1] at nl
    go_enter Tryz.func13, Tryz.ntmps13
    go_wp2_with fail
    go_ret
    exact ⟨ret_bool (by rw [HV.out]; simp [k1]), hB.out⟩
  rw [k1] at nl
  cases k2 : (eqX x.g chg0)
  case false =>
    rw [k2] at nc
    go_enter Tryz.func13, Tryz.ntmps13
    go_wp2_with fail
    go_ret
    exact ⟨ret_bool (by rw [HV.out]; simp [k2]), hB.out⟩
  rw [k2] at nc
  by_cases k3 : (0 : Int) < x.cols.length
  case pos =>
    have hj : ¬ x.cols.length = 0 := by omega
    have HJ : Hid (¬ x.cols.length = 0) := hj
    clear hj
    go_enter Tryz.func13, Tryz.ntmps13
    go_wp2_with fail
    go_ret
    exact ⟨ret_bool (by rw [HV.out]; simp [HJ.out]), hB.out⟩
  have jk3 : x.cols.length = 0 := by omega
  have Jk3 : Hid (x.cols.length = 0) := jk3
  clear jk3
  by_cases k4 : (0 : Int) < x.sets.length
  case pos =>
    have hj : ¬ x.sets.length = 0 := by omega
    have HJ : Hid (¬ x.sets.length = 0) := hj
    clear hj
    go_enter Tryz.func13, Tryz.ntmps13
    go_wp2_with fail
    go_ret
    exact ⟨ret_bool (by rw [HV.out]; simp [HJ.out]), hB.out⟩
  have jk4 : x.sets.length = 0 := by omega
  have Jk4 : Hid (x.sets.length = 0) := jk4
  clear jk4
  go_enter Tryz.func13, Tryz.ntmps13
  go_wp2_with fail
  go_ret
  exact ⟨ret_bool (by rw [HV.out]; simp [k1, k2, Jk3.out, Jk4.out]), hB.out⟩

set_option maxRecDepth 100000 in
set_option maxHeartbeats 2000000 in
theorem only6 (x : AAct) (a0 a1 : Option Addr) (c0 c1 : Nat) (w : World) (h6 : (x.kd == 6) = true) :
    Calls Tryz.prog 13 #[.agg #[.int .i64 x.kd, .string x.nm, .int .i64 x.id, .slice a0 x.sets.length c0, .slice a1 x.cols.length c1, .int .i64 x.g.kd, .string x.g.nm, .string x.g.nw, .string x.g.c.nm, .int .i64 x.g.c.kd, .bool x.g.c.nd, .bool x.g.c.oc, .int .i64 x.g.c.k, .int .i64 x.g.c.n, .string x.g.c.s, .string x.l.fr, .string x.l.co, .string x.l.tt, .int .i64 x.l.hw]] w fun e w' => e = .returned (.bool (specOnly x)) ∧ Below w.heap.size w w' := by
  have h1 : (x.kd == 1) = false := by simp [beq_iff_eq.1 h6]
  have h2 : (x.kd == 2) = false := by simp [beq_iff_eq.1 h6]
  have h3 : (x.kd == 3) = false := by simp [beq_iff_eq.1 h6]
  have h4 : (x.kd == 4) = false := by simp [beq_iff_eq.1 h6]
  have h5 : (x.kd == 5) = false := by simp [beq_iff_eq.1 h6]
  have hv : specOnly x = (((eqK x.l lnk0) && (true)) && (((true) && (decide (x.cols.length = 0))) && ((decide (x.sets.length = 0)) && (x.id == 0)))) := by simp only [specOnly, h1, h2, h3, h4, h5, h6, Bool.true_or, Bool.false_or, Bool.not_false]
  have q1 : (x.kd != 1) = true := by simp [bne, h1]
  have q2 : (x.kd != 2) = true := by simp [bne, h2]
  have q3 : (x.kd != 3) = true := by simp [bne, h3]
  have q4 : (x.kd != 4) = true := by simp [bne, h4]
  have q6 : (x.kd != 6) = false := by simp [bne, h6]
  have HV : Hid (specOnly x = (((eqK x.l lnk0) && (true)) && (((true) && (decide (x.cols.length = 0))) && ((decide (x.sets.length = 0)) && (x.id == 0))))) := hv
  clear hv
  have hB : Hid (Below w.heap.size w (w.alloc (.cells #[.int .i64 x.kd, .string x.nm, .int .i64 x.id, .slice a0 x.sets.length c0, .slice a1 x.cols.length c1, .int .i64 x.g.kd, .string x.g.nm, .string x.g.nw, .string x.g.c.nm, .int .i64 x.g.c.kd, .bool x.g.c.nd, .bool x.g.c.oc, .int .i64 x.g.c.k, .int .i64 x.g.c.n, .string x.g.c.s, .string x.l.fr, .string x.l.co, .string x.l.tt, .int .i64 x.l.hw] 45))) := (Below.refl _ _).alloc (Nat.le_refl _) _
  have nl : ∀ w, (binOp .neq 43 (.agg #[.string x.l.fr, .string x.l.co, .string x.l.tt, .int .i64 x.l.hw]) (.agg #[.string ⟨#[]⟩, .string ⟨#[]⟩, .string ⟨#[]⟩, .int .i64 0])).run Tryz.prog w = .ok (.bool (!(eqK x.l lnk0))) w := neq_lnk x.l lnk0
  cases k1 : (eqK x.l lnk0)
  case false =>
    rw [k1] at nl
    go_enter Tryz.func13, Tryz.ntmps13
    go_wp2_with fail
    go_ret
    exact ⟨ret_bool (by rw [HV.out]; simp [k1]), hB.out⟩
  rw [k1] at nl
  by_cases k3 : (0 : Int) < x.cols.length
  case pos =>
    have hj : ¬ x.cols.length = 0 := by omega
    have HJ : Hid (¬ x.cols.length = 0) := hj
    clear hj
    go_enter Tryz.func13, Tryz.ntmps13
    go_wp2_with fail
    go_ret
    exact ⟨ret_bool (by rw [HV.out]; simp [HJ.out]), hB.out⟩
  have jk3 : x.cols.length = 0 := by omega
  have Jk3 : Hid (x.cols.length = 0) := jk3
  clear jk3
  by_cases k4 : (0 : Int) < x.sets.length
  case pos =>
    have hj : ¬ x.sets.length = 0 := by omega
    have HJ : Hid (¬ x.sets.length = 0) := hj
    clear hj
    go_enter Tryz.func13, Tryz.ntmps13
    go_wp2_with fail
    go_ret
    exact ⟨ret_bool (by rw [HV.out]; simp [HJ.out]), hB.out⟩
  have jk4 : x.sets.length = 0 := by omega
  have Jk4 : Hid (x.sets.length = 0) := jk4
  clear jk4
  go_enter Tryz.func13, Tryz.ntmps13
  go_wp2_with fail
  go_ret
  exact ⟨ret_bool (by rw [HV.out]; simp [k1, Jk3.out, Jk4.out]), hB.out⟩

set_option maxRecDepth 100000 in
set_option maxHeartbeats 2000000 in
theorem only0 (x : AAct) (a0 a1 : Option Addr) (c0 c1 : Nat) (w : World) (h1 : (x.kd == 1) = false) (h2 : (x.kd == 2) = false) (h3 : (x.kd == 3) = false) (h4 : (x.kd == 4) = false) (h5 : (x.kd == 5) = false) (h6 : (x.kd == 6) = false) :
    Calls Tryz.prog 13 #[.agg #[.int .i64 x.kd, .string x.nm, .int .i64 x.id, .slice a0 x.sets.length c0, .slice a1 x.cols.length c1, .int .i64 x.g.kd, .string x.g.nm, .string x.g.nw, .string x.g.c.nm, .int .i64 x.g.c.kd, .bool x.g.c.nd, .bool x.g.c.oc, .int .i64 x.g.c.k, .int .i64 x.g.c.n, .string x.g.c.s, .string x.l.fr, .string x.l.co, .string x.l.tt, .int .i64 x.l.hw]] w fun e w' => e = .returned (.bool (specOnly x)) ∧ Below w.heap.size w w' := by
  have hv : specOnly x = (((eqK x.l lnk0) && (true)) && (((eqX x.g chg0) && (decide (x.cols.length = 0))) && ((decide (x.sets.length = 0)) && (x.id == 0)))) := by simp only [specOnly, h1, h2, h3, h4, h5, h6, Bool.true_or, Bool.false_or, Bool.not_false]
  have q1 : (x.kd != 1) = true := by simp [bne, h1]
  have q2 : (x.kd != 2) = true := by simp [bne, h2]
  have q3 : (x.kd != 3) = true := by simp [bne, h3]
  have q4 : (x.kd != 4) = true := by simp [bne, h4]
  have q6 : (x.kd != 6) = true := by simp [bne, h6]
  have HV : Hid (specOnly x = (((eqK x.l lnk0) && (true)) && (((eqX x.g chg0) && (decide (x.cols.length = 0))) && ((decide (x.sets.length = 0)) && (x.id == 0))))) := hv
  clear hv
  have hB : Hid (Below w.heap.size w (w.alloc (.cells #[.int .i64 x.kd, .string x.nm, .int .i64 x.id, .slice a0 x.sets.length c0, .slice a1 x.cols.length c1, .int .i64 x.g.kd, .string x.g.nm, .string x.g.nw, .string x.g.c.nm, .int .i64 x.g.c.kd, .bool x.g.c.nd, .bool x.g.c.oc, .int .i64 x.g.c.k, .int .i64 x.g.c.n, .string x.g.c.s, .string x.l.fr, .string x.l.co, .string x.l.tt, .int .i64 x.l.hw] 45))) := (Below.refl _ _).alloc (Nat.le_refl _) _
  have nl : ∀ w, (binOp .neq 43 (.agg #[.string x.l.fr, .string x.l.co, .string x.l.tt, .int .i64 x.l.hw]) (.agg #[.string ⟨#[]⟩, .string ⟨#[]⟩, .string ⟨#[]⟩, .int .i64 0])).run Tryz.prog w = .ok (.bool (!(eqK x.l lnk0))) w := neq_lnk x.l lnk0
  have nc : ∀ w, (binOp .neq 42 (.agg #[.int .i64 x.g.kd, .string x.g.nm, .string x.g.nw, .string x.g.c.nm, .int .i64 x.g.c.kd, .bool x.g.c.nd, .bool x.g.c.oc, .int .i64 x.g.c.k, .int .i64 x.g.c.n, .string x.g.c.s]) (.agg #[.int .i64 0, .string ⟨#[]⟩, .string ⟨#[]⟩, .string ⟨#[]⟩, .int .i64 0, .bool false, .bool false, .int .i64 0, .int .i64 0, .string ⟨#[]⟩])).run Tryz.prog w = .ok (.bool (!(eqX x.g chg0))) w := neq_chg x.g chg0
  cases k1 : (eqK x.l lnk0)
  case false =>
    rw [k1] at nl
    go_enter Tryz.func13, Tryz.ntmps13
    go_wp2_with fail
    go_ret
    exact ⟨ret_bool (by rw [HV.out]; simp [k1]), hB.out⟩
  rw [k1] at nl
  cases k2 : (eqX x.g chg0)
  case false =>
    rw [k2] at nc
    go_enter Tryz.func13, Tryz.ntmps13
    go_wp2_with fail
    go_ret
    exact ⟨ret_bool (by rw [HV.out]; simp [k2]), hB.out⟩
  rw [k2] at nc
  by_cases k3 : (0 : Int) < x.cols.length
  case pos =>
    have hj : ¬ x.cols.length = 0 := by omega
    have HJ : Hid (¬ x.cols.length = 0) := hj
    clear hj
    go_enter Tryz.func13, Tryz.ntmps13
    go_wp2_with fail
    go_ret
    exact ⟨ret_bool (by rw [HV.out]; simp [HJ.out]), hB.out⟩
  have jk3 : x.cols.length = 0 := by omega
  have Jk3 : Hid (x.cols.length = 0) := jk3
  clear jk3
  by_cases k4 : (0 : Int) < x.sets.length
  case pos =>
    have hj : ¬ x.sets.length = 0 := by omega
    have HJ : Hid (¬ x.sets.length = 0) := hj
    clear hj
    go_enter Tryz.func13, Tryz.ntmps13
    go_wp2_with fail
    go_ret
    exact ⟨ret_bool (by rw [HV.out]; simp [HJ.out]), hB.out⟩
  have jk4 : x.sets.length = 0 := by omega
  have Jk4 : Hid (x.sets.length = 0) := jk4
  clear jk4
  go_enter Tryz.func13, Tryz.ntmps13
  go_wp2_with fail
  go_ret
  exact ⟨ret_bool (by rw [HV.out]; simp [k1, k2, Jk3.out, Jk4.out]), hB.out⟩

theorem only_any (x : AAct) (a0 a1 : Option Addr) (c0 c1 : Nat) (w : World) : Calls Tryz.prog 13 #[.agg #[.int .i64 x.kd, .string x.nm, .int .i64 x.id, .slice a0 x.sets.length c0, .slice a1 x.cols.length c1, .int .i64 x.g.kd, .string x.g.nm, .string x.g.nw, .string x.g.c.nm, .int .i64 x.g.c.kd, .bool x.g.c.nd, .bool x.g.c.oc, .int .i64 x.g.c.k, .int .i64 x.g.c.n, .string x.g.c.s, .string x.l.fr, .string x.l.co, .string x.l.tt, .int .i64 x.l.hw]] w fun e w' => e = .returned (.bool (specOnly x)) ∧ Below w.heap.size w w' := by
  cases h1 : (x.kd == 1)
  case true => exact only1 x a0 a1 c0 c1 w h1
  cases h2 : (x.kd == 2)
  case true => exact only2 x a0 a1 c0 c1 w h2
  cases h3 : (x.kd == 3)
  case true => exact only3 x a0 a1 c0 c1 w h3
  cases h4 : (x.kd == 4)
  case true => exact only4 x a0 a1 c0 c1 w h4
  cases h5 : (x.kd == 5)
  case true => exact only5 x a0 a1 c0 c1 w h5
  cases h6 : (x.kd == 6)
  case true => exact only6 x a0 a1 c0 c1 w h6
  exact only0 x a0 a1 c0 c1 w h1 h2 h3 h4 h5 h6

end Go.Proofs.YtacindondkcaiaaGreat
