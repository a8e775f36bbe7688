/- The contract of spec.ActOk, kind by kind, over the seat's translation. -/
import Derived.Test.YtacindondkcaiaaGreatAcS3
import Derived.Test.YtacindondkcaiaaGreatAcI5
namespace Go.Proofs.YtacindondkcaiaaGreat
open Go.RowKit

set_option maxRecDepth 100000 in
set_option maxHeartbeats 2000000 in
theorem sact1 (x : AAct) (a0 a1 : Option Addr) (c0 c1 : Nat) (w : World) (hT : ActAt w a0 a1 x) (hf : x.fit) (h1 : (x.kd == 1) = true) :
    Calls Tryz.prog 5 #[.agg #[.int .i64 x.kd, .string x.nm, .int .i64 x.id, .slice a0 x.sets.length c0, .slice a1 x.cols.length c1, .int .i64 x.g.kd, .string x.g.nm, .string x.g.nw, .string x.g.c.nm, .int .i64 x.g.c.kd, .bool x.g.c.nd, .bool x.g.c.oc, .int .i64 x.g.c.k, .int .i64 x.g.c.n, .string x.g.c.s, .string x.l.fr, .string x.l.co, .string x.l.tt, .int .i64 x.l.hw]] w fun e w' => e = .returned (.bool (specAct x)) ∧ Below w.heap.size w w' := by
  have h2 : (x.kd == 2) = false := by simp [beq_iff_eq.1 h1]
  have h3 : (x.kd == 3) = false := by simp [beq_iff_eq.1 h1]
  have h4 : (x.kd == 4) = false := by simp [beq_iff_eq.1 h1]
  have h5 : (x.kd == 5) = false := by simp [beq_iff_eq.1 h1]
  have h6 : (x.kd == 6) = false := by simp [beq_iff_eq.1 h1]
  have q2 : (x.kd != 2) = true := by simp [bne, h2]
  have hv : specAct x = (specOnly x && (nameOk x.nm && (idOk x.id && (colsOk x.cols)))) := by simp [specAct, specKind, beq_iff_eq.1 h1]
  have HV : Hid (specAct x = (specOnly x && (nameOk x.nm && (idOk x.id && (colsOk x.cols))))) := hv
  clear hv
  have HS : Hid (DeedIn w x a0 c0 a1 c1 (w.alloc (.cells #[.int .i64 x.kd, .string x.nm, .int .i64 x.id, .slice a0 x.sets.length c0, .slice a1 x.cols.length c1, .int .i64 x.g.kd, .string x.g.nm, .string x.g.nw, .string x.g.c.nm, .int .i64 x.g.c.kd, .bool x.g.c.nd, .bool x.g.c.oc, .int .i64 x.g.c.k, .int .i64 x.g.c.n, .string x.g.c.s, .string x.l.fr, .string x.l.co, .string x.l.tt, .int .i64 x.l.hw] 45))) := DeedIn.start x a0 a1 c0 c1 w hT
  have hR : (w.alloc (.cells #[.int .i64 x.kd, .string x.nm, .int .i64 x.id, .slice a0 x.sets.length c0, .slice a1 x.cols.length c1, .int .i64 x.g.kd, .string x.g.nm, .string x.g.nw, .string x.g.c.nm, .int .i64 x.g.c.kd, .bool x.g.c.nd, .bool x.g.c.oc, .int .i64 x.g.c.k, .int .i64 x.g.c.n, .string x.g.c.s, .string x.l.fr, .string x.l.co, .string x.l.tt, .int .i64 x.l.hw] 45)).rangeAt w.heap.size 0 [.int .i64 x.kd, .string x.nm, .int .i64 x.id, .slice a0 x.sets.length c0, .slice a1 x.cols.length c1, .int .i64 x.g.kd, .string x.g.nm, .string x.g.nw, .string x.g.c.nm, .int .i64 x.g.c.kd, .bool x.g.c.nd, .bool x.g.c.oc, .int .i64 x.g.c.k, .int .i64 x.g.c.n, .string x.g.c.s, .string x.l.fr, .string x.l.co, .string x.l.tt, .int .i64 x.l.hw] := HS.out.1.1
  have HF : Hid x.fit := hf
  clear hT hf
  go_enter Tryz.func5, Tryz.ntmps5
  go_wp2_with (refine ld_act rfl _ rfl _ rfl _ hR rfl ?_)
  refine (only_any x a0 a1 c0 c1 _).mono ?_
  rintro e w1 ⟨rfl, hb⟩
  have HS1 : Hid (DeedIn w x a0 c0 a1 c1 w1) := HS.out.next hb
  clear HS hR hb
  have X1 := box19 HS1.out.1.1
  cases ho : specOnly x
  case false =>
    go_wp2_with fail
    go_ret
    exact ⟨ret_bool (by rw [HV.out]; simp [ho]), HS1.out.1.2.2⟩
  go_wp2_with fail
  refine (l2_name x.nm _ HF.out.1).mono ?_
  rintro e wz ⟨rfl, hz⟩
  subst hz
  cases hn : nameOk x.nm
  case false =>
    go_wp2_with fail
    go_ret
    exact ⟨ret_bool (by rw [HV.out]; simp [hn]), HS1.out.1.2.2⟩
  by_cases i1 : x.id < 0
  case pos =>
    have HI : Hid (idOk x.id = false) := by show idOk x.id = false; rw [Bool.eq_false_iff]; simp only [idOk, ne_eq, Bool.and_eq_true, decide_eq_true_eq]; omega
    go_wp2_with fail
    go_ret
    exact ⟨ret_bool (by rw [HV.out]; simp [HI.out]), HS1.out.1.2.2⟩
  by_cases i2 : 60 < x.id
  case pos =>
    have HI : Hid (idOk x.id = false) := by show idOk x.id = false; rw [Bool.eq_false_iff]; simp only [idOk, ne_eq, Bool.and_eq_true, decide_eq_true_eq]; omega
    go_wp2_with fail
    go_ret
    exact ⟨ret_bool (by rw [HV.out]; simp [HI.out]), HS1.out.1.2.2⟩
  have HI : Hid (idOk x.id = true) := by
    show idOk x.id = true
    simp only [idOk, Bool.and_eq_true, decide_eq_true_eq]
    omega
  go_wp2_with fail
  refine (spec_cols _ _ _ _ HS1.out.2.2 HF.out.2.2.1.1 HF.out.2.2.1.2).mono ?_
  rintro e w2 ⟨rfl, hq⟩
  have B2 : Hid (Below w.heap.size w w2) := HS1.out.1.2.2.trans (hq.mono HS1.out.1.2.2.size)
  clear X1 HS1 hq
  go_wp2_with fail
  go_ret
  exact ⟨ret_bool (by rw [HV.out]; simp [ho, hn, HI.out]), B2.out⟩

set_option maxRecDepth 100000 in
set_option maxHeartbeats 2000000 in
theorem sact2 (x : AAct) (a0 a1 : Option Addr) (c0 c1 : Nat) (w : World) (hT : ActAt w a0 a1 x) (hf : x.fit) (h2 : (x.kd == 2) = true) :
    Calls Tryz.prog 5 #[.agg #[.int .i64 x.kd, .string x.nm, .int .i64 x.id, .slice a0 x.sets.length c0, .slice a1 x.cols.length c1, .int .i64 x.g.kd, .string x.g.nm, .string x.g.nw, .string x.g.c.nm, .int .i64 x.g.c.kd, .bool x.g.c.nd, .bool x.g.c.oc, .int .i64 x.g.c.k, .int .i64 x.g.c.n, .string x.g.c.s, .string x.l.fr, .string x.l.co, .string x.l.tt, .int .i64 x.l.hw]] w fun e w' => e = .returned (.bool (specAct x)) ∧ Below w.heap.size w w' := by
  have h1 : (x.kd == 1) = false := by simp [beq_iff_eq.1 h2]
  have h3 : (x.kd == 3) = false := by simp [beq_iff_eq.1 h2]
  have h4 : (x.kd == 4) = false := by simp [beq_iff_eq.1 h2]
  have h5 : (x.kd == 5) = false := by simp [beq_iff_eq.1 h2]
  have h6 : (x.kd == 6) = false := by simp [beq_iff_eq.1 h2]
  have q2 : (x.kd != 2) = false := by simp [bne, h2]
  have hv : specAct x = (specOnly x && (true && (idOk x.id && (linkOk x.l)))) := by simp [specAct, specKind, beq_iff_eq.1 h2]
  have HV : Hid (specAct x = (specOnly x && (true && (idOk x.id && (linkOk x.l))))) := hv
  clear hv
  have HS : Hid (DeedIn w x a0 c0 a1 c1 (w.alloc (.cells #[.int .i64 x.kd, .string x.nm, .int .i64 x.id, .slice a0 x.sets.length c0, .slice a1 x.cols.length c1, .int .i64 x.g.kd, .string x.g.nm, .string x.g.nw, .string x.g.c.nm, .int .i64 x.g.c.kd, .bool x.g.c.nd, .bool x.g.c.oc, .int .i64 x.g.c.k, .int .i64 x.g.c.n, .string x.g.c.s, .string x.l.fr, .string x.l.co, .string x.l.tt, .int .i64 x.l.hw] 45))) := DeedIn.start x a0 a1 c0 c1 w hT
  have hR : (w.alloc (.cells #[.int .i64 x.kd, .string x.nm, .int .i64 x.id, .slice a0 x.sets.length c0, .slice a1 x.cols.length c1, .int .i64 x.g.kd, .string x.g.nm, .string x.g.nw, .string x.g.c.nm, .int .i64 x.g.c.kd, .bool x.g.c.nd, .bool x.g.c.oc, .int .i64 x.g.c.k, .int .i64 x.g.c.n, .string x.g.c.s, .string x.l.fr, .string x.l.co, .string x.l.tt, .int .i64 x.l.hw] 45)).rangeAt w.heap.size 0 [.int .i64 x.kd, .string x.nm, .int .i64 x.id, .slice a0 x.sets.length c0, .slice a1 x.cols.length c1, .int .i64 x.g.kd, .string x.g.nm, .string x.g.nw, .string x.g.c.nm, .int .i64 x.g.c.kd, .bool x.g.c.nd, .bool x.g.c.oc, .int .i64 x.g.c.k, .int .i64 x.g.c.n, .string x.g.c.s, .string x.l.fr, .string x.l.co, .string x.l.tt, .int .i64 x.l.hw] := HS.out.1.1
  have HF : Hid x.fit := hf
  clear hT hf
  go_enter Tryz.func5, Tryz.ntmps5
  go_wp2_with (refine ld_act rfl _ rfl _ rfl _ hR rfl ?_)
  refine (only_any x a0 a1 c0 c1 _).mono ?_
  rintro e w1 ⟨rfl, hb⟩
  have HS1 : Hid (DeedIn w x a0 c0 a1 c1 w1) := HS.out.next hb
  clear HS hR hb
  have X1 := box19 HS1.out.1.1
  cases ho : specOnly x
  case false =>
    go_wp2_with fail
    go_ret
    exact ⟨ret_bool (by rw [HV.out]; simp [ho]), HS1.out.1.2.2⟩
  by_cases i1 : x.id < 0
  case pos =>
    have HI : Hid (idOk x.id = false) := by show idOk x.id = false; rw [Bool.eq_false_iff]; simp only [idOk, ne_eq, Bool.and_eq_true, decide_eq_true_eq]; omega
    go_wp2_with fail
    go_ret
    exact ⟨ret_bool (by rw [HV.out]; simp [HI.out]), HS1.out.1.2.2⟩
  by_cases i2 : 60 < x.id
  case pos =>
    have HI : Hid (idOk x.id = false) := by show idOk x.id = false; rw [Bool.eq_false_iff]; simp only [idOk, ne_eq, Bool.and_eq_true, decide_eq_true_eq]; omega
    go_wp2_with fail
    go_ret
    exact ⟨ret_bool (by rw [HV.out]; simp [HI.out]), HS1.out.1.2.2⟩
  have HI : Hid (idOk x.id = true) := by
    show idOk x.id = true
    simp only [idOk, Bool.and_eq_true, decide_eq_true_eq]
    omega
  go_wp2_with fail
  refine (spec_link x.l _ HF.out.2.2.2.2).mono ?_
  rintro e w2 ⟨rfl, hq⟩
  have B2 : Hid (Below w.heap.size w w2) := HS1.out.1.2.2.trans (hq.mono HS1.out.1.2.2.size)
  clear X1 HS1 hq
  go_wp2_with fail
  go_ret
  exact ⟨ret_bool (by rw [HV.out]; simp [ho, HI.out]), B2.out⟩

set_option maxRecDepth 100000 in
set_option maxHeartbeats 2000000 in
theorem sact3 (x : AAct) (a0 a1 : Option Addr) (c0 c1 : Nat) (w : World) (hT : ActAt w a0 a1 x) (hf : x.fit) (h3 : (x.kd == 3) = true) :
    Calls Tryz.prog 5 #[.agg #[.int .i64 x.kd, .string x.nm, .int .i64 x.id, .slice a0 x.sets.length c0, .slice a1 x.cols.length c1, .int .i64 x.g.kd, .string x.g.nm, .string x.g.nw, .string x.g.c.nm, .int .i64 x.g.c.kd, .bool x.g.c.nd, .bool x.g.c.oc, .int .i64 x.g.c.k, .int .i64 x.g.c.n, .string x.g.c.s, .string x.l.fr, .string x.l.co, .string x.l.tt, .int .i64 x.l.hw]] w fun e w' => e = .returned (.bool (specAct x)) ∧ Below w.heap.size w w' := by
  have h1 : (x.kd == 1) = false := by simp [beq_iff_eq.1 h3]
  have h2 : (x.kd == 2) = false := by simp [beq_iff_eq.1 h3]
  have h4 : (x.kd == 4) = false := by simp [beq_iff_eq.1 h3]
  have h5 : (x.kd == 5) = false := by simp [beq_iff_eq.1 h3]
  have h6 : (x.kd == 6) = false := by simp [beq_iff_eq.1 h3]
  have q2 : (x.kd != 2) = true := by simp [bne, h2]
  have hv : specAct x = (specOnly x && (nameOk x.nm && (idOk x.id && (setsOk x.sets)))) := by simp [specAct, specKind, beq_iff_eq.1 h3]
  have HV : Hid (specAct x = (specOnly x && (nameOk x.nm && (idOk x.id && (setsOk x.sets))))) := hv
  clear hv
  have HS : Hid (DeedIn w x a0 c0 a1 c1 (w.alloc (.cells #[.int .i64 x.kd, .string x.nm, .int .i64 x.id, .slice a0 x.sets.length c0, .slice a1 x.cols.length c1, .int .i64 x.g.kd, .string x.g.nm, .string x.g.nw, .string x.g.c.nm, .int .i64 x.g.c.kd, .bool x.g.c.nd, .bool x.g.c.oc, .int .i64 x.g.c.k, .int .i64 x.g.c.n, .string x.g.c.s, .string x.l.fr, .string x.l.co, .string x.l.tt, .int .i64 x.l.hw] 45))) := DeedIn.start x a0 a1 c0 c1 w hT
  have hR : (w.alloc (.cells #[.int .i64 x.kd, .string x.nm, .int .i64 x.id, .slice a0 x.sets.length c0, .slice a1 x.cols.length c1, .int .i64 x.g.kd, .string x.g.nm, .string x.g.nw, .string x.g.c.nm, .int .i64 x.g.c.kd, .bool x.g.c.nd, .bool x.g.c.oc, .int .i64 x.g.c.k, .int .i64 x.g.c.n, .string x.g.c.s, .string x.l.fr, .string x.l.co, .string x.l.tt, .int .i64 x.l.hw] 45)).rangeAt w.heap.size 0 [.int .i64 x.kd, .string x.nm, .int .i64 x.id, .slice a0 x.sets.length c0, .slice a1 x.cols.length c1, .int .i64 x.g.kd, .string x.g.nm, .string x.g.nw, .string x.g.c.nm, .int .i64 x.g.c.kd, .bool x.g.c.nd, .bool x.g.c.oc, .int .i64 x.g.c.k, .int .i64 x.g.c.n, .string x.g.c.s, .string x.l.fr, .string x.l.co, .string x.l.tt, .int .i64 x.l.hw] := HS.out.1.1
  have HF : Hid x.fit := hf
  clear hT hf
  go_enter Tryz.func5, Tryz.ntmps5
  go_wp2_with (refine ld_act rfl _ rfl _ rfl _ hR rfl ?_)
  refine (only_any x a0 a1 c0 c1 _).mono ?_
  rintro e w1 ⟨rfl, hb⟩
  have HS1 : Hid (DeedIn w x a0 c0 a1 c1 w1) := HS.out.next hb
  clear HS hR hb
  have X1 := box19 HS1.out.1.1
  cases ho : specOnly x
  case false =>
    go_wp2_with fail
    go_ret
    exact ⟨ret_bool (by rw [HV.out]; simp [ho]), HS1.out.1.2.2⟩
  go_wp2_with fail
  refine (l2_name x.nm _ HF.out.1).mono ?_
  rintro e wz ⟨rfl, hz⟩
  subst hz
  cases hn : nameOk x.nm
  case false =>
    go_wp2_with fail
    go_ret
    exact ⟨ret_bool (by rw [HV.out]; simp [hn]), HS1.out.1.2.2⟩
  by_cases i1 : x.id < 0
  case pos =>
    have HI : Hid (idOk x.id = false) := by show idOk x.id = false; rw [Bool.eq_false_iff]; simp only [idOk, ne_eq, Bool.and_eq_true, decide_eq_true_eq]; omega
    go_wp2_with fail
    go_ret
    exact ⟨ret_bool (by rw [HV.out]; simp [HI.out]), HS1.out.1.2.2⟩
  by_cases i2 : 60 < x.id
  case pos =>
    have HI : Hid (idOk x.id = false) := by show idOk x.id = false; rw [Bool.eq_false_iff]; simp only [idOk, ne_eq, Bool.and_eq_true, decide_eq_true_eq]; omega
    go_wp2_with fail
    go_ret
    exact ⟨ret_bool (by rw [HV.out]; simp [HI.out]), HS1.out.1.2.2⟩
  have HI : Hid (idOk x.id = true) := by
    show idOk x.id = true
    simp only [idOk, Bool.and_eq_true, decide_eq_true_eq]
    omega
  go_wp2_with fail
  refine (spec_sets _ _ _ _ HS1.out.2.1 HF.out.2.1.1 HF.out.2.1.2).mono ?_
  rintro e w2 ⟨rfl, hq⟩
  have B2 : Hid (Below w.heap.size w w2) := HS1.out.1.2.2.trans (hq.mono HS1.out.1.2.2.size)
  clear X1 HS1 hq
  go_wp2_with fail
  go_ret
  exact ⟨ret_bool (by rw [HV.out]; simp [ho, hn, HI.out]), B2.out⟩

end Go.Proofs.YtacindondkcaiaaGreat
