/- Values told, columns, changes and links held against each other, and the contract of impl.actSame, over the seat's translation. -/
import Derived.Test.YtacindondkcaiaaGreatAcM
import Derived.Test.YtacindondkcaiaaGreatAcE
namespace Go.Proofs.YtacindondkcaiaaGreat
open Go.RowKit

theorem quiet_below (B : Nat) (w : World) (n : Nat) : Below B w (w.drewN n) := by
  induction n with
  | zero => exact Below.refl _ _
  | succ n ih => exact ih.drew

theorem sameToC_next (L M : List ACol) (k : Nat) (c d : ACol) (hc : L[k]? = some c) (hd : M[k]? = some d) (a : sameToC L M k = true) (b : eqC c d = true) : sameToC L M (k + 1) = true := by
  unfold sameToC at *
  rw [List.range_succ, List.all_append, a]
  simp [hc, hd, b]
theorem sameC_bad (L M : List ACol) (k : Nat) (c d : ACol) (hc : L[k]? = some c) (hd : M[k]? = some d) (b : eqC c d = false) : colsSame L M = false := by
  have : sameToC L M L.length = false := by
    unfold sameToC
    rw [List.all_eq_false]
    exact ⟨k, List.mem_range.2 (List.getElem?_eq_some_iff.1 hc).1, by simp [hc, hd, b]⟩
  simp [colsSame, this]

set_option maxHeartbeats 1000000 in
theorem equal_cols (a b : Option Addr) (cap cap' : Nat) (L M : List ACol) (w : World) (ha : ColsAt w a L) (hb : ColsAt w b M) (hm : L.length ≤ maxLen) (_hm2 : M.length ≤ maxLen) :
    Calls Tryz.prog 43 #[.slice a L.length cap, .slice b M.length cap'] w fun e w' => e = .returned (.bool (colsSame L M)) ∧ Below w.heap.size w w' := by
  unfold maxLen at hm
  by_cases hlen : L.length = M.length
  · rw [← hlen]
    have hE : Hid (L.length = M.length) := hlen
    clear hlen
    go_enter Tryz.func43, Tryz.ntmps43
    go_wp2_with fail
    go_loopw [13] (fun i wr => ∃ k : Nat, k ≤ L.length ∧ i = .int .i64 k ∧ Hid (sameToC L M k = true ∧ Below w.heap.size w wr)) (fun i _ => L.length - (intOf i).toNat)
    case atStart => exact ⟨0, Nat.zero_le _, rfl, ⟨(rfl : sameToC L M 0 = true), Below.refl _ _⟩⟩
    case round =>
      obtain ⟨k, hk, rfl, hH⟩ := hrel
      by_cases hlt : k < L.length
      · have hlt2 : k < M.length := by have := hE.out; omega
        obtain ⟨b1, o1, hab1, hbl1, hr1⟩ := (ha.keep hH.out.2).at hlt
        obtain ⟨b2, o2, hab2, hbl2, hr2⟩ := (hb.keep hH.out.2).at hlt2
        have hc1 := List.getElem?_eq_getElem hlt
        have hc2 := List.getElem?_eq_getElem hlt2
        revert hr1 hr2 hc1 hc2
        generalize L[k] = c
        generalize M[k] = d
        intro hr1 hr2 hc1 hc2
        have hix : ∀ wx, (Instr.indexAt 37 (.slice a L.length cap) (.int .i64 k)).run Tryz.prog wx = .ok (.pointer (some ⟨b1, o1 + k * 7, none⟩)) wx := fun wx => by
          rw [hab1]; exact run_ix _ _ _ _ _ _ _ wx hlt Tryz.underlying37 (Tryz.sizeOf40 wx)
        have hiy : ∀ wx, (Instr.indexAt 37 (.slice b L.length cap') (.int .i64 k)).run Tryz.prog wx = .ok (.pointer (some ⟨b2, o2 + k * 7, none⟩)) wx := fun wx => by
          rw [hab2]; exact run_ix _ _ _ _ _ _ _ wx hlt Tryz.underlying37 (Tryz.sizeOf40 wx)
        have hT1 := cells7_of hr1
        have hT2 := cells7_of hr2
        have hq := neq_col c d
        have hC : Hid (L[k]? = some c ∧ M[k]? = some d) := ⟨hc1, hc2⟩
        clear hab1 hab2 hr1 hr2 ha hb hbl1 hbl2 hc1 hc2 hlt2
        go_wp2_with fail
        go_quiet (fail)
        have hP : Hid (Below w.heap.size w (wr.drewN nq)) := hH.out.2.trans (quiet_below _ _ _)
        clear hT1 hT2 hq
        cases hs : eqC c d
        · go_wp2_with fail
          go_ret
          exact ⟨ret_bool (sameC_bad L M k c d hC.out.1 hC.out.2 hs).symm, hP.out⟩
        · go_wp2_with fail
          go_roundw
          case rel => exact ⟨k + 1, by omega, by go_num, ⟨sameToC_next L M k c d hC.out.1 hC.out.2 hH.out.1 hs, hP.out⟩⟩
          case measure => simp [intOf]; omega
      · have hkl : k = L.length := by omega
        subst hkl
        go_wp2_with fail
        go_ret
        refine ⟨ret_bool ?_, hH.out.2⟩
        simp [colsSame, hE.out.symm, hH.out.1]
  · go_enter Tryz.func43, Tryz.ntmps43
    go_wp2_with fail
    all_goals
      first
        | (exfalso; omega)
        | (go_ret
           refine ⟨ret_bool ?_, Below.refl _ _⟩
           simp [colsSame, hlen])

theorem sameToS_next (L M : List ASet) (k : Nat) (c d : ASet) (hc : L[k]? = some c) (hd : M[k]? = some d) (a : sameToS L M k = true) (b : eqS c d = true) : sameToS L M (k + 1) = true := by
  unfold sameToS at *
  rw [List.range_succ, List.all_append, a]
  simp [hc, hd, b]
theorem sameS_bad (L M : List ASet) (k : Nat) (c d : ASet) (hc : L[k]? = some c) (hd : M[k]? = some d) (b : eqS c d = false) : setsSame L M = false := by
  have : sameToS L M L.length = false := by
    unfold sameToS
    rw [List.all_eq_false]
    exact ⟨k, List.mem_range.2 (List.getElem?_eq_some_iff.1 hc).1, by simp [hc, hd, b]⟩
  simp [setsSame, this]

set_option maxHeartbeats 1000000 in
theorem neq_set (c d : ASet) (w : World) :
    (binOp .neq 76 (.agg #[.string c.nm, .int .i64 c.k, .int .i64 c.n, .string c.s]) (.agg #[.string d.nm, .int .i64 d.k, .int .i64 d.n, .string d.s])).run Tryz.prog w = .ok (.bool (!(eqS c d))) w := by
  unfold eqS
  go_simp
  by_cases a : c.nm.toList = d.nm.toList <;> by_cases g : c.k = d.k <;> by_cases h : c.n = d.n <;> by_cases i : c.s.toList = d.s.toList <;> simp [a, g, h, i]

set_option maxHeartbeats 1000000 in
theorem equal_sets (a b : Option Addr) (cap cap' : Nat) (L M : List ASet) (w : World) (ha : SetsAt w a L) (hb : SetsAt w b M) (hm : L.length ≤ maxLen) (_hm2 : M.length ≤ maxLen) :
    Calls Tryz.prog 42 #[.slice a L.length cap, .slice b M.length cap'] w fun e w' => e = .returned (.bool (setsSame L M)) ∧ Below w.heap.size w w' := by
  unfold maxLen at hm
  by_cases hlen : L.length = M.length
  · rw [← hlen]
    have hE : Hid (L.length = M.length) := hlen
    clear hlen
    go_enter Tryz.func42, Tryz.ntmps42
    go_wp2_with fail
    go_loopw [13] (fun i wr => ∃ k : Nat, k ≤ L.length ∧ i = .int .i64 k ∧ Hid (sameToS L M k = true ∧ Below w.heap.size w wr)) (fun i _ => L.length - (intOf i).toNat)
    case atStart => exact ⟨0, Nat.zero_le _, rfl, ⟨(rfl : sameToS L M 0 = true), Below.refl _ _⟩⟩
    case round =>
      obtain ⟨k, hk, rfl, hH⟩ := hrel
      by_cases hlt : k < L.length
      · have hlt2 : k < M.length := by have := hE.out; omega
        obtain ⟨b1, o1, hab1, hbl1, hr1⟩ := (ha.keep hH.out.2).at hlt
        obtain ⟨b2, o2, hab2, hbl2, hr2⟩ := (hb.keep hH.out.2).at hlt2
        have hc1 := List.getElem?_eq_getElem hlt
        have hc2 := List.getElem?_eq_getElem hlt2
        revert hr1 hr2 hc1 hc2
        generalize L[k] = c
        generalize M[k] = d
        intro hr1 hr2 hc1 hc2
        have hix : ∀ wx, (Instr.indexAt 36 (.slice a L.length cap) (.int .i64 k)).run Tryz.prog wx = .ok (.pointer (some ⟨b1, o1 + k * 4, none⟩)) wx := fun wx => by
          rw [hab1]; exact run_ixk 4 _ _ _ _ _ _ _ wx hlt Tryz.underlying36 (Tryz.sizeOf76 wx)
        have hiy : ∀ wx, (Instr.indexAt 36 (.slice b L.length cap') (.int .i64 k)).run Tryz.prog wx = .ok (.pointer (some ⟨b2, o2 + k * 4, none⟩)) wx := fun wx => by
          rw [hab2]; exact run_ixk 4 _ _ _ _ _ _ _ wx hlt Tryz.underlying36 (Tryz.sizeOf76 wx)
        have hT1 := cellsS_of hr1
        have hT2 := cellsS_of hr2
        have hq := neq_set c d
        have hC : Hid (L[k]? = some c ∧ M[k]? = some d) := ⟨hc1, hc2⟩
        clear hab1 hab2 hr1 hr2 ha hb hbl1 hbl2 hc1 hc2 hlt2
        go_wp2_with fail
        go_quiet (fail)
        have hP : Hid (Below w.heap.size w (wr.drewN nq)) := hH.out.2.trans (quiet_below _ _ _)
        clear hT1 hT2 hq
        cases hs : eqS c d
        · go_wp2_with fail
          go_ret
          exact ⟨ret_bool (sameS_bad L M k c d hC.out.1 hC.out.2 hs).symm, hP.out⟩
        · go_wp2_with fail
          go_roundw
          case rel => exact ⟨k + 1, by omega, by go_num, ⟨sameToS_next L M k c d hC.out.1 hC.out.2 hH.out.1 hs, hP.out⟩⟩
          case measure => simp [intOf]; omega
      · have hkl : k = L.length := by omega
        subst hkl
        go_wp2_with fail
        go_ret
        refine ⟨ret_bool ?_, hH.out.2⟩
        simp [setsSame, hE.out.symm, hH.out.1]
  · go_enter Tryz.func42, Tryz.ntmps42
    go_wp2_with fail
    all_goals
      first
        | (exfalso; omega)
        | (go_ret
           refine ⟨ret_bool ?_, Below.refl _ _⟩
           simp [setsSame, hlen])

set_option maxRecDepth 100000 in
set_option maxHeartbeats 4000000 in
theorem neq_chg (c d : AChg) (w : World) :
    (binOp .neq 42 (.agg #[.int .i64 c.kd, .string c.nm, .string c.nw, .string c.c.nm, .int .i64 c.c.kd, .bool c.c.nd, .bool c.c.oc, .int .i64 c.c.k, .int .i64 c.c.n, .string c.c.s]) (.agg #[.int .i64 d.kd, .string d.nm, .string d.nw, .string d.c.nm, .int .i64 d.c.kd, .bool d.c.nd, .bool d.c.oc, .int .i64 d.c.k, .int .i64 d.c.n, .string d.c.s])).run Tryz.prog w = .ok (.bool (!(eqX c d))) w := by
  unfold eqX eqC
  go_simp
  by_cases h0 : c.kd = d.kd
  case neg => simp [h0]
  by_cases h1 : c.nm.toList = d.nm.toList
  case neg => simp [h0, h1]
  by_cases h2 : c.nw.toList = d.nw.toList
  case neg => simp [h0, h1, h2]
  by_cases h3 : c.c.nm.toList = d.c.nm.toList
  case neg => simp [h0, h1, h2, h3]
  by_cases h4 : c.c.kd = d.c.kd
  case neg => simp [h0, h1, h2, h3, h4]
  by_cases h5 : c.c.nd = d.c.nd
  case neg => simp [h0, h1, h2, h3, h4, h5]
  by_cases h6 : c.c.oc = d.c.oc
  case neg => simp [h0, h1, h2, h3, h4, h5, h6]
  by_cases h7 : c.c.k = d.c.k
  case neg => simp [h0, h1, h2, h3, h4, h5, h6, h7]
  by_cases h8 : c.c.n = d.c.n
  case neg => simp [h0, h1, h2, h3, h4, h5, h6, h7, h8]
  by_cases h9 : c.c.s.toList = d.c.s.toList
  case neg => simp [h0, h1, h2, h3, h4, h5, h6, h7, h8, h9]
  simp [h0, h1, h2, h3, h4, h5, h6, h7, h8, h9]

set_option maxRecDepth 100000 in
set_option maxHeartbeats 4000000 in
theorem eql_chg (c d : AChg) (w : World) :
    (binOp .eql 42 (.agg #[.int .i64 c.kd, .string c.nm, .string c.nw, .string c.c.nm, .int .i64 c.c.kd, .bool c.c.nd, .bool c.c.oc, .int .i64 c.c.k, .int .i64 c.c.n, .string c.c.s]) (.agg #[.int .i64 d.kd, .string d.nm, .string d.nw, .string d.c.nm, .int .i64 d.c.kd, .bool d.c.nd, .bool d.c.oc, .int .i64 d.c.k, .int .i64 d.c.n, .string d.c.s])).run Tryz.prog w = .ok (.bool (eqX c d)) w := by
  unfold eqX eqC
  go_simp
  by_cases h0 : c.kd = d.kd
  case neg => simp [h0]
  by_cases h1 : c.nm.toList = d.nm.toList
  case neg => simp [h0, h1]
  by_cases h2 : c.nw.toList = d.nw.toList
  case neg => simp [h0, h1, h2]
  by_cases h3 : c.c.nm.toList = d.c.nm.toList
  case neg => simp [h0, h1, h2, h3]
  by_cases h4 : c.c.kd = d.c.kd
  case neg => simp [h0, h1, h2, h3, h4]
  by_cases h5 : c.c.nd = d.c.nd
  case neg => simp [h0, h1, h2, h3, h4, h5]
  by_cases h6 : c.c.oc = d.c.oc
  case neg => simp [h0, h1, h2, h3, h4, h5, h6]
  by_cases h7 : c.c.k = d.c.k
  case neg => simp [h0, h1, h2, h3, h4, h5, h6, h7]
  by_cases h8 : c.c.n = d.c.n
  case neg => simp [h0, h1, h2, h3, h4, h5, h6, h7, h8]
  by_cases h9 : c.c.s.toList = d.c.s.toList
  case neg => simp [h0, h1, h2, h3, h4, h5, h6, h7, h8, h9]
  simp [h0, h1, h2, h3, h4, h5, h6, h7, h8, h9]

set_option maxHeartbeats 1000000 in
theorem eql_lnk (c d : ALnk) (w : World) :
    (binOp .eql 43 (.agg #[.string c.fr, .string c.co, .string c.tt, .int .i64 c.hw]) (.agg #[.string d.fr, .string d.co, .string d.tt, .int .i64 d.hw])).run Tryz.prog w = .ok (.bool (eqK c d)) w := by
  unfold eqK
  go_simp
  by_cases a : c.fr.toList = d.fr.toList <;> by_cases g : c.co.toList = d.co.toList <;> by_cases h : c.tt.toList = d.tt.toList <;> by_cases i : c.hw = d.hw <;> simp [a, g, h, i]

set_option maxHeartbeats 1000000 in
theorem neq_lnk (c d : ALnk) (w : World) :
    (binOp .neq 43 (.agg #[.string c.fr, .string c.co, .string c.tt, .int .i64 c.hw]) (.agg #[.string d.fr, .string d.co, .string d.tt, .int .i64 d.hw])).run Tryz.prog w = .ok (.bool (!(eqK c d))) w := by
  unfold eqK
  go_simp
  by_cases a : c.fr.toList = d.fr.toList <;> by_cases g : c.co.toList = d.co.toList <;> by_cases h : c.tt.toList = d.tt.toList <;> by_cases i : c.hw = d.hw <;> simp [a, g, h, i]

set_option maxRecDepth 100000 in
set_option maxHeartbeats 2000000 in
theorem act_same (y x : AAct) (b0 b1 a0 a1 : Option Addr) (d0 d1 c0 c1 : Nat) (w : World) (hy : ActAt w b0 b1 y) (hx : ActAt w a0 a1 x) (hm : y.sets.length ≤ maxLen ∧ y.cols.length ≤ maxLen ∧ x.sets.length ≤ maxLen ∧ x.cols.length ≤ maxLen) :
    Calls Tryz.prog 35 #[.agg #[.int .i64 y.kd, .string y.nm, .int .i64 y.id, .slice b0 y.sets.length d0, .slice b1 y.cols.length d1, .int .i64 y.g.kd, .string y.g.nm, .string y.g.nw, .string y.g.c.nm, .int .i64 y.g.c.kd, .bool y.g.c.nd, .bool y.g.c.oc, .int .i64 y.g.c.k, .int .i64 y.g.c.n, .string y.g.c.s, .string y.l.fr, .string y.l.co, .string y.l.tt, .int .i64 y.l.hw], .agg #[.int .i64 x.kd, .string x.nm, .int .i64 x.id, .slice a0 x.sets.length c0, .slice a1 x.cols.length c1, .int .i64 x.g.kd, .string x.g.nm, .string x.g.nw, .string x.g.c.nm, .int .i64 x.g.c.kd, .bool x.g.c.nd, .bool x.g.c.oc, .int .i64 x.g.c.k, .int .i64 x.g.c.n, .string x.g.c.s, .string x.l.fr, .string x.l.co, .string x.l.tt, .int .i64 x.l.hw]] w fun e w' => e = .returned (.bool (actSame y x)) ∧ Below w.heap.size w w' := by
  have HX : Hid (TwoActs w (actF y b0 d0 b1 d1) (actF x a0 c0 a1 c1) ((w.alloc (.cells #[.int .i64 y.kd, .string y.nm, .int .i64 y.id, .slice b0 y.sets.length d0, .slice b1 y.cols.length d1, .int .i64 y.g.kd, .string y.g.nm, .string y.g.nw, .string y.g.c.nm, .int .i64 y.g.c.kd, .bool y.g.c.nd, .bool y.g.c.oc, .int .i64 y.g.c.k, .int .i64 y.g.c.n, .string y.g.c.s, .string y.l.fr, .string y.l.co, .string y.l.tt, .int .i64 y.l.hw] 45)).alloc (.cells #[.int .i64 x.kd, .string x.nm, .int .i64 x.id, .slice a0 x.sets.length c0, .slice a1 x.cols.length c1, .int .i64 x.g.kd, .string x.g.nm, .string x.g.nw, .string x.g.c.nm, .int .i64 x.g.c.kd, .bool x.g.c.nd, .bool x.g.c.oc, .int .i64 x.g.c.k, .int .i64 x.g.c.n, .string x.g.c.s, .string x.l.fr, .string x.l.co, .string x.l.tt, .int .i64 x.l.hw] 45))) := TwoActs.start y x b0 b1 a0 a1 d0 d1 c0 c1 w 45
  have HT : Hid (ActAt ((w.alloc (.cells #[.int .i64 y.kd, .string y.nm, .int .i64 y.id, .slice b0 y.sets.length d0, .slice b1 y.cols.length d1, .int .i64 y.g.kd, .string y.g.nm, .string y.g.nw, .string y.g.c.nm, .int .i64 y.g.c.kd, .bool y.g.c.nd, .bool y.g.c.oc, .int .i64 y.g.c.k, .int .i64 y.g.c.n, .string y.g.c.s, .string y.l.fr, .string y.l.co, .string y.l.tt, .int .i64 y.l.hw] 45)).alloc (.cells #[.int .i64 x.kd, .string x.nm, .int .i64 x.id, .slice a0 x.sets.length c0, .slice a1 x.cols.length c1, .int .i64 x.g.kd, .string x.g.nm, .string x.g.nw, .string x.g.c.nm, .int .i64 x.g.c.kd, .bool x.g.c.nd, .bool x.g.c.oc, .int .i64 x.g.c.k, .int .i64 x.g.c.n, .string x.g.c.s, .string x.l.fr, .string x.l.co, .string x.l.tt, .int .i64 x.l.hw] 45)) b0 b1 y ∧ ActAt ((w.alloc (.cells #[.int .i64 y.kd, .string y.nm, .int .i64 y.id, .slice b0 y.sets.length d0, .slice b1 y.cols.length d1, .int .i64 y.g.kd, .string y.g.nm, .string y.g.nw, .string y.g.c.nm, .int .i64 y.g.c.kd, .bool y.g.c.nd, .bool y.g.c.oc, .int .i64 y.g.c.k, .int .i64 y.g.c.n, .string y.g.c.s, .string y.l.fr, .string y.l.co, .string y.l.tt, .int .i64 y.l.hw] 45)).alloc (.cells #[.int .i64 x.kd, .string x.nm, .int .i64 x.id, .slice a0 x.sets.length c0, .slice a1 x.cols.length c1, .int .i64 x.g.kd, .string x.g.nm, .string x.g.nw, .string x.g.c.nm, .int .i64 x.g.c.kd, .bool x.g.c.nd, .bool x.g.c.oc, .int .i64 x.g.c.k, .int .i64 x.g.c.n, .string x.g.c.s, .string x.l.fr, .string x.l.co, .string x.l.tt, .int .i64 x.l.hw] 45)) a0 a1 x) := ⟨hy.keep HX.out.2.2.2, hx.keep HX.out.2.2.2⟩
  clear hy hx
  cases hk : (y.kd == x.kd)
  case false =>
    go_enter Tryz.func35, Tryz.ntmps35
    go_wp2_with fail
    go_ret
    exact ⟨ret_bool (by simp only [actSame, hk, Bool.false_and]), HX.out.2.2.2⟩
  cases hn : (y.nm.toList == x.nm.toList)
  case false =>
    go_enter Tryz.func35, Tryz.ntmps35
    go_wp2_with fail
    go_ret
    exact ⟨ret_bool (by simp only [actSame, hn, Bool.false_and, Bool.and_false]), HX.out.2.2.2⟩
  cases hi : (y.id == x.id)
  case false =>
    go_enter Tryz.func35, Tryz.ntmps35
    go_wp2_with fail
    go_ret
    exact ⟨ret_bool (by simp only [actSame, hi, Bool.false_and, Bool.and_false]), HX.out.2.2.2⟩
  have HK : Hid ((y.kd == x.kd) = true ∧ (y.nm.toList == x.nm.toList) = true ∧ (y.id == x.id) = true) := ⟨hk, hn, hi⟩
  go_enter Tryz.func35, Tryz.ntmps35
  go_wp2_with fail
  clear hk hn hi
  refine (equal_sets _ _ _ _ _ _ _ HT.out.1.1 HT.out.2.1 hm.1 hm.2.2.1).mono ?_
  rintro e w1 ⟨rfl, hq⟩
  have X1 : Hid (TwoActs w (actF y b0 d0 b1 d1) (actF x a0 c0 a1 c1) w1) := HX.out.next hq
  have T1 : Hid (ActAt w1 b0 b1 y ∧ ActAt w1 a0 a1 x) := ⟨HT.out.1.keep hq, HT.out.2.keep hq⟩
  clear HX HT hq
  have Y1 : BoxA w.heap.size (.int .i64 y.kd) (.string y.nm) (.int .i64 y.id) (.slice b0 y.sets.length d0) (.slice b1 y.cols.length d1) (.int .i64 y.g.kd) (.string y.g.nm) (.string y.g.nw) (.string y.g.c.nm) (.int .i64 y.g.c.kd) (.bool y.g.c.nd) (.bool y.g.c.oc) (.int .i64 y.g.c.k) (.int .i64 y.g.c.n) (.string y.g.c.s) (.string y.l.fr) (.string y.l.co) (.string y.l.tt) (.int .i64 y.l.hw) w1 ∧ BoxA (w.heap.size + 1) (.int .i64 x.kd) (.string x.nm) (.int .i64 x.id) (.slice a0 x.sets.length c0) (.slice a1 x.cols.length c1) (.int .i64 x.g.kd) (.string x.g.nm) (.string x.g.nw) (.string x.g.c.nm) (.int .i64 x.g.c.kd) (.bool x.g.c.nd) (.bool x.g.c.oc) (.int .i64 x.g.c.k) (.int .i64 x.g.c.n) (.string x.g.c.s) (.string x.l.fr) (.string x.l.co) (.string x.l.tt) (.int .i64 x.l.hw) w1 := ⟨X1.out.1.all, X1.out.2.1.all⟩
  cases hS1 : setsSame y.sets x.sets
  case false =>
    go_wp2_with fail
    go_ret
    exact ⟨ret_bool (by simp only [actSame, hS1, Bool.false_and, Bool.and_false]), X1.out.2.2.2⟩
  have S1 : Hid (setsSame y.sets x.sets = true) := hS1
  clear hS1
  go_wp2_with fail
  refine (equal_cols _ _ _ _ _ _ _ T1.out.1.2 T1.out.2.2 hm.2.1 hm.2.2.2).mono ?_
  rintro e w2 ⟨rfl, hq⟩
  have X2 : Hid (TwoActs w (actF y b0 d0 b1 d1) (actF x a0 c0 a1 c1) w2) := X1.out.next hq
  have T2 : Hid (ActAt w2 b0 b1 y ∧ ActAt w2 a0 a1 x) := ⟨T1.out.1.keep hq, T1.out.2.keep hq⟩
  clear X1 T1 hq Y1
  have Y2 : BoxA w.heap.size (.int .i64 y.kd) (.string y.nm) (.int .i64 y.id) (.slice b0 y.sets.length d0) (.slice b1 y.cols.length d1) (.int .i64 y.g.kd) (.string y.g.nm) (.string y.g.nw) (.string y.g.c.nm) (.int .i64 y.g.c.kd) (.bool y.g.c.nd) (.bool y.g.c.oc) (.int .i64 y.g.c.k) (.int .i64 y.g.c.n) (.string y.g.c.s) (.string y.l.fr) (.string y.l.co) (.string y.l.tt) (.int .i64 y.l.hw) w2 ∧ BoxA (w.heap.size + 1) (.int .i64 x.kd) (.string x.nm) (.int .i64 x.id) (.slice a0 x.sets.length c0) (.slice a1 x.cols.length c1) (.int .i64 x.g.kd) (.string x.g.nm) (.string x.g.nw) (.string x.g.c.nm) (.int .i64 x.g.c.kd) (.bool x.g.c.nd) (.bool x.g.c.oc) (.int .i64 x.g.c.k) (.int .i64 x.g.c.n) (.string x.g.c.s) (.string x.l.fr) (.string x.l.co) (.string x.l.tt) (.int .i64 x.l.hw) w2 := ⟨X2.out.1.all, X2.out.2.1.all⟩
  cases hS2 : colsSame y.cols x.cols
  case false =>
    go_wp2_with fail
    go_ret
    exact ⟨ret_bool (by simp only [actSame, hS2, Bool.false_and, Bool.and_false]), X2.out.2.2.2⟩
  have S2 : Hid (colsSame y.cols x.cols = true) := hS2
  clear hS2
  have hg := eql_chg y.g x.g
  have hl := eql_lnk y.l x.l
  cases hG : eqX y.g x.g
  case false =>
    rw [hG] at hg
    go_wp2_with fail
    go_ret
    exact ⟨ret_bool (by simp only [actSame, hG, Bool.false_and, Bool.and_false]), X2.out.2.2.2⟩
  rw [hG] at hg
  have HG : Hid (eqX y.g x.g = true) := hG
  clear hG
  go_wp2_with fail
  go_ret
  refine ⟨ret_bool ?_, X2.out.2.2.2⟩
  simp only [actSame, HK.out.1, HK.out.2.1, HK.out.2.2, S1.out, S2.out, HG.out, Bool.true_and]

end Go.Proofs.YtacindondkcaiaaGreat
