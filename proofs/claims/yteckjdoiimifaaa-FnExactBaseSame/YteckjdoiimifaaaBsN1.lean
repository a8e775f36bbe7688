/- Links and tables with names held against each other: slices.Equal, impl.tabSame, slices.EqualFunc and impl.BaseSame, over the seat's translation. -/
import Derived.Test.YteckjdoiimifaaaBsE
import Derived.Test.YteckjdoiimifaaaTsN4
namespace Go.Proofs.Yteckjdoiimifaaa
open Go.RowKit

def eqL (c d : ALnk) : Bool := c.fr.toList == d.fr.toList && (c.co.toList == d.co.toList && (c.tt.toList == d.tt.toList && c.hw == d.hw))

set_option maxRecDepth 100000 in
set_option maxHeartbeats 1000000 in
theorem neq_lnk (c d : ALnk) (w : World) :
    (binOp .neq 88 (.agg #[.string c.fr, .string c.co, .string c.tt, .int .i64 c.hw]) (.agg #[.string d.fr, .string d.co, .string d.tt, .int .i64 d.hw])).run Try.prog w = .ok (.bool (!(eqL c d))) w := by
  unfold eqL
  go_simp
  by_cases h0 : c.fr.toList = d.fr.toList
  case neg => simp [h0]
  by_cases h1 : c.co.toList = d.co.toList
  case neg => simp [h0, h1]
  by_cases h2 : c.tt.toList = d.tt.toList
  case neg => simp [h0, h1, h2]
  by_cases h3 : c.hw = d.hw
  case neg => simp [h0, h1, h2, h3]
  simp [h0, h1, h2, h3]

def sameToL (L M : List ALnk) (k : Nat) : Bool := (List.range k).all fun i => match L[i]?, M[i]? with | some c, some d => eqL c d | _, _ => false
def lnksSame (L M : List ALnk) : Bool := decide (L.length = M.length) && sameToL L M L.length

theorem sameToL_next (L M : List ALnk) (k : Nat) (c d : ALnk) (hc : L[k]? = some c) (hd : M[k]? = some d) (a : sameToL L M k = true) (b : eqL c d = true) : sameToL L M (k + 1) = true := by
  unfold sameToL at *
  rw [List.range_succ, List.all_append, a]
  simp [hc, hd, b]
theorem sameL_bad (L M : List ALnk) (k : Nat) (c d : ALnk) (hc : L[k]? = some c) (hd : M[k]? = some d) (b : eqL c d = false) : lnksSame L M = false := by
  have : sameToL L M L.length = false := by
    unfold sameToL
    rw [List.all_eq_false]
    exact ⟨k, List.mem_range.2 (List.getElem?_eq_some_iff.1 hc).1, by simp [hc, hd, b]⟩
  simp [lnksSame, this]
theorem lnk_len {L M : List ALnk} (h : L.length ≠ M.length) : lnksSame L M = false := by simp [lnksSame, h]

set_option maxRecDepth 100000 in
set_option maxHeartbeats 1000000 in
theorem equal_lnks (a b : Option Addr) (cap cap' : Nat) (L M : List ALnk) (w : World) (ha : LnksAt w a L) (hb : LnksAt w b M) (hm : L.length ≤ maxLen) (_hm2 : M.length ≤ maxLen) :
    Calls Try.prog 54 #[.slice a L.length cap, .slice b M.length cap'] w fun e w' => e = .returned (.bool (lnksSame L M)) ∧ Below w.heap.size w w' := by
  unfold maxLen at hm
  by_cases hlen : L.length = M.length
  · rw [← hlen]
    have hE : Hid (L.length = M.length) := hlen
    clear hlen
    go_enter Try.func54, Try.ntmps54
    go_wp2_with fail
    go_loopw [13] (fun i wr => ∃ k : Nat, k ≤ L.length ∧ i = .int .i64 k ∧ Hid (sameToL L M k = true ∧ Below w.heap.size w wr)) (fun i _ => L.length - (intOf i).toNat)
    case atStart => exact ⟨0, Nat.zero_le _, rfl, ⟨(rfl : sameToL L M 0 = true), Below.refl _ _⟩⟩
    case round =>
      obtain ⟨k, hk, rfl, hH⟩ := hrel
      by_cases hlt : k < L.length
      · have hlt2 : k < M.length := by have := hE.out; omega
        obtain ⟨b1, o1, hab1, hbl1, hr1⟩ := (ha.keep hH.out.2).at hlt
        obtain ⟨b2, o2, hab2, hbl2, hr2⟩ := (hb.keep hH.out.2).at hlt2
        have hc1 := List.getElem?_eq_getElem hlt
        have hc2 := List.getElem?_eq_getElem hlt2
        revert hr1 hr2 hc1 hc2
        generalize L[k] = c
        generalize M[k] = d
        intro hr1 hr2 hc1 hc2
        have hix : ∀ wx, (Instr.indexAt 50 (.slice a L.length cap) (.int .i64 k)).run Try.prog wx = .ok (.pointer (some ⟨b1, o1 + k * 4, none⟩)) wx := fun wx => by
          rw [hab1]; exact run_ixk 4 _ _ _ _ _ _ _ wx hlt Try.underlying50 (Try.sizeOf88 wx)
        have hiy : ∀ wx, (Instr.indexAt 50 (.slice b L.length cap') (.int .i64 k)).run Try.prog wx = .ok (.pointer (some ⟨b2, o2 + k * 4, none⟩)) wx := fun wx => by
          rw [hab2]; exact run_ixk 4 _ _ _ _ _ _ _ wx hlt Try.underlying50 (Try.sizeOf88 wx)
        have hT1 := cellsL_of hr1
        have hT2 := cellsL_of hr2
        have hq := neq_lnk c d
        have hC : Hid (L[k]? = some c ∧ M[k]? = some d) := ⟨hc1, hc2⟩
        clear hab1 hab2 hr1 hr2 ha hb hbl1 hbl2 hc1 hc2 hlt2
        go_wp2_with fail
        go_quiet (fail)
        have hP : Hid (Below w.heap.size w (wr.drewN nq)) := hH.out.2.trans (quiet_below _ _ _)
        clear hT1 hT2 hq
        cases hs : eqL c d
        · go_wp2_with fail
          go_ret
          exact ⟨ret_bool (sameL_bad L M k c d hC.out.1 hC.out.2 hs).symm, hP.out⟩
        · go_wp2_with fail
          go_roundw
          case rel => exact ⟨k + 1, by omega, by go_num, ⟨sameToL_next L M k c d hC.out.1 hC.out.2 hH.out.1 hs, hP.out⟩⟩
          case measure => simp [intOf]; omega
      · have hkl : k = L.length := by omega
        subst hkl
        go_wp2_with fail
        go_ret
        refine ⟨ret_bool ?_, hH.out.2⟩
        simp [lnksSame, hE.out.symm, hH.out.1]
  · go_enter Try.func54, Try.ntmps54
    go_wp2_with fail
    all_goals
      first
        | (exfalso; omega)
        | (go_ret
           refine ⟨ret_bool ?_, Below.refl _ _⟩
           simp [lnksSame, hlen])

def eqN (c d : ANam) : Bool := c.nm.toList == d.nm.toList && tabSame c.t d.t
def sameToN (L M : List ANam) (k : Nat) : Bool := (List.range k).all fun i => match L[i]?, M[i]? with | some c, some d => eqN c d | _, _ => false
def namsSame (L M : List ANam) : Bool := decide (L.length = M.length) && sameToN L M L.length

theorem sameToN_next (L M : List ANam) (k : Nat) (c d : ANam) (hc : L[k]? = some c) (hd : M[k]? = some d) (a : sameToN L M k = true) (b : eqN c d = true) : sameToN L M (k + 1) = true := by
  unfold sameToN at *
  rw [List.range_succ, List.all_append, a]
  simp [hc, hd, b]
theorem sameN_bad (L M : List ANam) (k : Nat) (c d : ANam) (hc : L[k]? = some c) (hd : M[k]? = some d) (b : eqN c d = false) : namsSame L M = false := by
  have : sameToN L M L.length = false := by
    unfold sameToN
    rw [List.all_eq_false]
    exact ⟨k, List.mem_range.2 (List.getElem?_eq_some_iff.1 hc).1, by simp [hc, hd, b]⟩
  simp [namsSame, this]
theorem nam_len {L M : List ANam} (h : L.length ≠ M.length) : namsSame L M = false := by simp [namsSame, h]

set_option maxRecDepth 100000 in
set_option maxHeartbeats 1000000 in
theorem impl_nam_same (c d : ANam) (p q : PTab) (w : World) (ha : TabAt w p.a0 p.a1 p.a2 c.t) (hb : TabAt w q.a0 q.a1 q.a2 d.t) (hf : c.t.fit) (hg : d.t.fit) :
    Calls Try.prog 53 #[.agg #[.string c.nm, .slice p.a0 c.t.cols.length p.c0, .slice p.a1 c.t.chgs.length p.c1, .slice p.a2 c.t.rows.length p.c2, .int .i64 c.t.nx], .agg #[.string d.nm, .slice q.a0 d.t.cols.length q.c0, .slice q.a1 d.t.chgs.length q.c1, .slice q.a2 d.t.rows.length q.c2, .int .i64 d.t.nx]] w fun e w' => e = .returned (.bool (eqN c d)) ∧ Below w.heap.size w w' := by
  have H2 : Hid (Below w.heap.size w ((w.alloc (.cells #[.string c.nm, .slice p.a0 c.t.cols.length p.c0, .slice p.a1 c.t.chgs.length p.c1, .slice p.a2 c.t.rows.length p.c2, .int .i64 c.t.nx] 86)).alloc (.cells #[.string d.nm, .slice q.a0 d.t.cols.length q.c0, .slice q.a1 d.t.chgs.length q.c1, .slice q.a2 d.t.rows.length q.c2, .int .i64 d.t.nx] 86))) := ((Below.refl w.heap.size w).alloc (Nat.le_refl _) _).alloc (by simp) _
  have HF : Hid (c.t.fit ∧ d.t.fit) := ⟨hf, hg⟩
  clear hf hg
  cases h1 : (c.nm.toList == d.nm.toList)
  case false =>
    go_enter Try.func53, Try.ntmps53
    go_wp2_with fail
    go_ret
    exact ⟨ret_bool (by simp [eqN, h1]), H2.out⟩
  have HE : Hid ((c.nm.toList == d.nm.toList) = true) := h1
  go_enter Try.func53, Try.ntmps53
  go_wp2_with fail
  refine (impl_tab_same c.t d.t _ _ _ _ _ _ _ _ _ _ _ _ _ (ha.keep H2.out) (hb.keep H2.out) HF.out.1 HF.out.2).mono ?_
  rintro e w' ⟨rfl, hq⟩
  have hP : Hid (Below w.heap.size w w') := H2.out.trans (hq.mono H2.out.size)
  clear hq H2 ha hb h1
  go_wp2_with fail
  go_ret
  exact ⟨ret_bool (by simp only [eqN, HE.out, Bool.true_and]), hP.out⟩

set_option maxRecDepth 100000 in
set_option maxHeartbeats 1000000 in
theorem equal_nams (a b : Option Addr) (cap cap' : Nat) (L M : List ANam) (w : World) (ha : NamsAt w a L) (hb : NamsAt w b M) (hm : L.length ≤ maxLen) (_hm2 : M.length ≤ maxLen) (hf : ∀ r ∈ L, r.fit) (hg : ∀ r ∈ M, r.fit) :
    Calls Try.prog 52 #[.slice a L.length cap, .slice b M.length cap', .func (.func 53) #[] #[]] w fun e w' => e = .returned (.bool (namsSame L M)) ∧ Below w.heap.size w w' := by
  unfold maxLen at hm
  by_cases hlen : L.length = M.length
  · rw [← hlen]
    have hE : Hid (L.length = M.length) := hlen
    clear hlen
    go_enter Try.func52, Try.ntmps52
    go_wp2_with fail
    go_loopw [17] (fun i wr => ∃ k : Nat, k ≤ L.length ∧ i = .int .i64 k ∧ Hid (sameToN L M k = true ∧ Below w.heap.size w wr)) (fun i _ => L.length - (intOf i).toNat)
    case atStart => exact ⟨0, Nat.zero_le _, rfl, ⟨(rfl : sameToN L M 0 = true), Below.refl _ _⟩⟩
    case round =>
      obtain ⟨k, hk, rfl, hH⟩ := hrel
      by_cases hlt : k < L.length
      · have hlt2 : k < M.length := by have := hE.out; omega
        obtain ⟨b1, o1, p, hab1, hbl1, hr1, hv1⟩ := (ha.keep hH.out.2).at hlt
        obtain ⟨b2, o2, q, hab2, hbl2, hr2, hv2⟩ := (hb.keep hH.out.2).at hlt2
        have hc1 := List.getElem?_eq_getElem hlt
        have hc2 := List.getElem?_eq_getElem hlt2
        have hf1 : Hid (L[k].fit) := hf _ (List.getElem_mem hlt)
        have hf2 : Hid (M[k].fit) := hg _ (List.getElem_mem hlt2)
        revert hr1 hv1 hr2 hv2 hc1 hc2 hf1 hf2
        generalize L[k] = c
        generalize M[k] = d
        intro hr1 hv1 hr2 hv2 hc1 hc2 hf1 hf2
        have hix : ∀ wx, (Instr.indexAt 49 (.slice a L.length cap) (.int .i64 k)).run Try.prog wx = .ok (.pointer (some ⟨b1, o1 + k * 5, none⟩)) wx := fun wx => by
          rw [hab1]; exact run_ixk 5 _ _ _ _ _ _ _ wx hlt Try.underlying49 (Try.sizeOf86 wx)
        have hiy : ∀ wx, (Instr.indexAt 49 (.slice b L.length cap') (.int .i64 k)).run Try.prog wx = .ok (.pointer (some ⟨b2, o2 + k * 5, none⟩)) wx := fun wx => by
          rw [hab2]; exact run_ixk 5 _ _ _ _ _ _ _ wx hlt Try.underlying49 (Try.sizeOf86 wx)
        have hT1 := cellsN_of hr1
        have H1 : Hid (Below wr.heap.size wr (wr.alloc (.cells #[.string c.nm, .slice p.a0 c.t.cols.length p.c0, .slice p.a1 c.t.chgs.length p.c1, .slice p.a2 c.t.rows.length p.c2, .int .i64 c.t.nx] 86))) := (Below.refl _ _).alloc (Nat.le_refl _) _
        have hT2 := cellsN_next (cellsN_of hr2) hbl2 H1.out
        have H2 : Hid (Below wr.heap.size wr ((wr.alloc (.cells #[.string c.nm, .slice p.a0 c.t.cols.length p.c0, .slice p.a1 c.t.chgs.length p.c1, .slice p.a2 c.t.rows.length p.c2, .int .i64 c.t.nx] 86)).alloc (.cells #[.string d.nm, .slice q.a0 d.t.cols.length q.c0, .slice q.a1 d.t.chgs.length q.c1, .slice q.a2 d.t.rows.length q.c2, .int .i64 d.t.nx] 86))) := H1.out.alloc (by simp) _
        have hC : Hid (L[k]? = some c ∧ M[k]? = some d) := ⟨hc1, hc2⟩
        have hV : Hid (TabAt wr p.a0 p.a1 p.a2 c.t ∧ TabAt wr q.a0 q.a1 q.a2 d.t) := ⟨hv1, hv2⟩
        have HH := hH
        clear hab1 hab2 hr1 hr2 ha hb hc1 hc2 hlt2 hv1 hv2 hH
        go_wp2_with fail
        refine (impl_nam_same c d p q _ (hV.out.1.keep H2.out) (hV.out.2.keep H2.out) hf1.out.2 hf2.out.2).mono ?_
        rintro e w' ⟨rfl, hq⟩
        have hP : Hid (Below w.heap.size w w') := HH.out.2.trans ((H2.out.trans (hq.mono H2.out.size)).mono HH.out.2.size)
        have hQ : Hid (sameToN L M k = true) := HH.out.1
        clear hT1 hT2 hq H1 H2 hV HH
        cases hs : eqN c d
        · go_wp2_with fail
          go_ret
          exact ⟨ret_bool (sameN_bad L M k c d hC.out.1 hC.out.2 hs).symm, hP.out⟩
        · go_wp2_with fail
          go_roundw
          case rel => exact ⟨k + 1, by omega, by go_num, ⟨sameToN_next L M k c d hC.out.1 hC.out.2 hQ.out hs, hP.out⟩⟩
          case measure => simp [intOf]; omega
      · have hkl : k = L.length := by omega
        subst hkl
        go_wp2_with fail
        go_ret
        refine ⟨ret_bool ?_, hH.out.2⟩
        simp [namsSame, hE.out.symm, hH.out.1]
  · go_enter Try.func52, Try.ntmps52
    go_wp2_with fail
    all_goals
      first
        | (exfalso; omega)
        | (go_ret
           refine ⟨ret_bool ?_, Below.refl _ _⟩
           simp [namsSame, hlen])

def basSame (x y : ABas) : Bool := namsSame x.tabs y.tabs && lnksSame x.lnks y.lnks

set_option maxRecDepth 100000 in
set_option maxHeartbeats 1000000 in
theorem impl_bas_same (x y : ABas) (a0 a1 b0 b1 : Option Addr) (c0 c1 d0 d1 : Nat) (w : World) (ha : BasAt w a0 a1 x) (hb : BasAt w b0 b1 y) (hf : x.fit) (hg : y.fit) :
    Calls Try.prog 22 #[.agg #[.slice a0 x.tabs.length c0, .slice a1 x.lnks.length c1], .agg #[.slice b0 y.tabs.length d0, .slice b1 y.lnks.length d1]] w fun e w' => e = .returned (.bool (basSame x y)) ∧ Below w.heap.size w w' := by
  have hx := boxbb_made w (.slice a0 x.tabs.length c0) (.slice a1 x.lnks.length c1) (.slice b0 y.tabs.length d0) (.slice b1 y.lnks.length d1) 52 52
  have HX : Hid (BoxBB w w.heap.size (w.heap.size + 1) (.slice a0 x.tabs.length c0) (.slice a1 x.lnks.length c1) (.slice b0 y.tabs.length d0) (.slice b1 y.lnks.length d1) ((w.alloc (.cells #[.slice a0 x.tabs.length c0, .slice a1 x.lnks.length c1] 52)).alloc (.cells #[.slice b0 y.tabs.length d0, .slice b1 y.lnks.length d1] 52))) := hx
  have HT : Hid (BasAt ((w.alloc (.cells #[.slice a0 x.tabs.length c0, .slice a1 x.lnks.length c1] 52)).alloc (.cells #[.slice b0 y.tabs.length d0, .slice b1 y.lnks.length d1] 52)) a0 a1 x ∧ BasAt ((w.alloc (.cells #[.slice a0 x.tabs.length c0, .slice a1 x.lnks.length c1] 52)).alloc (.cells #[.slice b0 y.tabs.length d0, .slice b1 y.lnks.length d1] 52)) b0 b1 y) := ⟨ha.keep hx.2.2.2.2, hb.keep hx.2.2.2.2⟩
  clear hx ha hb
  go_enter Try.func22, Try.ntmps22
  go_wp2_with fail
  refine (equal_nams _ _ _ _ _ _ _ HT.out.1.1 HT.out.2.1 hf.2.1 hg.2.1 hf.1 hg.1).mono ?_
  rintro e w1 ⟨rfl, hq⟩
  have h1 := boxbb_next HX.out hq
  have T1 : Hid (BasAt w1 a0 a1 x ∧ BasAt w1 b0 b1 y) := ⟨HT.out.1.keep hq, HT.out.2.keep hq⟩
  clear HX hq HT
  cases hs : namsSame x.tabs y.tabs
  case false =>
    have hS : Hid (namsSame x.tabs y.tabs = false) := hs
    clear hs
    go_wp2_with fail
    go_ret
    exact ⟨ret_bool (by simp [basSame, hS.out]), h1.2.2.2.2⟩
  have hS : Hid (namsSame x.tabs y.tabs = true) := hs
  clear hs
  go_wp2_with fail
  refine (equal_lnks _ _ _ _ _ _ _ T1.out.1.2 T1.out.2.2 hf.2.2.2 hg.2.2.2).mono ?_
  rintro e w2 ⟨rfl, hq⟩
  have h2 := boxbb_next h1 hq
  clear h1 hq T1
  go_wp2_with fail
  go_ret
  exact ⟨ret_bool (by simp [basSame, hS.out]), h2.2.2.2.2⟩

end Go.Proofs.Yteckjdoiimifaaa
