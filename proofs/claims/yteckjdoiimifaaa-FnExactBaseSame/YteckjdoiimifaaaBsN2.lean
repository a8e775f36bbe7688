/- The contract of spec.BaseSame, over the seat's translation. -/
import Derived.Test.YteckjdoiimifaaaBsN1
import Derived.Test.YteckjdoiimifaaaOver
namespace Go.Proofs.Yteckjdoiimifaaa
open Go.RowKit

/-- Two boxes of bases, and a table with its name at two places, lie in W, and W lies over w. -/
abbrev BN (w v : World) (x0 y0 x1 y1 : Value) (b1 o1 b2 o2 : Nat) (c d : ANam) (p q : PTab) (W : World) : Prop :=
  BoxBB w w.heap.size (w.heap.size + 1) x0 y0 x1 y1 W ∧ TwoNams v b1 o1 b2 o2 c d p q W
theorem bn_next {w v : World} {x0 y0 x1 y1 : Value} {b1 o1 b2 o2 : Nat} {c d : ANam} {p q : PTab} {W W' : World} (h : BN w v x0 y0 x1 y1 b1 o1 b2 o2 c d p q W) (hb : Below W.heap.size W W') : BN w v x0 y0 x1 y1 b1 o1 b2 o2 c d p q W' := ⟨boxbb_next h.1 hb, twon_next h.2 hb⟩
theorem bn_drew {w v : World} {x0 y0 x1 y1 : Value} {b1 o1 b2 o2 : Nat} {c d : ANam} {p q : PTab} {W : World} (h : BN w v x0 y0 x1 y1 b1 o1 b2 o2 c d p q W) : BN w v x0 y0 x1 y1 b1 o1 b2 o2 c d p q W.drew := bn_next h (Below.refl _ _).drew

set_option maxRecDepth 100000 in
set_option maxHeartbeats 2000000 in
theorem spec_bas_same (x y : ABas) (a0 a1 b0 b1 : Option Addr) (c0 c1 d0 d1 : Nat) (w : World) (ha : BasAt w a0 a1 x) (hb : BasAt w b0 b1 y) (hf : x.fit) (hg : y.fit) :
    Calls Try.prog 20 #[.agg #[.slice a0 x.tabs.length c0, .slice a1 x.lnks.length c1], .agg #[.slice b0 y.tabs.length d0, .slice b1 y.lnks.length d1]] w fun e w' => e = .returned (.bool (basSame x y)) ∧ Below w.heap.size w w' := by
  have hx := boxbb_made w (.slice a0 x.tabs.length c0) (.slice a1 x.lnks.length c1) (.slice b0 y.tabs.length d0) (.slice b1 y.lnks.length d1) 52 52
  have HT : Hid (BasAt ((w.alloc (.cells #[.slice a0 x.tabs.length c0, .slice a1 x.lnks.length c1] 52)).alloc (.cells #[.slice b0 y.tabs.length d0, .slice b1 y.lnks.length d1] 52)) a0 a1 x ∧ BasAt ((w.alloc (.cells #[.slice a0 x.tabs.length c0, .slice a1 x.lnks.length c1] 52)).alloc (.cells #[.slice b0 y.tabs.length d0, .slice b1 y.lnks.length d1] 52)) b0 b1 y) := ⟨ha.keep hx.2.2.2.2, hb.keep hx.2.2.2.2⟩
  have HX : Hid (BoxBB w w.heap.size (w.heap.size + 1) (.slice a0 x.tabs.length c0) (.slice a1 x.lnks.length c1) (.slice b0 y.tabs.length d0) (.slice b1 y.lnks.length d1) ((w.alloc (.cells #[.slice a0 x.tabs.length c0, .slice a1 x.lnks.length c1] 52)).alloc (.cells #[.slice b0 y.tabs.length d0, .slice b1 y.lnks.length d1] 52))) := hx
  clear hx ha hb
  by_cases e1 : x.tabs.length = y.tabs.length
  case neg =>
    have E1 : Hid (x.tabs.length ≠ y.tabs.length) := e1
    have e1' : ((x.tabs.length : Int) != y.tabs.length) = true := bne_iff_ne.2 (by omega)
    clear e1
    go_enter Try.func20, Try.ntmps20
    go_wp2_with fail
    go_ret
    exact ⟨ret_bool (by simp [basSame, nam_len E1.out]), HX.out.2.2.2.2⟩
  by_cases e2 : x.lnks.length = y.lnks.length
  case neg =>
    have E2 : Hid (x.lnks.length ≠ y.lnks.length) := e2
    have e1' : ((x.tabs.length : Int) != y.tabs.length) = false := bne_eq_false_iff_eq.2 (by omega)
    have e2' : ((x.lnks.length : Int) != y.lnks.length) = true := bne_iff_ne.2 (by omega)
    clear e1 e2
    go_enter Try.func20, Try.ntmps20
    go_wp2_with fail
    go_ret
    exact ⟨ret_bool (by simp [basSame, lnk_len E2.out]), HX.out.2.2.2.2⟩
  have hl1 : x.tabs.length ≤ 9223372036854775807 := by have := hf.2.1; unfold maxLen at this; omega
  have hl2 : x.lnks.length ≤ 9223372036854775807 := by have := hf.2.2.2; unfold maxLen at this; omega
  have E : Hid (x.tabs.length = y.tabs.length ∧ x.lnks.length = y.lnks.length) := ⟨e1, e2⟩
  have e1' : ((x.tabs.length : Int) != y.tabs.length) = false := bne_eq_false_iff_eq.2 (by omega)
  have e2' : ((x.lnks.length : Int) != y.lnks.length) = false := bne_eq_false_iff_eq.2 (by omega)
  clear e1 e2
  go_enter Try.func20, Try.ntmps20
  go_wp2_with fail
  clear e1' e2'
  go_loopw [5] (fun i wr => ∃ k : Nat, k ≤ x.tabs.length ∧ i = .int .i64 k ∧ Hid (sameToN x.tabs y.tabs k = true ∧ BoxBB w w.heap.size (w.heap.size + 1) (.slice a0 x.tabs.length c0) (.slice a1 x.lnks.length c1) (.slice b0 y.tabs.length d0) (.slice b1 y.lnks.length d1) wr ∧ BasAt wr a0 a1 x ∧ BasAt wr b0 b1 y)) (fun i _ => x.tabs.length - (intOf i).toNat)
  case atStart => exact ⟨0, Nat.zero_le _, rfl, ⟨(rfl : sameToN x.tabs y.tabs 0 = true), HX.out, HT.out⟩⟩
  case round =>
    obtain ⟨k, hk, rfl, hH⟩ := hrel
    clear HX HT
    have hBx := hH.out.2.1
    by_cases hlt : k < x.tabs.length
    · have hlt2 : k < y.tabs.length := by have := E.out.1; omega
      obtain ⟨f1, o1, p, hab1, hbl1, hr1, hv1⟩ := hH.out.2.2.1.1.at hlt
      obtain ⟨f2, o2, q, hab2, hbl2, hr2, hv2⟩ := hH.out.2.2.2.1.at hlt2
      have hc1 := List.getElem?_eq_getElem hlt
      have hc2 := List.getElem?_eq_getElem hlt2
      have hf1 : Hid (x.tabs[k].fit) := hf.1 _ (List.getElem_mem hlt)
      have hf2 : Hid (y.tabs[k].fit) := hg.1 _ (List.getElem_mem hlt2)
      revert hr1 hv1 hr2 hv2 hc1 hc2 hf1 hf2
      generalize x.tabs[k] = c
      generalize y.tabs[k] = d
      intro hr1 hv1 hr2 hv2 hc1 hc2 hf1 hf2
      have hix : ∀ wx, (Instr.indexAt 49 (.slice a0 x.tabs.length c0) (.int .i64 k)).run Try.prog wx = .ok (.pointer (some ⟨f1, o1 + k * 5, none⟩)) wx := fun wx => by
        rw [hab1]; exact run_ixk 5 _ _ _ _ _ _ _ wx hlt Try.underlying49 (Try.sizeOf86 wx)
      have hiy : ∀ wx, (Instr.indexAt 49 (.slice b0 y.tabs.length d0) (.int .i64 k)).run Try.prog wx = .ok (.pointer (some ⟨f2, o2 + k * 5, none⟩)) wx := fun wx => by
        rw [hab2]; exact run_ixk 5 _ _ _ _ _ _ _ wx hlt2 Try.underlying49 (Try.sizeOf86 wx)
      have hC : Hid (x.tabs[k]? = some c ∧ y.tabs[k]? = some d) := ⟨hc1, hc2⟩
      have hT1 := cellsN_of hr1
      have hT2 := cellsN_of hr2
      have HV : Hid (f1 < wr.heap.size ∧ f2 < wr.heap.size ∧ TabAt wr p.a0 p.a1 p.a2 c.t ∧ TabAt wr q.a0 q.a1 q.a2 d.t) := ⟨hbl1, hbl2, hv1, hv2⟩
      clear hab1 hab2 hr1 hr2 hbl1 hbl2 hc1 hc2 hlt2 hv1 hv2
      have hT : BN w wr (.slice a0 x.tabs.length c0) (.slice a1 x.lnks.length c1) (.slice b0 y.tabs.length d0) (.slice b1 y.lnks.length d1) f1 (o1 + k * 5) f2 (o2 + k * 5) c d p q wr := ⟨hBx, hT1, hT2, HV.out.1, HV.out.2.1, HV.out.2.2.1, HV.out.2.2.2, Below.refl _ _⟩
      have hKp : Hid (sameToN x.tabs y.tabs k = true ∧ BasAt wr a0 a1 x ∧ BasAt wr b0 b1 y) := ⟨hH.out.1, hH.out.2.2⟩
      clear hT1 hT2 hH HV
      have inh : Nonempty (Over (BN w wr (.slice a0 x.tabs.length c0) (.slice a1 x.lnks.length c1) (.slice b0 y.tabs.length d0) (.slice b1 y.lnks.length d1) f1 (o1 + k * 5) f2 (o2 + k * 5) c d p q)) := ⟨⟨wr, hT⟩⟩
      have g0 : ∀ pp : Over (BN w wr (.slice a0 x.tabs.length c0) (.slice a1 x.lnks.length c1) (.slice b0 y.tabs.length d0) (.slice b1 y.lnks.length d1) f1 (o1 + k * 5) f2 (o2 + k * 5) c d p q), CellsN pp.W f1 (o1 + k * 5) c p := fun pp => pp.ok.2.1
      have g1 : ∀ pp : Over (BN w wr (.slice a0 x.tabs.length c0) (.slice a1 x.lnks.length c1) (.slice b0 y.tabs.length d0) (.slice b1 y.lnks.length d1) f1 (o1 + k * 5) f2 (o2 + k * 5) c d p q), CellsN pp.W f2 (o2 + k * 5) d q := fun pp => pp.ok.2.2.1
      have g2 : ∀ pp : Over (BN w wr (.slice a0 x.tabs.length c0) (.slice a1 x.lnks.length c1) (.slice b0 y.tabs.length d0) (.slice b1 y.lnks.length d1) f1 (o1 + k * 5) f2 (o2 + k * 5) c d p q), BoxB w.heap.size (.slice a0 x.tabs.length c0) (.slice a1 x.lnks.length c1) pp.W := fun pp => pp.ok.1.1
      have g3 : ∀ pp : Over (BN w wr (.slice a0 x.tabs.length c0) (.slice a1 x.lnks.length c1) (.slice b0 y.tabs.length d0) (.slice b1 y.lnks.length d1) f1 (o1 + k * 5) f2 (o2 + k * 5) c d p q), BoxB (w.heap.size + 1) (.slice b0 y.tabs.length d0) (.slice b1 y.lnks.length d1) pp.W := fun pp => pp.ok.1.2.1
      cases hs : (c.nm.toList == d.nm.toList)
      · have hs' : (c.nm.toList != d.nm.toList) = true := by simp [bne, hs]
        have HS : Hid ((c.nm.toList == d.nm.toList) = false) := hs
        go_wp2_with fail
        refine wp_region_over (S := BN w wr (.slice a0 x.tabs.length c0) (.slice a1 x.lnks.length c1) (.slice b0 y.tabs.length d0) (.slice b1 y.lnks.length d1) f1 (o1 + k * 5) f2 (o2 + k * 5) c d p q) (by kernel_rfl) (by kernel_rfl) (bn_drew hT) ?_
        repeat (go_big_quiet_step (fail))
        refine wpQuiet_nil ?_
        rintro wq ⟨pp, hp⟩
        have hZ := pp.ok
        rw [← hp] at hZ
        have hK := hZ.2.2.2.2.2.2.2
        have hP : Hid (sameToN x.tabs y.tabs k = true ∧ BoxBB w w.heap.size (w.heap.size + 1) (.slice a0 x.tabs.length c0) (.slice a1 x.lnks.length c1) (.slice b0 y.tabs.length d0) (.slice b1 y.lnks.length d1) wq ∧ BasAt wq a0 a1 x ∧ BasAt wq b0 b1 y) := ⟨hKp.out.1, hZ.1, hKp.out.2.1.keep hK, hKp.out.2.2.keep hK⟩
        clear hp pp g0 g1 g2 g3 inh hZ hK hKp hT
        go_wp2_with fail
        go_ret
        exact ⟨ret_bool (by simp [basSame, sameN_bad x.tabs y.tabs k c d hC.out.1 hC.out.2 (by simp [eqN, HS.out])]), hP.out.2.1.2.2.2.2⟩
      · have hs' : (c.nm.toList != d.nm.toList) = false := by simp [bne, hs]
        have HS : Hid ((c.nm.toList == d.nm.toList) = true) := hs
        cases ht : tabSame c.t d.t
        · have HB : Hid (eqN c d = false) := by show eqN c d = false; simp [eqN, ht]
          have hcon : ∀ pp : Over (BN w wr (.slice a0 x.tabs.length c0) (.slice a1 x.lnks.length c1) (.slice b0 y.tabs.length d0) (.slice b1 y.lnks.length d1) f1 (o1 + k * 5) f2 (o2 + k * 5) c d p q), Calls Try.prog 16 #[.agg #[.slice p.a0 c.t.cols.length p.c0, .slice p.a1 c.t.chgs.length p.c1, .slice p.a2 c.t.rows.length p.c2, .int .i64 c.t.nx], .agg #[.slice q.a0 d.t.cols.length q.c0, .slice q.a1 d.t.chgs.length q.c1, .slice q.a2 d.t.rows.length q.c2, .int .i64 d.t.nx]] pp.W fun e w' => e = .returned (.bool false) ∧ Below pp.W.heap.size pp.W w' := fun pp => by
            have := spec_tab_same c.t d.t p.a0 p.a1 p.a2 q.a0 q.a1 q.a2 p.c0 p.c1 p.c2 q.c0 q.c1 q.c2 pp.W pp.ok.2.2.2.2.2.1 pp.ok.2.2.2.2.2.2.1 hf1.out.2 hf2.out.2
            rwa [ht] at this
          go_wp2_with fail
          refine wp_region_over (S := BN w wr (.slice a0 x.tabs.length c0) (.slice a1 x.lnks.length c1) (.slice b0 y.tabs.length d0) (.slice b1 y.lnks.length d1) f1 (o1 + k * 5) f2 (o2 + k * 5) c d p q) (by kernel_rfl) (by kernel_rfl) (bn_drew hT) ?_
          repeat (go_big_quiet_step (exact over_call (hcon _) (fun _ h => bn_next (Over.ok _) h)))
          refine wpQuiet_nil ?_
          rintro wq ⟨pp, hp⟩
          have hZ := pp.ok
          rw [← hp] at hZ
          have hK := hZ.2.2.2.2.2.2.2
          have hP : Hid (sameToN x.tabs y.tabs k = true ∧ BoxBB w w.heap.size (w.heap.size + 1) (.slice a0 x.tabs.length c0) (.slice a1 x.lnks.length c1) (.slice b0 y.tabs.length d0) (.slice b1 y.lnks.length d1) wq ∧ BasAt wq a0 a1 x ∧ BasAt wq b0 b1 y) := ⟨hKp.out.1, hZ.1, hKp.out.2.1.keep hK, hKp.out.2.2.keep hK⟩
          clear hp pp g0 g1 g2 g3 inh hZ hK hKp hT hcon
          go_wp2_with fail
          go_ret
          exact ⟨ret_bool (by simp [basSame, sameN_bad x.tabs y.tabs k c d hC.out.1 hC.out.2 HB.out]), hP.out.2.1.2.2.2.2⟩
        · have HB : Hid (eqN c d = true) := by show eqN c d = true; simp only [eqN, ht, HS.out, Bool.and_self]
          have hcon : ∀ pp : Over (BN w wr (.slice a0 x.tabs.length c0) (.slice a1 x.lnks.length c1) (.slice b0 y.tabs.length d0) (.slice b1 y.lnks.length d1) f1 (o1 + k * 5) f2 (o2 + k * 5) c d p q), Calls Try.prog 16 #[.agg #[.slice p.a0 c.t.cols.length p.c0, .slice p.a1 c.t.chgs.length p.c1, .slice p.a2 c.t.rows.length p.c2, .int .i64 c.t.nx], .agg #[.slice q.a0 d.t.cols.length q.c0, .slice q.a1 d.t.chgs.length q.c1, .slice q.a2 d.t.rows.length q.c2, .int .i64 d.t.nx]] pp.W fun e w' => e = .returned (.bool true) ∧ Below pp.W.heap.size pp.W w' := fun pp => by
            have := spec_tab_same c.t d.t p.a0 p.a1 p.a2 q.a0 q.a1 q.a2 p.c0 p.c1 p.c2 q.c0 q.c1 q.c2 pp.W pp.ok.2.2.2.2.2.1 pp.ok.2.2.2.2.2.2.1 hf1.out.2 hf2.out.2
            rwa [ht] at this
          go_wp2_with fail
          refine wp_region_over (S := BN w wr (.slice a0 x.tabs.length c0) (.slice a1 x.lnks.length c1) (.slice b0 y.tabs.length d0) (.slice b1 y.lnks.length d1) f1 (o1 + k * 5) f2 (o2 + k * 5) c d p q) (by kernel_rfl) (by kernel_rfl) (bn_drew hT) ?_
          repeat (go_big_quiet_step (exact over_call (hcon _) (fun _ h => bn_next (Over.ok _) h)))
          refine wpQuiet_nil ?_
          rintro wq ⟨pp, hp⟩
          have hZ := pp.ok
          rw [← hp] at hZ
          have hK := hZ.2.2.2.2.2.2.2
          have hP : Hid (sameToN x.tabs y.tabs k = true ∧ BoxBB w w.heap.size (w.heap.size + 1) (.slice a0 x.tabs.length c0) (.slice a1 x.lnks.length c1) (.slice b0 y.tabs.length d0) (.slice b1 y.lnks.length d1) wq ∧ BasAt wq a0 a1 x ∧ BasAt wq b0 b1 y) := ⟨hKp.out.1, hZ.1, hKp.out.2.1.keep hK, hKp.out.2.2.keep hK⟩
          clear hp pp g0 g1 g2 g3 inh hZ hK hKp hT hcon
          go_wp2_with fail
          go_roundw
          case rel => exact ⟨k + 1, by omega, by go_num, ⟨sameToN_next x.tabs y.tabs k c d hC.out.1 hC.out.2 hP.out.1 HB.out, hP.out.2⟩⟩
          case measure => simp [intOf]; omega
    · have hkl : k = x.tabs.length := by omega
      subst hkl
      have hX : Hid (namsSame x.tabs y.tabs = true) := by
        show namsSame x.tabs y.tabs = true
        simp [namsSame, E.out.1.symm, hH.out.1]
      have h1 := hH.out.2.1
      have T1 : Hid (BasAt wr a0 a1 x ∧ BasAt wr b0 b1 y) := hH.out.2.2
      clear hH hBx
      go_wp2_with fail
      go_loopw [6] (fun i wq => ∃ k : Nat, k ≤ x.lnks.length ∧ i = .int .i64 k ∧ Hid (sameToL x.lnks y.lnks k = true ∧ BoxBB w w.heap.size (w.heap.size + 1) (.slice a0 x.tabs.length c0) (.slice a1 x.lnks.length c1) (.slice b0 y.tabs.length d0) (.slice b1 y.lnks.length d1) wq ∧ BasAt wq a0 a1 x ∧ BasAt wq b0 b1 y)) (fun i _ => x.lnks.length - (intOf i).toNat)
      case atStart => exact ⟨0, Nat.zero_le _, rfl, ⟨(rfl : sameToL x.lnks y.lnks 0 = true), h1, T1.out⟩⟩
      case round =>
        obtain ⟨k, hk, rfl, hH⟩ := hrel
        clear h1 T1
        have hBx := hH.out.2.1
        by_cases hlt : k < x.lnks.length
        · have hlt2 : k < y.lnks.length := by have := E.out.2; omega
          obtain ⟨f1, o1, hab1, hbl1, hr1⟩ := hH.out.2.2.1.2.at hlt
          obtain ⟨f2, o2, hab2, hbl2, hr2⟩ := hH.out.2.2.2.2.at hlt2
          have hc1 := List.getElem?_eq_getElem hlt
          have hc2 := List.getElem?_eq_getElem hlt2
          revert hr1 hr2 hc1 hc2
          generalize x.lnks[k] = c
          generalize y.lnks[k] = d
          intro hr1 hr2 hc1 hc2
          have hix : ∀ wx, (Instr.indexAt 50 (.slice a1 x.lnks.length c1) (.int .i64 k)).run Try.prog wx = .ok (.pointer (some ⟨f1, o1 + k * 4, none⟩)) wx := fun wx => by
            rw [hab1]; exact run_ixk 4 _ _ _ _ _ _ _ wx hlt Try.underlying50 (Try.sizeOf88 wx)
          have hiy : ∀ wx, (Instr.indexAt 50 (.slice b1 y.lnks.length d1) (.int .i64 k)).run Try.prog wx = .ok (.pointer (some ⟨f2, o2 + k * 4, none⟩)) wx := fun wx => by
            rw [hab2]; exact run_ixk 4 _ _ _ _ _ _ _ wx hlt2 Try.underlying50 (Try.sizeOf88 wx)
          have hT1 := cellsL_of hr1
          have hT2 := cellsL_of hr2
          have hq := neq_lnk c d
          have hC : Hid (x.lnks[k]? = some c ∧ y.lnks[k]? = some d) := ⟨hc1, hc2⟩
          clear hab1 hab2 hr1 hr2 hbl1 hbl2 hc1 hc2 hlt2
          go_wp2_with fail
          go_quiet (fail)
          have hK := quiet_below wr.heap.size wr nq
          have hP : Hid (sameToL x.lnks y.lnks k = true ∧ BoxBB w w.heap.size (w.heap.size + 1) (.slice a0 x.tabs.length c0) (.slice a1 x.lnks.length c1) (.slice b0 y.tabs.length d0) (.slice b1 y.lnks.length d1) (wr.drewN nq) ∧ BasAt (wr.drewN nq) a0 a1 x ∧ BasAt (wr.drewN nq) b0 b1 y) := ⟨hH.out.1, boxbb_next hH.out.2.1 hK, hH.out.2.2.1.keep hK, hH.out.2.2.2.keep hK⟩
          clear hT1 hT2 hq hK hBx
          cases hs : eqL c d
          · go_wp2_with fail
            go_ret
            exact ⟨ret_bool (by simp [basSame, sameL_bad x.lnks y.lnks k c d hC.out.1 hC.out.2 hs]), hP.out.2.1.2.2.2.2⟩
          · go_wp2_with fail
            go_roundw
            case rel => exact ⟨k + 1, by omega, by go_num, ⟨sameToL_next x.lnks y.lnks k c d hC.out.1 hC.out.2 hP.out.1 hs, hP.out.2⟩⟩
            case measure => simp [intOf]; omega
        · have hkl : k = x.lnks.length := by omega
          subst hkl
          have hR : Hid (lnksSame x.lnks y.lnks = true) := by
            show lnksSame x.lnks y.lnks = true
            simp [lnksSame, E.out.2.symm, hH.out.1]
          go_wp2_with fail
          go_ret
          exact ⟨ret_bool (by simp [basSame, hX.out, hR.out]), hBx.2.2.2.2⟩

end Go.Proofs.Yteckjdoiimifaaa
