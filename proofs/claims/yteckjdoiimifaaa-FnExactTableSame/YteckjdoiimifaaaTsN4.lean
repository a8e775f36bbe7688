/- The contract of spec.TableSame, over the seat's translation. -/
import Derived.Test.YteckjdoiimifaaaTsN3
namespace Go.Proofs.Yteckjdoiimifaaa
open Go.RowKit

/-- Two boxes of tables, and a row at two places, lie in W, and W lies over w. -/
abbrev BR (w v : World) (p q : Nat) (x0 y0 z0 : Value) (n0 : Int) (x1 y1 z1 : Value) (n1 : Int) (b1 o1 b2 o2 : Nat) (c d : ARow) (r1 r2 : Option Addr) (e1 e2 : Nat) (W : World) : Prop :=
  BoxTT w p q x0 y0 z0 n0 x1 y1 z1 n1 W ∧ TwoRows v b1 o1 b2 o2 c d r1 r2 e1 e2 W
theorem br_next {w v : World} {p q : Nat} {x0 y0 z0 : Value} {n0 : Int} {x1 y1 z1 : Value} {n1 : Int} {b1 o1 b2 o2 : Nat} {c d : ARow} {r1 r2 : Option Addr} {e1 e2 : Nat} {W W' : World} (h : BR w v p q x0 y0 z0 n0 x1 y1 z1 n1 b1 o1 b2 o2 c d r1 r2 e1 e2 W) (hb : Below W.heap.size W W') : BR w v p q x0 y0 z0 n0 x1 y1 z1 n1 b1 o1 b2 o2 c d r1 r2 e1 e2 W' := ⟨boxtt_next h.1 hb, twor_next h.2 hb⟩
theorem br_drew {w v : World} {p q : Nat} {x0 y0 z0 : Value} {n0 : Int} {x1 y1 z1 : Value} {n1 : Int} {b1 o1 b2 o2 : Nat} {c d : ARow} {r1 r2 : Option Addr} {e1 e2 : Nat} {W : World} (h : BR w v p q x0 y0 z0 n0 x1 y1 z1 n1 b1 o1 b2 o2 c d r1 r2 e1 e2 W) : BR w v p q x0 y0 z0 n0 x1 y1 z1 n1 b1 o1 b2 o2 c d r1 r2 e1 e2 W.drew := br_next h (Below.refl _ _).drew

theorem chg_len {L M : List AChg} (h : L.length ≠ M.length) : chgsSame L M = false := by simp [chgsSame, h]
theorem row_len {L M : List ARow} (h : L.length ≠ M.length) : rowsSame L M = false := by simp [rowsSame, h]

set_option maxRecDepth 100000 in
set_option maxHeartbeats 2000000 in
theorem spec_tab_same (t u : ATab) (a0 a1 a2 b0 b1 b2 : Option Addr) (c0 c1 c2 d0 d1 d2 : Nat) (w : World) (ha : TabAt w a0 a1 a2 t) (hb : TabAt w b0 b1 b2 u) (hf : t.fit) (hg : u.fit) :
    Calls Try.prog 16 #[.agg #[.slice a0 t.cols.length c0, .slice a1 t.chgs.length c1, .slice a2 t.rows.length c2, .int .i64 t.nx], .agg #[.slice b0 u.cols.length d0, .slice b1 u.chgs.length d1, .slice b2 u.rows.length d2, .int .i64 u.nx]] w fun e w' => e = .returned (.bool (tabSame t u)) ∧ Below w.heap.size w w' := by
  have hx := boxtt_made w (.slice a0 t.cols.length c0) (.slice a1 t.chgs.length c1) (.slice a2 t.rows.length c2) t.nx (.slice b0 u.cols.length d0) (.slice b1 u.chgs.length d1) (.slice b2 u.rows.length d2) u.nx 28 28
  have HX : Hid (BoxTT w w.heap.size (w.heap.size + 1) (.slice a0 t.cols.length c0) (.slice a1 t.chgs.length c1) (.slice a2 t.rows.length c2) t.nx (.slice b0 u.cols.length d0) (.slice b1 u.chgs.length d1) (.slice b2 u.rows.length d2) u.nx ((w.alloc (.cells #[.slice a0 t.cols.length c0, .slice a1 t.chgs.length c1, .slice a2 t.rows.length c2, .int .i64 t.nx] 28)).alloc (.cells #[.slice b0 u.cols.length d0, .slice b1 u.chgs.length d1, .slice b2 u.rows.length d2, .int .i64 u.nx] 28))) := hx
  have HT : Hid (TabAt ((w.alloc (.cells #[.slice a0 t.cols.length c0, .slice a1 t.chgs.length c1, .slice a2 t.rows.length c2, .int .i64 t.nx] 28)).alloc (.cells #[.slice b0 u.cols.length d0, .slice b1 u.chgs.length d1, .slice b2 u.rows.length d2, .int .i64 u.nx] 28)) a0 a1 a2 t ∧ TabAt ((w.alloc (.cells #[.slice a0 t.cols.length c0, .slice a1 t.chgs.length c1, .slice a2 t.rows.length c2, .int .i64 t.nx] 28)).alloc (.cells #[.slice b0 u.cols.length d0, .slice b1 u.chgs.length d1, .slice b2 u.rows.length d2, .int .i64 u.nx] 28)) b0 b1 b2 u) := ⟨ha.keep hx.2.2.2.2, hb.keep hx.2.2.2.2⟩
  clear hx ha hb
  go_enter Try.func16, Try.ntmps16
  go_wp2_with fail
  refine (spec_same _ _ _ _ _ _ _ HT.out.1.1 HT.out.2.1 hf.2.1 hg.2.1).mono ?_
  rintro e w1 ⟨rfl, hq⟩
  have h1 := boxtt_next HX.out hq
  have T1 : Hid (TabAt w1 a0 a1 a2 t ∧ TabAt w1 b0 b1 b2 u) := ⟨HT.out.1.keep hq, HT.out.2.keep hq⟩
  clear HX hq HT
  cases hs : shapeSame t.cols u.cols
  case false =>
    have hS : Hid (shapeSame t.cols u.cols = false) := hs
    clear hs
    go_wp2_with fail
    go_ret
    exact ⟨ret_bool (by simp [tabSame, hS.out]), h1.2.2.2.2⟩
  have hS : Hid (shapeSame t.cols u.cols = true) := hs
  clear hs
  by_cases e1 : t.chgs.length = u.chgs.length
  case neg =>
    have E1 : Hid (t.chgs.length ≠ u.chgs.length) := e1
    have e1' : ((t.chgs.length : Int) != u.chgs.length) = true := bne_iff_ne.2 (by omega)
    clear e1
    go_wp2_with fail
    go_ret
    exact ⟨ret_bool (by simp [tabSame, chg_len E1.out]), h1.2.2.2.2⟩
  by_cases e2 : t.rows.length = u.rows.length
  case neg =>
    have E2 : Hid (t.rows.length ≠ u.rows.length) := e2
    have e1' : ((t.chgs.length : Int) != u.chgs.length) = false := bne_eq_false_iff_eq.2 (by omega)
    have e2' : ((t.rows.length : Int) != u.rows.length) = true := bne_iff_ne.2 (by omega)
    clear e1 e2
    go_wp2_with fail
    go_ret
    exact ⟨ret_bool (by simp [tabSame, row_len E2.out]), h1.2.2.2.2⟩
  by_cases e3 : t.nx = u.nx
  case neg =>
    have E3 : Hid (t.nx ≠ u.nx) := e3
    have e1' : ((t.chgs.length : Int) != u.chgs.length) = false := bne_eq_false_iff_eq.2 (by omega)
    have e2' : ((t.rows.length : Int) != u.rows.length) = false := bne_eq_false_iff_eq.2 (by omega)
    have e3' : (t.nx != u.nx) = true := bne_iff_ne.2 e3
    clear e1 e2 e3
    go_wp2_with fail
    go_ret
    exact ⟨ret_bool (by have := beq_eq_false_iff_ne.2 E3.out; simp [tabSame, this]), h1.2.2.2.2⟩
  have hl1 : t.chgs.length ≤ 9223372036854775807 := by have := hf.2.2.2.1; unfold maxLen at this; omega
  have hl2 : t.rows.length ≤ 9223372036854775807 := by have := hf.2.2.2.2.2; unfold maxLen at this; omega
  have E : Hid (t.chgs.length = u.chgs.length ∧ t.rows.length = u.rows.length ∧ t.nx = u.nx) := ⟨e1, e2, e3⟩
  have e1' : ((t.chgs.length : Int) != u.chgs.length) = false := bne_eq_false_iff_eq.2 (by omega)
  have e2' : ((t.rows.length : Int) != u.rows.length) = false := bne_eq_false_iff_eq.2 (by omega)
  have e3' : (t.nx != u.nx) = false := bne_eq_false_iff_eq.2 e3
  clear e1 e2 e3
  go_wp2_with fail
  clear e1' e2' e3'
  go_loopw [5] (fun i wr => ∃ k : Nat, k ≤ t.chgs.length ∧ i = .int .i64 k ∧ Hid (sameToX t.chgs u.chgs k = true ∧ BoxTT w w.heap.size (w.heap.size + 1) (.slice a0 t.cols.length c0) (.slice a1 t.chgs.length c1) (.slice a2 t.rows.length c2) t.nx (.slice b0 u.cols.length d0) (.slice b1 u.chgs.length d1) (.slice b2 u.rows.length d2) u.nx wr ∧ TabAt wr a0 a1 a2 t ∧ TabAt wr b0 b1 b2 u)) (fun i _ => t.chgs.length - (intOf i).toNat)
  case atStart => exact ⟨0, Nat.zero_le _, rfl, ⟨(rfl : sameToX t.chgs u.chgs 0 = true), h1, T1.out⟩⟩
  case round =>
    obtain ⟨k, hk, rfl, hH⟩ := hrel
    clear h1 T1
    have hBx := hH.out.2.1
    by_cases hlt : k < t.chgs.length
    · have hlt2 : k < u.chgs.length := by have := E.out.1; omega
      obtain ⟨f1, o1, hab1, hbl1, hr1⟩ := hH.out.2.2.1.2.1.at hlt
      obtain ⟨f2, o2, hab2, hbl2, hr2⟩ := hH.out.2.2.2.2.1.at hlt2
      have hc1 := List.getElem?_eq_getElem hlt
      have hc2 := List.getElem?_eq_getElem hlt2
      revert hr1 hr2 hc1 hc2
      generalize t.chgs[k] = c
      generalize u.chgs[k] = d
      intro hr1 hr2 hc1 hc2
      have hix : ∀ wx, (Instr.indexAt 25 (.slice a1 t.chgs.length c1) (.int .i64 k)).run Try.prog wx = .ok (.pointer (some ⟨f1, o1 + k * 10, none⟩)) wx := fun wx => by
        rw [hab1]; exact run_ix10 _ _ _ _ _ _ _ wx hlt Try.underlying25 (Try.sizeOf75 wx)
      have hiy : ∀ wx, (Instr.indexAt 25 (.slice b1 u.chgs.length d1) (.int .i64 k)).run Try.prog wx = .ok (.pointer (some ⟨f2, o2 + k * 10, none⟩)) wx := fun wx => by
        rw [hab2]; exact run_ix10 _ _ _ _ _ _ _ wx hlt2 Try.underlying25 (Try.sizeOf75 wx)
      have hT1 := cells10_of hr1
      have hT2 := cells10_of hr2
      have hq := neq_chg c d
      have hC : Hid (t.chgs[k]? = some c ∧ u.chgs[k]? = some d) := ⟨hc1, hc2⟩
      clear hab1 hab2 hr1 hr2 hbl1 hbl2 hc1 hc2 hlt2
      go_wp2_with fail
      go_quiet (fail)
      have hK := quiet_below wr.heap.size wr nq
      have hP : Hid (sameToX t.chgs u.chgs k = true ∧ BoxTT w w.heap.size (w.heap.size + 1) (.slice a0 t.cols.length c0) (.slice a1 t.chgs.length c1) (.slice a2 t.rows.length c2) t.nx (.slice b0 u.cols.length d0) (.slice b1 u.chgs.length d1) (.slice b2 u.rows.length d2) u.nx (wr.drewN nq) ∧ TabAt (wr.drewN nq) a0 a1 a2 t ∧ TabAt (wr.drewN nq) b0 b1 b2 u) := ⟨hH.out.1, boxtt_next hH.out.2.1 hK, hH.out.2.2.1.keep hK, hH.out.2.2.2.keep hK⟩
      clear hT1 hT2 hq hK hBx
      cases hs : eqX c d
      · go_wp2_with fail
        go_ret
        exact ⟨ret_bool (by simp [tabSame, sameX_bad t.chgs u.chgs k c d hC.out.1 hC.out.2 hs]), hP.out.2.1.2.2.2.2⟩
      · go_wp2_with fail
        go_roundw
        case rel => exact ⟨k + 1, by omega, by go_num, ⟨sameToX_next t.chgs u.chgs k c d hC.out.1 hC.out.2 hP.out.1 hs, hP.out.2⟩⟩
        case measure => simp [intOf]; omega
    · have hkl : k = t.chgs.length := by omega
      subst hkl
      have hX : Hid (chgsSame t.chgs u.chgs = true) := by
        show chgsSame t.chgs u.chgs = true
        simp [chgsSame, E.out.1.symm, hH.out.1]
      have h1 := hH.out.2.1
      have T1 : Hid (TabAt wr a0 a1 a2 t ∧ TabAt wr b0 b1 b2 u) := hH.out.2.2
      clear hH hBx
      go_wp2_with fail
      go_loopw [6] (fun i wq => ∃ k : Nat, k ≤ t.rows.length ∧ i = .int .i64 k ∧ Hid (sameToR t.rows u.rows k = true ∧ BoxTT w w.heap.size (w.heap.size + 1) (.slice a0 t.cols.length c0) (.slice a1 t.chgs.length c1) (.slice a2 t.rows.length c2) t.nx (.slice b0 u.cols.length d0) (.slice b1 u.chgs.length d1) (.slice b2 u.rows.length d2) u.nx wq ∧ TabAt wq a0 a1 a2 t ∧ TabAt wq b0 b1 b2 u)) (fun i _ => t.rows.length - (intOf i).toNat)
      case atStart => exact ⟨0, Nat.zero_le _, rfl, ⟨(rfl : sameToR t.rows u.rows 0 = true), h1, T1.out⟩⟩
      case round =>
        obtain ⟨k, hk, rfl, hH⟩ := hrel
        clear h1 T1
        have hBx := hH.out.2.1
        by_cases hlt : k < t.rows.length
        · have hlt2 : k < u.rows.length := by have := E.out.2.1; omega
          obtain ⟨f1, o1, r1, e1, hab1, hbl1, hr1, hv1⟩ := hH.out.2.2.1.2.2.at hlt
          obtain ⟨f2, o2, r2, e2, hab2, hbl2, hr2, hv2⟩ := hH.out.2.2.2.2.2.at hlt2
          have hc1 := List.getElem?_eq_getElem hlt
          have hc2 := List.getElem?_eq_getElem hlt2
          have hf1 : Hid (t.rows[k].fit) := hf.2.2.2.2.1 _ (List.getElem_mem hlt)
          have hf2 : Hid (u.rows[k].fit) := hg.2.2.2.2.1 _ (List.getElem_mem hlt2)
          revert hr1 hv1 hr2 hv2 hc1 hc2 hf1 hf2
          generalize t.rows[k] = c
          generalize u.rows[k] = d
          intro hr1 hv1 hr2 hv2 hc1 hc2 hf1 hf2
          have hix : ∀ wx, (Instr.indexAt 26 (.slice a2 t.rows.length c2) (.int .i64 k)).run Try.prog wx = .ok (.pointer (some ⟨f1, o1 + k * 3, none⟩)) wx := fun wx => by
            rw [hab1]; exact run_ix3 _ _ _ _ _ _ _ wx hlt Try.underlying26 (Try.sizeOf79 wx)
          have hiy : ∀ wx, (Instr.indexAt 26 (.slice b2 u.rows.length d2) (.int .i64 k)).run Try.prog wx = .ok (.pointer (some ⟨f2, o2 + k * 3, none⟩)) wx := fun wx => by
            rw [hab2]; exact run_ix3 _ _ _ _ _ _ _ wx hlt2 Try.underlying26 (Try.sizeOf79 wx)
          have hC : Hid (t.rows[k]? = some c ∧ u.rows[k]? = some d) := ⟨hc1, hc2⟩
          have hT : BR w wr w.heap.size (w.heap.size + 1) (.slice a0 t.cols.length c0) (.slice a1 t.chgs.length c1) (.slice a2 t.rows.length c2) t.nx (.slice b0 u.cols.length d0) (.slice b1 u.chgs.length d1) (.slice b2 u.rows.length d2) u.nx f1 (o1 + k * 3) f2 (o2 + k * 3) c d r1 r2 e1 e2 wr := ⟨hBx, cellsR_of hr1, cellsR_of hr2, hbl1, hbl2, hv1, hv2, Below.refl _ _⟩
          have hKp : Hid (sameToR t.rows u.rows k = true ∧ TabAt wr a0 a1 a2 t ∧ TabAt wr b0 b1 b2 u) := ⟨hH.out.1, hH.out.2.2⟩
          clear hab1 hab2 hr1 hr2 hbl1 hbl2 hc1 hc2 hlt2 hv1 hv2 hH hBx
          go_wp2_with fail
          go_region_held3 (fun W => BR w wr w.heap.size (w.heap.size + 1) (.slice a0 t.cols.length c0) (.slice a1 t.chgs.length c1) (.slice a2 t.rows.length c2) t.nx (.slice b0 u.cols.length d0) (.slice b1 u.chgs.length d1) (.slice b2 u.rows.length d2) u.nx f1 (o1 + k * 3) f2 (o2 + k * 3) c d r1 r2 e1 e2 W) (first | assumption | exact br_drew (by assumption))
            (first
              | (go_at_call 41; have hSr := ‹BR w wr w.heap.size (w.heap.size + 1) (.slice a0 t.cols.length c0) (.slice a1 t.chgs.length c1) (.slice a2 t.rows.length c2) t.nx (.slice b0 u.cols.length d0) (.slice b1 u.chgs.length d1) (.slice b2 u.rows.length d2) u.nx f1 (o1 + k * 3) f2 (o2 + k * 3) c d r1 r2 e1 e2 _›; refine (spec_row_same c d r1 r2 e1 e2 _ hSr.2.2.2.2.2.1 hSr.2.2.2.2.2.2.1 hf1.out.2 hf2.out.2).mono ?_; rintro e w' ⟨rfl, hq⟩; have hN := br_next hSr hq; clear hq hSr))
          have hZ := ‹BR w wr w.heap.size (w.heap.size + 1) (.slice a0 t.cols.length c0) (.slice a1 t.chgs.length c1) (.slice a2 t.rows.length c2) t.nx (.slice b0 u.cols.length d0) (.slice b1 u.chgs.length d1) (.slice b2 u.rows.length d2) u.nx f1 (o1 + k * 3) f2 (o2 + k * 3) c d r1 r2 e1 e2 _›
          have hK := hZ.2.2.2.2.2.2.2
          have hP : Hid (sameToR t.rows u.rows k = true ∧ BoxTT w w.heap.size (w.heap.size + 1) (.slice a0 t.cols.length c0) (.slice a1 t.chgs.length c1) (.slice a2 t.rows.length c2) t.nx (.slice b0 u.cols.length d0) (.slice b1 u.chgs.length d1) (.slice b2 u.rows.length d2) u.nx _ ∧ TabAt _ a0 a1 a2 t ∧ TabAt _ b0 b1 b2 u) := ⟨hKp.out.1, hZ.1, hKp.out.2.1.keep hK, hKp.out.2.2.keep hK⟩
          clear hZ hK hKp
          cases hs : eqR c d
          · go_wp2_with fail
            go_ret
            exact ⟨ret_bool (by simp [tabSame, sameR_bad t.rows u.rows k c d hC.out.1 hC.out.2 hs]), hP.out.2.1.2.2.2.2⟩
          · go_wp2_with fail
            go_roundw
            case rel => exact ⟨k + 1, by omega, by go_num, ⟨sameToR_next t.rows u.rows k c d hC.out.1 hC.out.2 hP.out.1 hs, hP.out.2⟩⟩
            case measure => simp [intOf]; omega
        · have hkl : k = t.rows.length := by omega
          subst hkl
          have hR : Hid (rowsSame t.rows u.rows = true) := by
            show rowsSame t.rows u.rows = true
            simp [rowsSame, E.out.2.1.symm, hH.out.1]
          go_wp2_with fail
          go_ret
          exact ⟨ret_bool (by simp [tabSame, hS.out, hX.out, hR.out, E.out.2.2]), hBx.2.2.2.2⟩

end Go.Proofs.Yteckjdoiimifaaa
