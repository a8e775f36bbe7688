/- Tables held against each other: impl.TableSame and spec.TableSame, over the seat's translation. -/
import Derived.Test.YteckjdoiimifaaaTsN2
namespace Go.Proofs.Yteckjdoiimifaaa
open Go.RowKit

def sameToR (L M : List ARow) (k : Nat) : Bool := (List.range k).all fun i => match L[i]?, M[i]? with | some c, some d => eqR c d | _, _ => false
def rowsSame (L M : List ARow) : Bool := decide (L.length = M.length) && sameToR L M L.length

theorem sameToR_next (L M : List ARow) (k : Nat) (c d : ARow) (hc : L[k]? = some c) (hd : M[k]? = some d) (a : sameToR L M k = true) (b : eqR c d = true) : sameToR L M (k + 1) = true := by
  unfold sameToR at *
  rw [List.range_succ, List.all_append, a]
  simp [hc, hd, b]
theorem sameR_bad (L M : List ARow) (k : Nat) (c d : ARow) (hc : L[k]? = some c) (hd : M[k]? = some d) (b : eqR c d = false) : rowsSame L M = false := by
  have : sameToR L M L.length = false := by
    unfold sameToR
    rw [List.all_eq_false]
    exact ⟨k, List.mem_range.2 (List.getElem?_eq_some_iff.1 hc).1, by simp [hc, hd, b]⟩
  simp [rowsSame, this]

set_option maxRecDepth 100000 in
set_option maxHeartbeats 1000000 in
theorem equal_rows (a b : Option Addr) (cap cap' : Nat) (L M : List ARow) (w : World) (ha : RowsAt w a L) (hb : RowsAt w b M) (hm : L.length ≤ maxLen) (_hm2 : M.length ≤ maxLen) (hf : ∀ r ∈ L, r.fit) (hg : ∀ r ∈ M, r.fit) :
    Calls Try.prog 46 #[.slice a L.length cap, .slice b M.length cap', .func (.func 47) #[] #[]] w fun e w' => e = .returned (.bool (rowsSame L M)) ∧ Below w.heap.size w w' := by
  unfold maxLen at hm
  by_cases hlen : L.length = M.length
  · rw [← hlen]
    have hE : Hid (L.length = M.length) := hlen
    clear hlen
    go_enter Try.func46, Try.ntmps46
    go_wp2_with fail
    go_loopw [17] (fun i wr => ∃ k : Nat, k ≤ L.length ∧ i = .int .i64 k ∧ Hid (sameToR L M k = true ∧ Below w.heap.size w wr)) (fun i _ => L.length - (intOf i).toNat)
    case atStart => exact ⟨0, Nat.zero_le _, rfl, ⟨(rfl : sameToR L M 0 = true), Below.refl _ _⟩⟩
    case round =>
      obtain ⟨k, hk, rfl, hH⟩ := hrel
      by_cases hlt : k < L.length
      · have hlt2 : k < M.length := by have := hE.out; omega
        obtain ⟨b1, o1, r1, e1, hab1, hbl1, hr1, hv1⟩ := (ha.keep hH.out.2).at hlt
        obtain ⟨b2, o2, r2, e2, hab2, hbl2, hr2, hv2⟩ := (hb.keep hH.out.2).at hlt2
        have hc1 := List.getElem?_eq_getElem hlt
        have hc2 := List.getElem?_eq_getElem hlt2
        have hf1 : Hid (L[k].fit) := hf _ (List.getElem_mem hlt)
        have hf2 : Hid (M[k].fit) := hg _ (List.getElem_mem hlt2)
        revert hr1 hv1 hr2 hv2 hc1 hc2 hf1 hf2
        generalize L[k] = c
        generalize M[k] = d
        intro hr1 hv1 hr2 hv2 hc1 hc2 hf1 hf2
        have hix : ∀ wx, (Instr.indexAt 26 (.slice a L.length cap) (.int .i64 k)).run Try.prog wx = .ok (.pointer (some ⟨b1, o1 + k * 3, none⟩)) wx := fun wx => by
          rw [hab1]; exact run_ix3 _ _ _ _ _ _ _ wx hlt Try.underlying26 (Try.sizeOf79 wx)
        have hiy : ∀ wx, (Instr.indexAt 26 (.slice b L.length cap') (.int .i64 k)).run Try.prog wx = .ok (.pointer (some ⟨b2, o2 + k * 3, none⟩)) wx := fun wx => by
          rw [hab2]; exact run_ix3 _ _ _ _ _ _ _ wx hlt Try.underlying26 (Try.sizeOf79 wx)
        have hT1 := cellsR_of hr1
        have H1 : Hid (Below wr.heap.size wr (wr.alloc (.cells #[.int .i64 c.id, .int .i64 c.ver, .slice r1 c.vals.length e1] 79))) := (Below.refl _ _).alloc (Nat.le_refl _) _
        have hT2 := cellsR_next (cellsR_of hr2) hbl2 H1.out
        have H2 : Hid (Below wr.heap.size wr ((wr.alloc (.cells #[.int .i64 c.id, .int .i64 c.ver, .slice r1 c.vals.length e1] 79)).alloc (.cells #[.int .i64 d.id, .int .i64 d.ver, .slice r2 d.vals.length e2] 79))) := H1.out.alloc (by simp) _
        have hC : Hid (L[k]? = some c ∧ M[k]? = some d) := ⟨hc1, hc2⟩
        have hV : Hid (ValsAt wr r1 c.vals ∧ ValsAt wr r2 d.vals) := ⟨hv1, hv2⟩
        have HH := hH
        clear hab1 hab2 hr1 hr2 ha hb hc1 hc2 hlt2 hv1 hv2 hH
        go_wp2_with fail
        refine (impl_row_same c d r1 r2 e1 e2 _ (hV.out.1.keep H2.out) (hV.out.2.keep H2.out) hf1.out.2 hf2.out.2).mono ?_
        rintro e w' ⟨rfl, hq⟩
        have hP : Hid (Below w.heap.size w w') := HH.out.2.trans ((H2.out.trans (hq.mono H2.out.size)).mono HH.out.2.size)
        have hQ : Hid (sameToR L M k = true) := HH.out.1
        clear hT1 hT2 hq H1 H2 hV HH
        cases hs : eqR c d
        · go_wp2_with fail
          go_ret
          exact ⟨ret_bool (sameR_bad L M k c d hC.out.1 hC.out.2 hs).symm, hP.out⟩
        · go_wp2_with fail
          go_roundw
          case rel => exact ⟨k + 1, by omega, by go_num, ⟨sameToR_next L M k c d hC.out.1 hC.out.2 hQ.out hs, hP.out⟩⟩
          case measure => simp [intOf]; omega
      · have hkl : k = L.length := by omega
        subst hkl
        go_wp2_with fail
        go_ret
        refine ⟨ret_bool ?_, hH.out.2⟩
        simp [rowsSame, hE.out.symm, hH.out.1]
  · go_enter Try.func46, Try.ntmps46
    go_wp2_with fail
    all_goals
      first
        | (exfalso; omega)
        | (go_ret
           refine ⟨ret_bool ?_, Below.refl _ _⟩
           simp [rowsSame, hlen])

def tabSame (t u : ATab) : Bool := shapeSame t.cols u.cols && (chgsSame t.chgs u.chgs && (rowsSame t.rows u.rows && t.nx == u.nx))

set_option maxRecDepth 100000 in
set_option maxHeartbeats 1000000 in
theorem impl_tab_same (t u : ATab) (a0 a1 a2 b0 b1 b2 : Option Addr) (c0 c1 c2 d0 d1 d2 : Nat) (w : World) (ha : TabAt w a0 a1 a2 t) (hb : TabAt w b0 b1 b2 u) (hf : t.fit) (hg : u.fit) :
    Calls Try.prog 18 #[.agg #[.slice a0 t.cols.length c0, .slice a1 t.chgs.length c1, .slice a2 t.rows.length c2, .int .i64 t.nx], .agg #[.slice b0 u.cols.length d0, .slice b1 u.chgs.length d1, .slice b2 u.rows.length d2, .int .i64 u.nx]] w fun e w' => e = .returned (.bool (tabSame t u)) ∧ Below w.heap.size w w' := by
  have hx := boxtt_made w (.slice a0 t.cols.length c0) (.slice a1 t.chgs.length c1) (.slice a2 t.rows.length c2) t.nx (.slice b0 u.cols.length d0) (.slice b1 u.chgs.length d1) (.slice b2 u.rows.length d2) u.nx 28 28
  have HX : Hid (BoxTT w w.heap.size (w.heap.size + 1) (.slice a0 t.cols.length c0) (.slice a1 t.chgs.length c1) (.slice a2 t.rows.length c2) t.nx (.slice b0 u.cols.length d0) (.slice b1 u.chgs.length d1) (.slice b2 u.rows.length d2) u.nx ((w.alloc (.cells #[.slice a0 t.cols.length c0, .slice a1 t.chgs.length c1, .slice a2 t.rows.length c2, .int .i64 t.nx] 28)).alloc (.cells #[.slice b0 u.cols.length d0, .slice b1 u.chgs.length d1, .slice b2 u.rows.length d2, .int .i64 u.nx] 28))) := hx
  have HT : Hid (TabAt ((w.alloc (.cells #[.slice a0 t.cols.length c0, .slice a1 t.chgs.length c1, .slice a2 t.rows.length c2, .int .i64 t.nx] 28)).alloc (.cells #[.slice b0 u.cols.length d0, .slice b1 u.chgs.length d1, .slice b2 u.rows.length d2, .int .i64 u.nx] 28)) a0 a1 a2 t ∧ TabAt ((w.alloc (.cells #[.slice a0 t.cols.length c0, .slice a1 t.chgs.length c1, .slice a2 t.rows.length c2, .int .i64 t.nx] 28)).alloc (.cells #[.slice b0 u.cols.length d0, .slice b1 u.chgs.length d1, .slice b2 u.rows.length d2, .int .i64 u.nx] 28)) b0 b1 b2 u) := ⟨ha.keep hx.2.2.2.2, hb.keep hx.2.2.2.2⟩
  clear hx ha hb
  go_enter Try.func18, Try.ntmps18
  go_wp2_with fail
  refine (impl_same _ _ _ _ _ _ _ HT.out.1.1 HT.out.2.1 hf.2.1 hg.2.1).mono ?_
  rintro e w1 ⟨rfl, hq⟩
  have h1 := boxtt_next HX.out hq
  have T1 : Hid (TabAt w1 a0 a1 a2 t ∧ TabAt w1 b0 b1 b2 u) := ⟨HT.out.1.keep hq, HT.out.2.keep hq⟩
  clear HX hq HT
  cases hs : shapeSame t.cols u.cols
  case false =>
    have hS : Hid (shapeSame t.cols u.cols = false) := hs
    clear hs
    go_wp2_with fail
    go_ret
    exact ⟨ret_bool (by simp [tabSame, hS.out]), h1.2.2.2.2⟩
  have hS : Hid (shapeSame t.cols u.cols = true) := hs
  clear hs
  go_wp2_with fail
  refine (equal_chgs _ _ _ _ _ _ _ T1.out.1.2.1 T1.out.2.2.1 hf.2.2.2.1 hg.2.2.2.1).mono ?_
  rintro e w2 ⟨rfl, hq⟩
  have h2 := boxtt_next h1 hq
  have T2 : Hid (TabAt w2 a0 a1 a2 t ∧ TabAt w2 b0 b1 b2 u) := ⟨T1.out.1.keep hq, T1.out.2.keep hq⟩
  clear h1 hq T1
  cases hs : chgsSame t.chgs u.chgs
  case false =>
    have hX : Hid (chgsSame t.chgs u.chgs = false) := hs
    clear hs
    go_wp2_with fail
    go_ret
    exact ⟨ret_bool (by simp [tabSame, hX.out]), h2.2.2.2.2⟩
  have hX : Hid (chgsSame t.chgs u.chgs = true) := hs
  clear hs
  go_wp2_with fail
  refine (equal_rows _ _ _ _ _ _ _ T2.out.1.2.2 T2.out.2.2.2 hf.2.2.2.2.2 hg.2.2.2.2.2 hf.2.2.2.2.1 hg.2.2.2.2.1).mono ?_
  rintro e w3 ⟨rfl, hq⟩
  have h3 := boxtt_next h2 hq
  clear h2 hq T2
  cases hs : rowsSame t.rows u.rows
  case false =>
    have hR : Hid (rowsSame t.rows u.rows = false) := hs
    clear hs
    go_wp2_with fail
    go_ret
    exact ⟨ret_bool (by simp [tabSame, hR.out]), h3.2.2.2.2⟩
  have hR : Hid (rowsSame t.rows u.rows = true) := hs
  clear hs
  go_wp2_with fail
  go_ret
  exact ⟨ret_bool (by simp [tabSame, hS.out, hX.out, hR.out]), h3.2.2.2.2⟩

end Go.Proofs.Yteckjdoiimifaaa
