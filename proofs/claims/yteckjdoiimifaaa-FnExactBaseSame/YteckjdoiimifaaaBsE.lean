/- The contracts of laws.eqLink, eqLinkS, eqTab, eqTabS and eqBase at two that are one, over the seat's translation. -/
import Derived.Test.YteckjdoiimifaaaBsC3
import Derived.Test.YteckjdoiimifaaaTsE
namespace Go.Proofs.Yteckjdoiimifaaa
open Go.RowKit

set_option maxRecDepth 100000 in
set_option maxHeartbeats 1000000 in
theorem eq_link (x : ALnk) (w : World) :
    Calls Try.prog 80 #[.agg #[.string x.fr, .string x.co, .string x.tt, .int .i64 x.hw], .agg #[.string x.fr, .string x.co, .string x.tt, .int .i64 x.hw]] w fun e w' => e = .returned (.bool true) ∧ Below w.heap.size w w' := by
  go_enter Try.func80, Try.ntmps80
  go_wp2_with fail
  go_ret
  exact ⟨rfl, ((Below.refl _ _).alloc (Nat.le_refl _) _).alloc (by simp) _⟩

/-- A link lies at two places in W, and W lies over w. -/
abbrev TwoLnks (w : World) (b1 o1 b2 o2 : Nat) (c d : ALnk) (W : World) : Prop := CellsL W b1 o1 c ∧ CellsL W b2 o2 d ∧ b1 < W.heap.size ∧ b2 < W.heap.size ∧ Below w.heap.size w W
theorem twol_next {w : World} {b1 o1 b2 o2 : Nat} {c d : ALnk} {W W' : World} (h : TwoLnks w b1 o1 b2 o2 c d W) (hb : Below W.heap.size W W') : TwoLnks w b1 o1 b2 o2 c d W' := by
  obtain ⟨h1, h2, h3, h4, h5⟩ := h
  have hz := hb.size
  exact ⟨cellsL_next h1 h3 hb, cellsL_next h2 h4 hb, by omega, by omega, h5.trans (hb.mono h5.size)⟩
theorem twol_drew {w : World} {b1 o1 b2 o2 : Nat} {c d : ALnk} {W : World} (h : TwoLnks w b1 o1 b2 o2 c d W) : TwoLnks w b1 o1 b2 o2 c d W.drew := twol_next h (Below.refl _ _).drew

set_option maxRecDepth 100000 in
set_option maxHeartbeats 1000000 in
theorem eq_links (a b : Option Addr) (cap cap' : Nat) (L : List ALnk) (w : World) (ha : LnksAt w a L) (hb : LnksAt w b L) (hm : L.length ≤ maxLen) :
    Calls Try.prog 56 #[.slice a L.length cap, .slice b L.length cap'] w fun e w' => e = .returned (.bool true) ∧ Below w.heap.size w w' := by
  unfold maxLen at hm
  go_enter Try.func56, Try.ntmps56
  go_wp2_with fail
  go_loopw [5] (fun i wr => ∃ k : Nat, k ≤ L.length ∧ i = .int .i64 k ∧ Hid (Below w.heap.size w wr)) (fun i _ => L.length - (intOf i).toNat)
  case atStart => exact ⟨0, Nat.zero_le _, rfl, Below.refl _ _⟩
  case round =>
    obtain ⟨k, hk, rfl, hH⟩ := hrel
    by_cases hlt : k < L.length
    · obtain ⟨b1, o1, hab1, hbl1, hr1⟩ := (ha.keep hH.out).at hlt
      obtain ⟨b2, o2, hab2, hbl2, hr2⟩ := (hb.keep hH.out).at hlt
      revert hr1 hr2
      generalize L[k] = c
      intro hr1 hr2
      have hix : ∀ wx, (Instr.indexAt 50 (.slice a L.length cap) (.int .i64 k)).run Try.prog wx = .ok (.pointer (some ⟨b1, o1 + k * 4, none⟩)) wx := fun wx => by
        rw [hab1]; exact run_ixk 4 _ _ _ _ _ _ _ wx hlt Try.underlying50 (Try.sizeOf88 wx)
      have hiy : ∀ wx, (Instr.indexAt 50 (.slice b L.length cap') (.int .i64 k)).run Try.prog wx = .ok (.pointer (some ⟨b2, o2 + k * 4, none⟩)) wx := fun wx => by
        rw [hab2]; exact run_ixk 4 _ _ _ _ _ _ _ wx hlt Try.underlying50 (Try.sizeOf88 wx)
      have hT : TwoLnks w b1 (o1 + k * 4) b2 (o2 + k * 4) c c wr := ⟨cellsL_of hr1, cellsL_of hr2, hbl1, hbl2, hH.out⟩
      clear hab1 hab2 hr1 hr2 ha hb hH hbl1 hbl2
      go_wp2_with fail
      go_region_held3 (fun W => TwoLnks w b1 (o1 + k * 4) b2 (o2 + k * 4) c c W) (first | assumption | exact twol_drew (by assumption))
        (first
          | (go_at_call 80; refine (eq_link _ _).mono ?_; rintro e w' ⟨rfl, hq⟩; have hN := twol_next (by assumption) hq; clear hq))
      have hE := ‹TwoLnks w b1 (o1 + k * 4) b2 (o2 + k * 4) c c _›
      have hP : Hid (Below w.heap.size w _) := hE.2.2.2.2
      clear hE
      go_wp2_with fail
      go_roundw
      case rel => exact ⟨k + 1, by omega, by go_num, hP⟩
      case measure => simp [intOf]; omega
    · have hkl : k = L.length := by omega
      subst hkl
      go_wp2_with fail
      go_ret
      exact ⟨rfl, hH.out⟩

set_option maxRecDepth 100000 in
set_option maxHeartbeats 1000000 in
theorem eq_tab (x : ANam) (p q : PTab) (w : World) (ha : TabAt w p.a0 p.a1 p.a2 x.t) (hb : TabAt w q.a0 q.a1 q.a2 x.t) (hf : x.t.fit) :
    Calls Try.prog 79 #[.agg #[.string x.nm, .slice p.a0 x.t.cols.length p.c0, .slice p.a1 x.t.chgs.length p.c1, .slice p.a2 x.t.rows.length p.c2, .int .i64 x.t.nx], .agg #[.string x.nm, .slice q.a0 x.t.cols.length q.c0, .slice q.a1 x.t.chgs.length q.c1, .slice q.a2 x.t.rows.length q.c2, .int .i64 x.t.nx]] w fun e w' => e = .returned (.bool true) ∧ Below w.heap.size w w' := by
  have H2 : Hid (Below w.heap.size w ((w.alloc (.cells #[.string x.nm, .slice p.a0 x.t.cols.length p.c0, .slice p.a1 x.t.chgs.length p.c1, .slice p.a2 x.t.rows.length p.c2, .int .i64 x.t.nx] 86)).alloc (.cells #[.string x.nm, .slice q.a0 x.t.cols.length q.c0, .slice q.a1 x.t.chgs.length q.c1, .slice q.a2 x.t.rows.length q.c2, .int .i64 x.t.nx] 86))) := ((Below.refl w.heap.size w).alloc (Nat.le_refl _) _).alloc (by simp) _
  have HF : Hid x.t.fit := hf
  clear hf
  go_enter Try.func79, Try.ntmps79
  go_wp2_with fail
  refine (eq_table x.t _ _ _ _ _ _ _ _ _ _ _ _ _ (ha.keep H2.out) (hb.keep H2.out) HF.out).mono ?_
  rintro e w' ⟨rfl, hq⟩
  have hP : Hid (Below w.heap.size w w') := H2.out.trans (hq.mono H2.out.size)
  clear hq H2 ha hb
  go_wp2_with fail
  go_ret
  exact ⟨rfl, hP.out⟩

/-- Tables with names lie at two places in W, and W lies over w. -/
abbrev TwoNams (w : World) (b1 o1 b2 o2 : Nat) (c d : ANam) (p q : PTab) (W : World) : Prop := CellsN W b1 o1 c p ∧ CellsN W b2 o2 d q ∧ b1 < W.heap.size ∧ b2 < W.heap.size ∧ TabAt W p.a0 p.a1 p.a2 c.t ∧ TabAt W q.a0 q.a1 q.a2 d.t ∧ Below w.heap.size w W
theorem twon_next {w : World} {b1 o1 b2 o2 : Nat} {c d : ANam} {p q : PTab} {W W' : World} (h : TwoNams w b1 o1 b2 o2 c d p q W) (hb : Below W.heap.size W W') : TwoNams w b1 o1 b2 o2 c d p q W' := by
  obtain ⟨h1, h2, h3, h4, h5, h6, h7⟩ := h
  have hz := hb.size
  exact ⟨cellsN_next h1 h3 hb, cellsN_next h2 h4 hb, by omega, by omega, h5.keep hb, h6.keep hb, h7.trans (hb.mono h7.size)⟩
theorem twon_drew {w : World} {b1 o1 b2 o2 : Nat} {c d : ANam} {p q : PTab} {W : World} (h : TwoNams w b1 o1 b2 o2 c d p q W) : TwoNams w b1 o1 b2 o2 c d p q W.drew := twon_next h (Below.refl _ _).drew

set_option maxRecDepth 100000 in
set_option maxHeartbeats 1000000 in
theorem eq_tabs (a b : Option Addr) (cap cap' : Nat) (L : List ANam) (w : World) (ha : NamsAt w a L) (hb : NamsAt w b L) (hm : L.length ≤ maxLen) (hf : ∀ r ∈ L, r.fit) :
    Calls Try.prog 55 #[.slice a L.length cap, .slice b L.length cap'] w fun e w' => e = .returned (.bool true) ∧ Below w.heap.size w w' := by
  unfold maxLen at hm
  go_enter Try.func55, Try.ntmps55
  go_wp2_with fail
  go_loopw [5] (fun i wr => ∃ k : Nat, k ≤ L.length ∧ i = .int .i64 k ∧ Hid (Below w.heap.size w wr)) (fun i _ => L.length - (intOf i).toNat)
  case atStart => exact ⟨0, Nat.zero_le _, rfl, Below.refl _ _⟩
  case round =>
    obtain ⟨k, hk, rfl, hH⟩ := hrel
    by_cases hlt : k < L.length
    · obtain ⟨b1, o1, p, hab1, hbl1, hr1, hv1⟩ := (ha.keep hH.out).at hlt
      obtain ⟨b2, o2, q, hab2, hbl2, hr2, hv2⟩ := (hb.keep hH.out).at hlt
      have hft : Hid (L[k].fit) := hf _ (List.getElem_mem hlt)
      revert hr1 hv1 hr2 hv2 hft
      generalize L[k] = c
      intro hr1 hv1 hr2 hv2 hft
      have hix : ∀ wx, (Instr.indexAt 49 (.slice a L.length cap) (.int .i64 k)).run Try.prog wx = .ok (.pointer (some ⟨b1, o1 + k * 5, none⟩)) wx := fun wx => by
        rw [hab1]; exact run_ixk 5 _ _ _ _ _ _ _ wx hlt Try.underlying49 (Try.sizeOf86 wx)
      have hiy : ∀ wx, (Instr.indexAt 49 (.slice b L.length cap') (.int .i64 k)).run Try.prog wx = .ok (.pointer (some ⟨b2, o2 + k * 5, none⟩)) wx := fun wx => by
        rw [hab2]; exact run_ixk 5 _ _ _ _ _ _ _ wx hlt Try.underlying49 (Try.sizeOf86 wx)
      have hT : TwoNams w b1 (o1 + k * 5) b2 (o2 + k * 5) c c p q wr := ⟨cellsN_of hr1, cellsN_of hr2, hbl1, hbl2, hv1, hv2, hH.out⟩
      clear hab1 hab2 hr1 hr2 ha hb hH hbl1 hbl2 hv1 hv2
      go_wp2_with fail
      go_region_held3 (fun W => TwoNams w b1 (o1 + k * 5) b2 (o2 + k * 5) c c p q W) (first | assumption | exact twon_drew (by assumption))
        (first
          | (go_at_call 79; have hS := ‹TwoNams w b1 (o1 + k * 5) b2 (o2 + k * 5) c c p q _›; refine (eq_tab c p q _ hS.2.2.2.2.1 hS.2.2.2.2.2.1 hft.out.2).mono ?_; rintro e w' ⟨rfl, hq⟩; have hN := twon_next hS hq; clear hq hS))
      have hE := ‹TwoNams w b1 (o1 + k * 5) b2 (o2 + k * 5) c c p q _›
      have hP : Hid (Below w.heap.size w _) := hE.2.2.2.2.2.2
      clear hE
      go_wp2_with fail
      go_roundw
      case rel => exact ⟨k + 1, by omega, by go_num, hP⟩
      case measure => simp [intOf]; omega
    · have hkl : k = L.length := by omega
      subst hkl
      go_wp2_with fail
      go_ret
      exact ⟨rfl, hH.out⟩

/-- Two boxes of bases lie in W, and W lies over w. -/
abbrev BoxBB (w : World) (p q : Nat) (x0 y0 x1 y1 : Value) (W : World) : Prop := BoxB p x0 y0 W ∧ BoxB q x1 y1 W ∧ p < W.heap.size ∧ q < W.heap.size ∧ Below w.heap.size w W
theorem boxbb_next {w : World} {p q : Nat} {x0 y0 x1 y1 : Value} {W W' : World} (h : BoxBB w p q x0 y0 x1 y1 W) (hb : Below W.heap.size W W') : BoxBB w p q x0 y0 x1 y1 W' := by
  obtain ⟨h1, h2, h3, h4, h5⟩ := h
  have := hb.size
  exact ⟨boxb_next h1 h3 hb, boxb_next h2 h4 hb, by omega, by omega, h5.trans (hb.mono h5.size)⟩
theorem boxbb_drew {w : World} {p q : Nat} {x0 y0 x1 y1 : Value} {W : World} (h : BoxBB w p q x0 y0 x1 y1 W) : BoxBB w p q x0 y0 x1 y1 W.drew := boxbb_next h (Below.refl _ _).drew
theorem boxbb_made (w : World) (x0 y0 x1 y1 : Value) (t s : TypeId) : BoxBB w w.heap.size (w.heap.size + 1) x0 y0 x1 y1 ((w.alloc (.cells #[x0, y0] t)).alloc (.cells #[x1, y1] s)) := by
  have h2 := boxb_box (w.alloc (.cells #[x0, y0] t)) x1 y1 s
  rw [size_alloc] at h2
  refine ⟨boxb_next (boxb_box w x0 y0 t) (C := w.heap.size + 1) (by omega) ((Below.refl _ _).alloc (by simp) _), h2, by simp; omega, by simp, ((Below.refl _ _).alloc (Nat.le_refl _) _).alloc (by simp) _⟩

set_option maxRecDepth 100000 in
set_option maxHeartbeats 1000000 in
theorem eq_base (x : ABas) (a0 a1 b0 b1 : Option Addr) (c0 c1 d0 d1 : Nat) (w : World) (ha : BasAt w a0 a1 x) (hb : BasAt w b0 b1 x) (hf : x.fit) :
    Calls Try.prog 23 #[.agg #[.slice a0 x.tabs.length c0, .slice a1 x.lnks.length c1], .agg #[.slice b0 x.tabs.length d0, .slice b1 x.lnks.length d1]] w fun e w' => e = .returned (.bool true) ∧ Below w.heap.size w w' := by
  have hx := boxbb_made w (.slice a0 x.tabs.length c0) (.slice a1 x.lnks.length c1) (.slice b0 x.tabs.length d0) (.slice b1 x.lnks.length d1) 52 52
  have HX : Hid (BoxBB w w.heap.size (w.heap.size + 1) (.slice a0 x.tabs.length c0) (.slice a1 x.lnks.length c1) (.slice b0 x.tabs.length d0) (.slice b1 x.lnks.length d1) ((w.alloc (.cells #[.slice a0 x.tabs.length c0, .slice a1 x.lnks.length c1] 52)).alloc (.cells #[.slice b0 x.tabs.length d0, .slice b1 x.lnks.length d1] 52))) := hx
  have HT : Hid (BasAt ((w.alloc (.cells #[.slice a0 x.tabs.length c0, .slice a1 x.lnks.length c1] 52)).alloc (.cells #[.slice b0 x.tabs.length d0, .slice b1 x.lnks.length d1] 52)) a0 a1 x ∧ BasAt ((w.alloc (.cells #[.slice a0 x.tabs.length c0, .slice a1 x.lnks.length c1] 52)).alloc (.cells #[.slice b0 x.tabs.length d0, .slice b1 x.lnks.length d1] 52)) b0 b1 x) := ⟨ha.keep hx.2.2.2.2, hb.keep hx.2.2.2.2⟩
  clear hx ha hb
  go_enter Try.func23, Try.ntmps23
  go_wp2_with fail
  refine (eq_tabs _ _ _ _ _ _ HT.out.1.1 HT.out.2.1 hf.2.1 hf.1).mono ?_
  rintro e w1 ⟨rfl, hq⟩
  have h1 := boxbb_next HX.out hq
  have T1 : Hid (BasAt w1 a0 a1 x ∧ BasAt w1 b0 b1 x) := ⟨HT.out.1.keep hq, HT.out.2.keep hq⟩
  clear HX hq HT
  go_wp2_with fail
  refine (eq_links _ _ _ _ _ _ T1.out.1.2 T1.out.2.2 hf.2.2.2).mono ?_
  rintro e w2 ⟨rfl, hq⟩
  have h2 := boxbb_next h1 hq
  clear h1 hq T1
  go_wp2_with fail
  go_ret
  exact ⟨rfl, h2.2.2.2.2⟩

end Go.Proofs.Yteckjdoiimifaaa
