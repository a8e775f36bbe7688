/- The contracts of laws.eqSet, eqSetS, eqChange, eqLink and eqAct at two that are one, over the seat's translation. -/
import Derived.Test.YtacindondkcaiaaGreatAcA0
import Derived.Test.YtacindondkcaiaaGreatColC2
import Derived.Test.YtacindondkcaiaaGreatShS7
namespace Go.Proofs.YtacindondkcaiaaGreat
open Go.RowKit

set_option maxRecDepth 100000 in
set_option maxHeartbeats 1000000 in
theorem eq_change (x : AChg) (w : World) :
    Calls Tryz.prog 26 #[.agg #[.int .i64 x.kd, .string x.nm, .string x.nw, .string x.c.nm, .int .i64 x.c.kd, .bool x.c.nd, .bool x.c.oc, .int .i64 x.c.k, .int .i64 x.c.n, .string x.c.s], .agg #[.int .i64 x.kd, .string x.nm, .string x.nw, .string x.c.nm, .int .i64 x.c.kd, .bool x.c.nd, .bool x.c.oc, .int .i64 x.c.k, .int .i64 x.c.n, .string x.c.s]] w fun e w' => e = .returned (.bool true) ∧ Below w.heap.size w w' := by
  go_enter Tryz.func26, Tryz.ntmps26
  go_wp2_with fail
  refine (eq_col _ _ _ _ _ _ _ _).mono ?_
  rintro e w' ⟨rfl, hq⟩
  have hP : Hid (Below w.heap.size w w') := (((Below.refl w.heap.size w).alloc (Nat.le_refl _) _).alloc (by simp) _).trans (hq.mono (by simp; omega))
  clear hq
  go_wp2_with fail
  go_ret
  exact ⟨rfl, hP.out⟩

set_option maxRecDepth 100000 in
set_option maxHeartbeats 1000000 in
theorem eq_link (x : ALnk) (w : World) :
    Calls Tryz.prog 27 #[.agg #[.string x.fr, .string x.co, .string x.tt, .int .i64 x.hw], .agg #[.string x.fr, .string x.co, .string x.tt, .int .i64 x.hw]] w fun e w' => e = .returned (.bool true) ∧ Below w.heap.size w w' := by
  go_enter Tryz.func27, Tryz.ntmps27
  go_wp2_with fail
  go_ret
  exact ⟨rfl, ((Below.refl _ _).alloc (Nat.le_refl _) _).alloc (by simp) _⟩

set_option maxRecDepth 100000 in
set_option maxHeartbeats 1000000 in
theorem eq_set (x : ASet) (w : World) :
    Calls Tryz.prog 36 #[.agg #[.string x.nm, .int .i64 x.k, .int .i64 x.n, .string x.s], .agg #[.string x.nm, .int .i64 x.k, .int .i64 x.n, .string x.s]] w fun e w' => e = .returned (.bool true) ∧ Below w.heap.size w w' := by
  go_enter Tryz.func36, Tryz.ntmps36
  go_wp2_with fail
  refine (eq_val _ _ _ _).mono ?_
  rintro e w' ⟨rfl, hq⟩
  have hP : Hid (Below w.heap.size w w') := (((Below.refl w.heap.size w).alloc (Nat.le_refl _) _).alloc (by simp) _).trans (hq.mono (by simp; omega))
  clear hq
  go_wp2_with fail
  go_ret
  exact ⟨rfl, hP.out⟩

/-- A value told lies at two places in W, and W lies over w. -/
abbrev TwoSets (w : World) (b1 o1 b2 o2 : Nat) (c d : ASet) (W : World) : Prop := CellsS W b1 o1 c ∧ CellsS W b2 o2 d ∧ b1 < W.heap.size ∧ b2 < W.heap.size ∧ Below w.heap.size w W
theorem twos_next {w : World} {b1 o1 b2 o2 : Nat} {c d : ASet} {W W' : World} (h : TwoSets w b1 o1 b2 o2 c d W) (hb : Below W.heap.size W W') : TwoSets w b1 o1 b2 o2 c d W' := by
  obtain ⟨h1, h2, h3, h4, h5⟩ := h
  have hz := hb.size
  exact ⟨cellsS_next h1 h3 hb, cellsS_next h2 h4 hb, by omega, by omega, h5.trans (hb.mono h5.size)⟩
theorem twos_drew {w : World} {b1 o1 b2 o2 : Nat} {c d : ASet} {W : World} (h : TwoSets w b1 o1 b2 o2 c d W) : TwoSets w b1 o1 b2 o2 c d W.drew := twos_next h (Below.refl _ _).drew

set_option maxRecDepth 100000 in
set_option maxHeartbeats 1000000 in
theorem eq_sets (a b : Option Addr) (cap cap' : Nat) (L : List ASet) (w : World) (ha : SetsAt w a L) (hb : SetsAt w b L) (hm : L.length ≤ maxLen) :
    Calls Tryz.prog 24 #[.slice a L.length cap, .slice b L.length cap'] w fun e w' => e = .returned (.bool true) ∧ Below w.heap.size w w' := by
  unfold maxLen at hm
  go_enter Tryz.func24, Tryz.ntmps24
  go_wp2_with fail
  go_loopw [5] (fun i wr => ∃ k : Nat, k ≤ L.length ∧ i = .int .i64 k ∧ Hid (Below w.heap.size w wr)) (fun i _ => L.length - (intOf i).toNat)
  case atStart => exact ⟨0, Nat.zero_le _, rfl, Below.refl _ _⟩
  case round =>
    obtain ⟨k, hk, rfl, hH⟩ := hrel
    by_cases hlt : k < L.length
    · obtain ⟨b1, o1, hab1, hbl1, hr1⟩ := (ha.keep hH.out).at hlt
      obtain ⟨b2, o2, hab2, hbl2, hr2⟩ := (hb.keep hH.out).at hlt
      revert hr1 hr2
      generalize L[k] = c
      intro hr1 hr2
      have hix : ∀ wx, (Instr.indexAt 36 (.slice a L.length cap) (.int .i64 k)).run Tryz.prog wx = .ok (.pointer (some ⟨b1, o1 + k * 4, none⟩)) wx := fun wx => by
        rw [hab1]; exact run_ixk 4 _ _ _ _ _ _ _ wx hlt Tryz.underlying36 (Tryz.sizeOf76 wx)
      have hiy : ∀ wx, (Instr.indexAt 36 (.slice b L.length cap') (.int .i64 k)).run Tryz.prog wx = .ok (.pointer (some ⟨b2, o2 + k * 4, none⟩)) wx := fun wx => by
        rw [hab2]; exact run_ixk 4 _ _ _ _ _ _ _ wx hlt Tryz.underlying36 (Tryz.sizeOf76 wx)
      have hT : TwoSets w b1 (o1 + k * 4) b2 (o2 + k * 4) c c wr := ⟨cellsS_of hr1, cellsS_of hr2, hbl1, hbl2, hH.out⟩
      clear hab1 hab2 hr1 hr2 ha hb hH hbl1 hbl2
      go_wp2_with fail
      go_region_held3 (fun W => TwoSets w b1 (o1 + k * 4) b2 (o2 + k * 4) c c W) (first | assumption | exact twos_drew (by assumption))
        (first
          | (go_at_call 36; refine (eq_set _ _).mono ?_; rintro e w' ⟨rfl, hq⟩; have hN := twos_next (by assumption) hq; clear hq))
      have hE := ‹TwoSets w b1 (o1 + k * 4) b2 (o2 + k * 4) c c _›
      have hP : Hid (Below w.heap.size w _) := hE.2.2.2.2
      clear hE
      go_wp2_with fail
      go_roundw
      case rel => exact ⟨k + 1, by omega, by go_num, hP⟩
      case measure => simp [intOf]; omega
    · have hkl : k = L.length := by omega
      subst hkl
      go_wp2_with fail
      go_ret
      exact ⟨rfl, hH.out⟩

/-- Two boxes of what is done lie in W, and W lies over w. -/
def TwoActs (w : World) (f g : Nat → Value) (W : World) : Prop := BoxF w.heap.size f W ∧ BoxF (w.heap.size + 1) g W ∧ w.heap.size + 2 ≤ W.heap.size ∧ Below w.heap.size w W
theorem TwoActs.next {w : World} {f g : Nat → Value} {W W' : World} (h : TwoActs w f g W) (hb : Below W.heap.size W W') : TwoActs w f g W' := by
  obtain ⟨h1, h2, h3, h4⟩ := h
  have hz := hb.size
  exact ⟨h1.next (by omega) hb, h2.next (by omega) hb, by omega, h4.trans (hb.mono h4.size)⟩
theorem TwoActs.start (x y : AAct) (a0 a1 b0 b1 : Option Addr) (c0 c1 d0 d1 : Nat) (w : World) (t : TypeId) : TwoActs w (actF x a0 c0 a1 c1) (actF y b0 d0 b1 d1) ((w.alloc (.cells #[.int .i64 x.kd, .string x.nm, .int .i64 x.id, .slice a0 x.sets.length c0, .slice a1 x.cols.length c1, .int .i64 x.g.kd, .string x.g.nm, .string x.g.nw, .string x.g.c.nm, .int .i64 x.g.c.kd, .bool x.g.c.nd, .bool x.g.c.oc, .int .i64 x.g.c.k, .int .i64 x.g.c.n, .string x.g.c.s, .string x.l.fr, .string x.l.co, .string x.l.tt, .int .i64 x.l.hw] t)).alloc (.cells #[.int .i64 y.kd, .string y.nm, .int .i64 y.id, .slice b0 y.sets.length d0, .slice b1 y.cols.length d1, .int .i64 y.g.kd, .string y.g.nm, .string y.g.nw, .string y.g.c.nm, .int .i64 y.g.c.kd, .bool y.g.c.nd, .bool y.g.c.oc, .int .i64 y.g.c.k, .int .i64 y.g.c.n, .string y.g.c.s, .string y.l.fr, .string y.l.co, .string y.l.tt, .int .i64 y.l.hw] t)) := by
  have h2 := boxf_box (w.alloc (.cells #[.int .i64 x.kd, .string x.nm, .int .i64 x.id, .slice a0 x.sets.length c0, .slice a1 x.cols.length c1, .int .i64 x.g.kd, .string x.g.nm, .string x.g.nw, .string x.g.c.nm, .int .i64 x.g.c.kd, .bool x.g.c.nd, .bool x.g.c.oc, .int .i64 x.g.c.k, .int .i64 x.g.c.n, .string x.g.c.s, .string x.l.fr, .string x.l.co, .string x.l.tt, .int .i64 x.l.hw] t)) (actF y b0 d0 b1 d1) _ _ _ _ _ _ _ _ _ _ _ _ _ _ _ _ _ _ _ t (by simp [actF] : actF y b0 d0 b1 d1 0 = .int .i64 y.kd ∧ actF y b0 d0 b1 d1 1 = .string y.nm ∧ actF y b0 d0 b1 d1 2 = .int .i64 y.id ∧ actF y b0 d0 b1 d1 3 = .slice b0 y.sets.length d0 ∧ actF y b0 d0 b1 d1 4 = .slice b1 y.cols.length d1 ∧ actF y b0 d0 b1 d1 5 = .int .i64 y.g.kd ∧ actF y b0 d0 b1 d1 6 = .string y.g.nm ∧ actF y b0 d0 b1 d1 7 = .string y.g.nw ∧ actF y b0 d0 b1 d1 8 = .string y.g.c.nm ∧ actF y b0 d0 b1 d1 9 = .int .i64 y.g.c.kd ∧ actF y b0 d0 b1 d1 10 = .bool y.g.c.nd ∧ actF y b0 d0 b1 d1 11 = .bool y.g.c.oc ∧ actF y b0 d0 b1 d1 12 = .int .i64 y.g.c.k ∧ actF y b0 d0 b1 d1 13 = .int .i64 y.g.c.n ∧ actF y b0 d0 b1 d1 14 = .string y.g.c.s ∧ actF y b0 d0 b1 d1 15 = .string y.l.fr ∧ actF y b0 d0 b1 d1 16 = .string y.l.co ∧ actF y b0 d0 b1 d1 17 = .string y.l.tt ∧ actF y b0 d0 b1 d1 18 = .int .i64 y.l.hw)
  rw [size_alloc] at h2
  refine ⟨(boxf_box w (actF x a0 c0 a1 c1) _ _ _ _ _ _ _ _ _ _ _ _ _ _ _ _ _ _ _ t (by simp [actF])).next (C := w.heap.size + 1) (by omega) ((Below.refl _ _).alloc (by simp) _), h2, by simp, ((Below.refl _ _).alloc (Nat.le_refl _) _).alloc (by simp) _⟩

set_option maxRecDepth 100000 in
set_option maxHeartbeats 2000000 in
theorem eq_act (x : AAct) (a0 a1 b0 b1 : Option Addr) (c0 c1 d0 d1 : Nat) (w : World) (ha : ActAt w a0 a1 x) (hb : ActAt w b0 b1 x) (hf : x.fit) :
    Calls Tryz.prog 8 #[.agg #[.int .i64 x.kd, .string x.nm, .int .i64 x.id, .slice a0 x.sets.length c0, .slice a1 x.cols.length c1, .int .i64 x.g.kd, .string x.g.nm, .string x.g.nw, .string x.g.c.nm, .int .i64 x.g.c.kd, .bool x.g.c.nd, .bool x.g.c.oc, .int .i64 x.g.c.k, .int .i64 x.g.c.n, .string x.g.c.s, .string x.l.fr, .string x.l.co, .string x.l.tt, .int .i64 x.l.hw], .agg #[.int .i64 x.kd, .string x.nm, .int .i64 x.id, .slice b0 x.sets.length d0, .slice b1 x.cols.length d1, .int .i64 x.g.kd, .string x.g.nm, .string x.g.nw, .string x.g.c.nm, .int .i64 x.g.c.kd, .bool x.g.c.nd, .bool x.g.c.oc, .int .i64 x.g.c.k, .int .i64 x.g.c.n, .string x.g.c.s, .string x.l.fr, .string x.l.co, .string x.l.tt, .int .i64 x.l.hw]] w fun e w' => e = .returned (.bool true) ∧ Below w.heap.size w w' := by
  have HX : Hid (TwoActs w (actF x a0 c0 a1 c1) (actF x b0 d0 b1 d1) ((w.alloc (.cells #[.int .i64 x.kd, .string x.nm, .int .i64 x.id, .slice a0 x.sets.length c0, .slice a1 x.cols.length c1, .int .i64 x.g.kd, .string x.g.nm, .string x.g.nw, .string x.g.c.nm, .int .i64 x.g.c.kd, .bool x.g.c.nd, .bool x.g.c.oc, .int .i64 x.g.c.k, .int .i64 x.g.c.n, .string x.g.c.s, .string x.l.fr, .string x.l.co, .string x.l.tt, .int .i64 x.l.hw] 45)).alloc (.cells #[.int .i64 x.kd, .string x.nm, .int .i64 x.id, .slice b0 x.sets.length d0, .slice b1 x.cols.length d1, .int .i64 x.g.kd, .string x.g.nm, .string x.g.nw, .string x.g.c.nm, .int .i64 x.g.c.kd, .bool x.g.c.nd, .bool x.g.c.oc, .int .i64 x.g.c.k, .int .i64 x.g.c.n, .string x.g.c.s, .string x.l.fr, .string x.l.co, .string x.l.tt, .int .i64 x.l.hw] 45))) := TwoActs.start x x a0 a1 b0 b1 c0 c1 d0 d1 w 45
  have HT : Hid (ActAt ((w.alloc (.cells #[.int .i64 x.kd, .string x.nm, .int .i64 x.id, .slice a0 x.sets.length c0, .slice a1 x.cols.length c1, .int .i64 x.g.kd, .string x.g.nm, .string x.g.nw, .string x.g.c.nm, .int .i64 x.g.c.kd, .bool x.g.c.nd, .bool x.g.c.oc, .int .i64 x.g.c.k, .int .i64 x.g.c.n, .string x.g.c.s, .string x.l.fr, .string x.l.co, .string x.l.tt, .int .i64 x.l.hw] 45)).alloc (.cells #[.int .i64 x.kd, .string x.nm, .int .i64 x.id, .slice b0 x.sets.length d0, .slice b1 x.cols.length d1, .int .i64 x.g.kd, .string x.g.nm, .string x.g.nw, .string x.g.c.nm, .int .i64 x.g.c.kd, .bool x.g.c.nd, .bool x.g.c.oc, .int .i64 x.g.c.k, .int .i64 x.g.c.n, .string x.g.c.s, .string x.l.fr, .string x.l.co, .string x.l.tt, .int .i64 x.l.hw] 45)) a0 a1 x ∧ ActAt ((w.alloc (.cells #[.int .i64 x.kd, .string x.nm, .int .i64 x.id, .slice a0 x.sets.length c0, .slice a1 x.cols.length c1, .int .i64 x.g.kd, .string x.g.nm, .string x.g.nw, .string x.g.c.nm, .int .i64 x.g.c.kd, .bool x.g.c.nd, .bool x.g.c.oc, .int .i64 x.g.c.k, .int .i64 x.g.c.n, .string x.g.c.s, .string x.l.fr, .string x.l.co, .string x.l.tt, .int .i64 x.l.hw] 45)).alloc (.cells #[.int .i64 x.kd, .string x.nm, .int .i64 x.id, .slice b0 x.sets.length d0, .slice b1 x.cols.length d1, .int .i64 x.g.kd, .string x.g.nm, .string x.g.nw, .string x.g.c.nm, .int .i64 x.g.c.kd, .bool x.g.c.nd, .bool x.g.c.oc, .int .i64 x.g.c.k, .int .i64 x.g.c.n, .string x.g.c.s, .string x.l.fr, .string x.l.co, .string x.l.tt, .int .i64 x.l.hw] 45)) b0 b1 x) := ⟨ha.keep HX.out.2.2.2, hb.keep HX.out.2.2.2⟩
  have HF : Hid x.fit := hf
  clear ha hb hf
  go_enter Tryz.func8, Tryz.ntmps8
  go_wp2_with fail
  refine (eq_sets _ _ _ _ _ _ HT.out.1.1 HT.out.2.1 HF.out.2.1.2).mono ?_
  rintro e w1 ⟨rfl, hq⟩
  have X1 : Hid (TwoActs w (actF x a0 c0 a1 c1) (actF x b0 d0 b1 d1) w1) := HX.out.next hq
  have T1 : Hid (ActAt w1 a0 a1 x ∧ ActAt w1 b0 b1 x) := ⟨HT.out.1.keep hq, HT.out.2.keep hq⟩
  clear HX HT hq
  have Y1 : BoxA w.heap.size (.int .i64 x.kd) (.string x.nm) (.int .i64 x.id) (.slice a0 x.sets.length c0) (.slice a1 x.cols.length c1) (.int .i64 x.g.kd) (.string x.g.nm) (.string x.g.nw) (.string x.g.c.nm) (.int .i64 x.g.c.kd) (.bool x.g.c.nd) (.bool x.g.c.oc) (.int .i64 x.g.c.k) (.int .i64 x.g.c.n) (.string x.g.c.s) (.string x.l.fr) (.string x.l.co) (.string x.l.tt) (.int .i64 x.l.hw) w1 ∧ BoxA (w.heap.size + 1) (.int .i64 x.kd) (.string x.nm) (.int .i64 x.id) (.slice b0 x.sets.length d0) (.slice b1 x.cols.length d1) (.int .i64 x.g.kd) (.string x.g.nm) (.string x.g.nw) (.string x.g.c.nm) (.int .i64 x.g.c.kd) (.bool x.g.c.nd) (.bool x.g.c.oc) (.int .i64 x.g.c.k) (.int .i64 x.g.c.n) (.string x.g.c.s) (.string x.l.fr) (.string x.l.co) (.string x.l.tt) (.int .i64 x.l.hw) w1 := ⟨X1.out.1.all, X1.out.2.1.all⟩
  go_wp2_with fail
  refine (eq_cols _ _ _ _ _ _ T1.out.1.2 T1.out.2.2 HF.out.2.2.1.2).mono ?_
  rintro e w2 ⟨rfl, hq⟩
  have X2 : Hid (TwoActs w (actF x a0 c0 a1 c1) (actF x b0 d0 b1 d1) w2) := X1.out.next hq
  clear X1 T1 hq Y1
  have Y2 : BoxA w.heap.size (.int .i64 x.kd) (.string x.nm) (.int .i64 x.id) (.slice a0 x.sets.length c0) (.slice a1 x.cols.length c1) (.int .i64 x.g.kd) (.string x.g.nm) (.string x.g.nw) (.string x.g.c.nm) (.int .i64 x.g.c.kd) (.bool x.g.c.nd) (.bool x.g.c.oc) (.int .i64 x.g.c.k) (.int .i64 x.g.c.n) (.string x.g.c.s) (.string x.l.fr) (.string x.l.co) (.string x.l.tt) (.int .i64 x.l.hw) w2 ∧ BoxA (w.heap.size + 1) (.int .i64 x.kd) (.string x.nm) (.int .i64 x.id) (.slice b0 x.sets.length d0) (.slice b1 x.cols.length d1) (.int .i64 x.g.kd) (.string x.g.nm) (.string x.g.nw) (.string x.g.c.nm) (.int .i64 x.g.c.kd) (.bool x.g.c.nd) (.bool x.g.c.oc) (.int .i64 x.g.c.k) (.int .i64 x.g.c.n) (.string x.g.c.s) (.string x.l.fr) (.string x.l.co) (.string x.l.tt) (.int .i64 x.l.hw) w2 := ⟨X2.out.1.all, X2.out.2.1.all⟩
  go_wp2_with fail
  refine (eq_change x.g _).mono ?_
  rintro e w3 ⟨rfl, hq⟩
  have X3 : Hid (TwoActs w (actF x a0 c0 a1 c1) (actF x b0 d0 b1 d1) w3) := X2.out.next hq
  clear X2 hq Y2
  have Y3 : BoxA w.heap.size (.int .i64 x.kd) (.string x.nm) (.int .i64 x.id) (.slice a0 x.sets.length c0) (.slice a1 x.cols.length c1) (.int .i64 x.g.kd) (.string x.g.nm) (.string x.g.nw) (.string x.g.c.nm) (.int .i64 x.g.c.kd) (.bool x.g.c.nd) (.bool x.g.c.oc) (.int .i64 x.g.c.k) (.int .i64 x.g.c.n) (.string x.g.c.s) (.string x.l.fr) (.string x.l.co) (.string x.l.tt) (.int .i64 x.l.hw) w3 ∧ BoxA (w.heap.size + 1) (.int .i64 x.kd) (.string x.nm) (.int .i64 x.id) (.slice b0 x.sets.length d0) (.slice b1 x.cols.length d1) (.int .i64 x.g.kd) (.string x.g.nm) (.string x.g.nw) (.string x.g.c.nm) (.int .i64 x.g.c.kd) (.bool x.g.c.nd) (.bool x.g.c.oc) (.int .i64 x.g.c.k) (.int .i64 x.g.c.n) (.string x.g.c.s) (.string x.l.fr) (.string x.l.co) (.string x.l.tt) (.int .i64 x.l.hw) w3 := ⟨X3.out.1.all, X3.out.2.1.all⟩
  go_wp2_with fail
  refine (eq_link x.l _).mono ?_
  rintro e w4 ⟨rfl, hq⟩
  have X4 : Hid (TwoActs w (actF x a0 c0 a1 c1) (actF x b0 d0 b1 d1) w4) := X3.out.next hq
  clear X3 hq Y3
  go_wp2_with fail
  go_ret
  exact ⟨rfl, X4.out.2.2.2⟩

end Go.Proofs.YtacindondkcaiaaGreat
