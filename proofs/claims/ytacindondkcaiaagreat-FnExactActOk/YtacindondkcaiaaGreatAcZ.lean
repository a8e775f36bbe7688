/- The contracts of laws.szSet, szSetS, szChange, szLink and szAct, over the seat's translation. -/
import Derived.Test.YtacindondkcaiaaGreatAcA
namespace Go.Proofs.YtacindondkcaiaaGreat
open Go.RowKit

theorem sz_col_rest (nm : ByteArray) (kd : Int) (nd oc : Bool) (k n : Int) (s : ByteArray) (l : Int) (w : World) (hnm : nm.size ≤ maxLen) (hs : s.size ≤ maxLen) (h0 : 0 ≤ l) (h1 : l ≤ 1048576) :
    Calls Tryz.prog 29 #[.agg #[.string nm, .int .i64 kd, .bool nd, .bool oc, .int .i64 k, .int .i64 n, .string s], .int .i64 l] w fun e w' => ∃ z, e = .returned (.int .i64 z) ∧ Rest l z True ∧ Below w.heap.size w w' :=
  (sz_col nm kd nd oc k n s l w hnm hs h0 h1).mono fun _ _ ⟨he, hb⟩ => ⟨_, he, rest_of (fun _ => trivial), hb⟩

set_option maxRecDepth 100000 in
set_option maxHeartbeats 1000000 in
theorem sz_change (x : AChg) (l : Int) (w : World) (hf : x.fit) (h0 : 0 ≤ l) (h1 : l ≤ 1048576) :
    Calls Tryz.prog 11 #[.agg #[.int .i64 x.kd, .string x.nm, .string x.nw, .string x.c.nm, .int .i64 x.c.kd, .bool x.c.nd, .bool x.c.oc, .int .i64 x.c.k, .int .i64 x.c.n, .string x.c.s], .int .i64 l] w fun e w' => ∃ z, e = .returned (.int .i64 z) ∧ Rest l z True ∧ Below w.heap.size w w' := by
  have hz1 : x.nm.size ≤ 9223372036854775807 := by have := hf.1; unfold maxLen at this; omega
  have hz2 : x.nw.size ≤ 9223372036854775807 := by have := hf.2.1; unfold maxLen at this; omega
  by_cases ha : (x.nm.size : Int) ≤ l
  · by_cases hb : (x.nw.size : Int) ≤ l - x.nm.size
    · go_enter Tryz.func11, Tryz.ntmps11
      go_wp2_with fail
      refine (sz_col_rest _ _ _ _ _ _ _ _ _ hf.2.2.1 hf.2.2.2 (by omega) (by omega)).mono ?_
      rintro e w' ⟨z, rfl, hR, hq⟩
      have hB : Hid (Below w.heap.size w w') := ((Below.refl _ _).alloc (Nat.le_refl _) _).trans (hq.mono (by simp))
      clear hq
      rcases hR with rfl | ⟨hz, hzl, _⟩
      · go_wp2_with fail
        go_ret
        exact ⟨_, rfl, Or.inl rfl, hB.out⟩
      · go_wp2_with fail
        go_ret
        exact ⟨_, rfl, Or.inr ⟨hz, by omega, trivial⟩, hB.out⟩
    · go_enter Tryz.func11, Tryz.ntmps11
      go_wp2_with fail
      go_ret
      exact ⟨_, rfl, Or.inl rfl, (Below.refl _ _).alloc (Nat.le_refl _) _⟩
  · go_enter Tryz.func11, Tryz.ntmps11
    go_wp2_with fail
    go_ret
    exact ⟨_, rfl, Or.inl rfl, (Below.refl _ _).alloc (Nat.le_refl _) _⟩

set_option maxRecDepth 100000 in
set_option maxHeartbeats 1000000 in
theorem sz_link (x : ALnk) (l : Int) (w : World) (hf : x.fit) (h0 : 0 ≤ l) (h1 : l ≤ 1048576) :
    Calls Tryz.prog 12 #[.agg #[.string x.fr, .string x.co, .string x.tt, .int .i64 x.hw], .int .i64 l] w fun e w' => ∃ z, e = .returned (.int .i64 z) ∧ Rest l z True ∧ Below w.heap.size w w' := by
  have hz1 : x.fr.size ≤ 9223372036854775807 := by have := hf.1; unfold maxLen at this; omega
  have hz2 : x.co.size ≤ 9223372036854775807 := by have := hf.2.1; unfold maxLen at this; omega
  have hz3 : x.tt.size ≤ 9223372036854775807 := by have := hf.2.2; unfold maxLen at this; omega
  by_cases ha : (x.fr.size : Int) ≤ l
  · by_cases hb : (x.co.size : Int) ≤ l - x.fr.size
    · by_cases hc : (x.tt.size : Int) ≤ l - x.fr.size - x.co.size
      · go_enter Tryz.func12, Tryz.ntmps12
        go_wp2_with fail
        go_ret
        exact ⟨_, rfl, Or.inr ⟨by omega, by omega, trivial⟩, (Below.refl _ _).alloc (Nat.le_refl _) _⟩
      · go_enter Tryz.func12, Tryz.ntmps12
        go_wp2_with fail
        go_ret
        exact ⟨_, rfl, Or.inl rfl, (Below.refl _ _).alloc (Nat.le_refl _) _⟩
    · go_enter Tryz.func12, Tryz.ntmps12
      go_wp2_with fail
      go_ret
      exact ⟨_, rfl, Or.inl rfl, (Below.refl _ _).alloc (Nat.le_refl _) _⟩
  · go_enter Tryz.func12, Tryz.ntmps12
    go_wp2_with fail
    go_ret
    exact ⟨_, rfl, Or.inl rfl, (Below.refl _ _).alloc (Nat.le_refl _) _⟩

set_option maxRecDepth 100000 in
set_option maxHeartbeats 1000000 in
theorem sz_set (x : ASet) (l : Int) (w : World) (hf : x.fit) (h0 : 0 ≤ l) (h1 : l ≤ 1048576) :
    Calls Tryz.prog 28 #[.agg #[.string x.nm, .int .i64 x.k, .int .i64 x.n, .string x.s], .int .i64 l] w fun e w' => ∃ z, e = .returned (.int .i64 z) ∧ Rest l z True ∧ Below w.heap.size w w' := by
  have hz1 : x.nm.size ≤ 9223372036854775807 := by have := hf.1; unfold maxLen at this; omega
  by_cases ha : (x.nm.size : Int) ≤ l
  · go_enter Tryz.func28, Tryz.ntmps28
    go_wp2_with fail
    refine (sz_val _ _ _ _ _ hf.2 (by omega) (by omega)).mono ?_
    rintro e w' ⟨rfl, hq⟩
    have hR : Rest (l - x.nm.size) (left (l - x.nm.size) x.s.size) True := rest_of (fun _ => trivial)
    have hB : Hid (Below w.heap.size w w') := ((Below.refl _ _).alloc (Nat.le_refl _) _).trans (hq.mono (by simp))
    clear hq
    generalize left (l - x.nm.size) x.s.size = z at *
    rcases hR with rfl | ⟨hz, hzl, _⟩
    · go_wp2_with fail
      go_ret
      exact ⟨_, rfl, Or.inl rfl, hB.out⟩
    · go_wp2_with fail
      go_ret
      exact ⟨_, rfl, Or.inr ⟨hz, by omega, trivial⟩, hB.out⟩
  · go_enter Tryz.func28, Tryz.ntmps28
    go_wp2_with fail
    go_ret
    exact ⟨_, rfl, Or.inl rfl, (Below.refl _ _).alloc (Nat.le_refl _) _⟩

set_option maxRecDepth 100000 in
set_option maxHeartbeats 1000000 in
theorem sz_sets (a : Option Addr) (cap : Nat) (L : List ASet) (l : Int) (w : World) (hL : SetsAt w a L) (hf : ∀ c ∈ L, c.fit) (hm : L.length ≤ maxLen) (h0 : 0 ≤ l) (h1 : l ≤ 1048576) :
    Calls Tryz.prog 9 #[.slice a L.length cap, .int .i64 l] w fun e w' => ∃ z, e = .returned (.int .i64 z) ∧ Rest l z (L.length ≤ 1048576) ∧ Below w.heap.size w w' := by
  unfold maxLen at hm
  by_cases ha : (L.length : Int) ≤ l
  · go_enter Tryz.func9, Tryz.ntmps9
    go_wp2_with fail
    go_loopw [1, 5] (fun lf i wr => ∃ (k : Nat) (z : Int), k ≤ L.length ∧ i = .int .i64 k ∧ lf = .int .i64 z ∧ 0 ≤ z ∧ z ≤ l ∧ Hid (Below w.heap.size w wr)) (fun _ i _ => L.length - (intOf i).toNat)
    case atStart => exact ⟨0, _, Nat.zero_le _, rfl, rfl, by omega, by omega, Below.refl _ _⟩
    case round =>
      obtain ⟨k, z, hk, rfl, rfl, hz0, hzl, hH⟩ := hrel
      by_cases hlt : k < L.length
      · obtain ⟨b, o, hab, hbl, hr⟩ := (hL.keep hH.out).at hlt
        have hft := hf _ (List.getElem_mem hlt)
        revert hr hft
        generalize L[k] = c
        intro hr hft
        have hix : ∀ wx, (Instr.indexAt 22 (.slice a L.length cap) (.int .i64 k)).run Tryz.prog wx = .ok (.pointer (some ⟨b, o + k * 4, none⟩)) wx := fun wx => by
          rw [hab]; exact run_ixk 4 _ _ _ _ _ _ _ wx hlt Tryz.underlying22 (Tryz.sizeOf72 wx)
        have hld := cellsS_of hr
        clear hab hr hL
        go_wp2_with fail
        refine (sz_set c z _ hft hz0 (by omega)).mono ?_
        rintro e w' ⟨z2, rfl, hR, hq⟩
        have hP : Hid (Below w.heap.size w w') := hH.out.trans (hq.mono hH.out.size)
        clear hq hH hld
        rcases hR with rfl | ⟨hy, hyl, _⟩
        · go_wp2_with fail
          go_ret
          exact ⟨_, rfl, Or.inl rfl, hP.out⟩
        · go_wp2_with fail
          go_roundw
          case rel => exact ⟨k + 1, z2, by omega, by go_num, rfl, hy, by omega, hP⟩
          case measure => simp [intOf]; omega
      · have hkl : k = L.length := by omega
        subst hkl
        go_wp2_with fail
        go_ret
        exact ⟨_, rfl, Or.inr ⟨hz0, hzl, by omega⟩, hH.out⟩
  · go_enter Tryz.func9, Tryz.ntmps9
    go_wp2_with fail
    go_ret
    exact ⟨_, rfl, Or.inl rfl, Below.refl _ _⟩

set_option maxRecDepth 100000 in
set_option maxHeartbeats 2000000 in
theorem sz_act (x : AAct) (a0 a1 : Option Addr) (c0 c1 : Nat) (l : Int) (w : World) (hT : ActAt w a0 a1 x) (hf : x.fit) (h0 : 0 ≤ l) (h1 : l ≤ 1048576) :
    Calls Tryz.prog 4 #[.agg #[.int .i64 x.kd, .string x.nm, .int .i64 x.id, .slice a0 x.sets.length c0, .slice a1 x.cols.length c1, .int .i64 x.g.kd, .string x.g.nm, .string x.g.nw, .string x.g.c.nm, .int .i64 x.g.c.kd, .bool x.g.c.nd, .bool x.g.c.oc, .int .i64 x.g.c.k, .int .i64 x.g.c.n, .string x.g.c.s, .string x.l.fr, .string x.l.co, .string x.l.tt, .int .i64 x.l.hw], .int .i64 l] w fun e w' => ∃ z, e = .returned (.int .i64 z) ∧ Rest l z x.near ∧ Below w.heap.size w w' := by
  have hz0 : x.nm.size ≤ 9223372036854775807 := by have := hf.1; unfold maxLen at this; omega
  have b0 : Hid (Below w.heap.size w (w.alloc (.cells #[.int .i64 x.kd, .string x.nm, .int .i64 x.id, .slice a0 x.sets.length c0, .slice a1 x.cols.length c1, .int .i64 x.g.kd, .string x.g.nm, .string x.g.nw, .string x.g.c.nm, .int .i64 x.g.c.kd, .bool x.g.c.nd, .bool x.g.c.oc, .int .i64 x.g.c.k, .int .i64 x.g.c.n, .string x.g.c.s, .string x.l.fr, .string x.l.co, .string x.l.tt, .int .i64 x.l.hw] 33)) ∧ BoxF w.heap.size (actF x a0 c0 a1 c1) (w.alloc (.cells #[.int .i64 x.kd, .string x.nm, .int .i64 x.id, .slice a0 x.sets.length c0, .slice a1 x.cols.length c1, .int .i64 x.g.kd, .string x.g.nm, .string x.g.nw, .string x.g.c.nm, .int .i64 x.g.c.kd, .bool x.g.c.nd, .bool x.g.c.oc, .int .i64 x.g.c.k, .int .i64 x.g.c.n, .string x.g.c.s, .string x.l.fr, .string x.l.co, .string x.l.tt, .int .i64 x.l.hw] 33))) := (⟨(Below.refl _ _).alloc (Nat.le_refl _) _, boxf_box _ _ _ _ _ _ _ _ _ _ _ _ _ _ _ _ _ _ _ _ _ _ (by simp [actF])⟩ : _ ∧ _)
  have HT0 : Hid (ActAt (w.alloc (.cells #[.int .i64 x.kd, .string x.nm, .int .i64 x.id, .slice a0 x.sets.length c0, .slice a1 x.cols.length c1, .int .i64 x.g.kd, .string x.g.nm, .string x.g.nw, .string x.g.c.nm, .int .i64 x.g.c.kd, .bool x.g.c.nd, .bool x.g.c.oc, .int .i64 x.g.c.k, .int .i64 x.g.c.n, .string x.g.c.s, .string x.l.fr, .string x.l.co, .string x.l.tt, .int .i64 x.l.hw] 33)) a0 a1 x) := hT.keep b0.out.1
  have hs0 : Hid (w.heap.size < (w.alloc (.cells #[.int .i64 x.kd, .string x.nm, .int .i64 x.id, .slice a0 x.sets.length c0, .slice a1 x.cols.length c1, .int .i64 x.g.kd, .string x.g.nm, .string x.g.nw, .string x.g.c.nm, .int .i64 x.g.c.kd, .bool x.g.c.nd, .bool x.g.c.oc, .int .i64 x.g.c.k, .int .i64 x.g.c.n, .string x.g.c.s, .string x.l.fr, .string x.l.co, .string x.l.tt, .int .i64 x.l.hw] 33)).heap.size) := by show _ < _; simp
  have HF : Hid x.fit := hf
  clear hT hf
  by_cases ha : (x.nm.size : Int) ≤ l
  case neg =>
    go_enter Tryz.func4, Tryz.ntmps4
    go_wp2_with fail
    go_ret
    exact ⟨_, rfl, Or.inl rfl, b0.out.1⟩
  go_enter Tryz.func4, Tryz.ntmps4
  go_wp2_with fail
  refine (sz_sets _ _ _ _ _ HT0.out.1 HF.out.2.1.1 HF.out.2.1.2 (by omega) (by omega)).mono ?_
  rintro e w1 ⟨z, rfl, hR, hq⟩
  have T1 : Hid (ActAt w1 a0 a1 x ∧ BoxF w.heap.size (actF x a0 c0 a1 c1) w1 ∧ Below w.heap.size w w1 ∧ w.heap.size < w1.heap.size) := ⟨HT0.out.keep hq, b0.out.2.next hs0.out hq, b0.out.1.trans (hq.mono b0.out.1.size), Nat.lt_of_lt_of_le hs0.out hq.size⟩
  clear hq b0 HT0 hs0
  rcases hR with rfl | ⟨hz, hzl, hl⟩
  · go_wp2_with fail
    go_ret
    exact ⟨_, rfl, Or.inl rfl, T1.out.2.2.1⟩
  have hl' : Hid (x.sets.length ≤ 1048576) := hl
  have X1 : BoxA w.heap.size (.int .i64 x.kd) (.string x.nm) (.int .i64 x.id) (.slice a0 x.sets.length c0) (.slice a1 x.cols.length c1) (.int .i64 x.g.kd) (.string x.g.nm) (.string x.g.nw) (.string x.g.c.nm) (.int .i64 x.g.c.kd) (.bool x.g.c.nd) (.bool x.g.c.oc) (.int .i64 x.g.c.k) (.int .i64 x.g.c.n) (.string x.g.c.s) (.string x.l.fr) (.string x.l.co) (.string x.l.tt) (.int .i64 x.l.hw)  w1 := T1.out.2.1.all
  clear hl
  go_wp2_with fail
  refine (sz_cols _ _ _ _ _ T1.out.1.2 HF.out.2.2.1.1 HF.out.2.2.1.2 (by omega) (by omega)).mono ?_
  rintro e w2 ⟨rfl, hq⟩
  have hR : Rest z (left z (x.cols.length + total x.cols)) (x.cols.length ≤ 1048576) := rest_of (fun h => by omega)
  have T2 : Hid (ActAt w2 a0 a1 x ∧ BoxF w.heap.size (actF x a0 c0 a1 c1) w2 ∧ Below w.heap.size w w2 ∧ w.heap.size < w2.heap.size) := ⟨T1.out.1.keep hq, T1.out.2.1.next T1.out.2.2.2 hq, T1.out.2.2.1.trans (hq.mono T1.out.2.2.1.size), Nat.lt_of_lt_of_le T1.out.2.2.2 hq.size⟩
  clear hq T1 X1
  generalize left z (x.cols.length + total x.cols) = y at *
  rcases hR with rfl | ⟨hy, hyl, hk⟩
  · go_wp2_with fail
    go_ret
    exact ⟨_, rfl, Or.inl rfl, T2.out.2.2.1⟩
  have hk' : Hid (x.cols.length ≤ 1048576) := hk
  have X2 : BoxA w.heap.size (.int .i64 x.kd) (.string x.nm) (.int .i64 x.id) (.slice a0 x.sets.length c0) (.slice a1 x.cols.length c1) (.int .i64 x.g.kd) (.string x.g.nm) (.string x.g.nw) (.string x.g.c.nm) (.int .i64 x.g.c.kd) (.bool x.g.c.nd) (.bool x.g.c.oc) (.int .i64 x.g.c.k) (.int .i64 x.g.c.n) (.string x.g.c.s) (.string x.l.fr) (.string x.l.co) (.string x.l.tt) (.int .i64 x.l.hw)  w2 := T2.out.2.1.all
  clear hk
  go_wp2_with fail
  refine (sz_change x.g _ _ HF.out.2.2.2.1 (by omega) (by omega)).mono ?_
  rintro e w3 ⟨y3, rfl, hR, hq⟩
  have T3 : Hid (ActAt w3 a0 a1 x ∧ BoxF w.heap.size (actF x a0 c0 a1 c1) w3 ∧ Below w.heap.size w w3 ∧ w.heap.size < w3.heap.size) := ⟨T2.out.1.keep hq, T2.out.2.1.next T2.out.2.2.2 hq, T2.out.2.2.1.trans (hq.mono T2.out.2.2.1.size), Nat.lt_of_lt_of_le T2.out.2.2.2 hq.size⟩
  clear hq T2 X2
  rcases hR with rfl | ⟨hy3, hyl3, _⟩
  · go_wp2_with fail
    go_ret
    exact ⟨_, rfl, Or.inl rfl, T3.out.2.2.1⟩
  have X3 : BoxA w.heap.size (.int .i64 x.kd) (.string x.nm) (.int .i64 x.id) (.slice a0 x.sets.length c0) (.slice a1 x.cols.length c1) (.int .i64 x.g.kd) (.string x.g.nm) (.string x.g.nw) (.string x.g.c.nm) (.int .i64 x.g.c.kd) (.bool x.g.c.nd) (.bool x.g.c.oc) (.int .i64 x.g.c.k) (.int .i64 x.g.c.n) (.string x.g.c.s) (.string x.l.fr) (.string x.l.co) (.string x.l.tt) (.int .i64 x.l.hw)  w3 := T3.out.2.1.all
  go_wp2_with fail
  refine (sz_link x.l _ _ HF.out.2.2.2.2 (by omega) (by omega)).mono ?_
  rintro e w4 ⟨y4, rfl, hR, hq⟩
  have B4 : Hid (Below w.heap.size w w4) := T3.out.2.2.1.trans (hq.mono T3.out.2.2.1.size)
  clear hq T3 X3
  rcases hR with rfl | ⟨hy4, hyl4, _⟩
  · go_wp2_with fail
    go_ret
    exact ⟨_, rfl, Or.inl rfl, B4.out⟩
  · go_wp2_with fail
    go_ret
    exact ⟨_, rfl, Or.inr ⟨hy4, by omega, hl'.out, hk'.out⟩, B4.out⟩

end Go.Proofs.YtacindondkcaiaaGreat
