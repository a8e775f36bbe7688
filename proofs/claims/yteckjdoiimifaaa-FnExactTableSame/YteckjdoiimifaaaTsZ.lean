/- The contracts of laws.szChange, szChangeS, szRow, szRowS and szTable, over the seat's translation. -/
import Derived.Test.YteckjdoiimifaaaTsA
namespace Go.Proofs.Yteckjdoiimifaaa
open Go.RowKit

theorem sz_col_rest (nm : ByteArray) (kd : Int) (nd oc : Bool) (k n : Int) (s : ByteArray) (l : Int) (w : World) (hnm : nm.size ≤ maxLen) (hs : s.size ≤ maxLen) (h0 : 0 ≤ l) (h1 : l ≤ 1048576) :
    Calls Try.prog 24 #[.agg #[.string nm, .int .i64 kd, .bool nd, .bool oc, .int .i64 k, .int .i64 n, .string s], .int .i64 l] w fun e w' => ∃ z, e = .returned (.int .i64 z) ∧ Rest l z True ∧ Below w.heap.size w w' :=
  (sz_col nm kd nd oc k n s l w hnm hs h0 h1).mono fun _ _ ⟨he, hb⟩ => ⟨_, he, rest_of (fun _ => trivial), hb⟩

set_option maxRecDepth 100000 in
set_option maxHeartbeats 1000000 in
theorem sz_change (x : AChg) (l : Int) (w : World) (hf : x.fit) (h0 : 0 ≤ l) (h1 : l ≤ 1048576) :
    Calls Try.prog 68 #[.agg #[.int .i64 x.kd, .string x.nm, .string x.nw, .string x.c.nm, .int .i64 x.c.kd, .bool x.c.nd, .bool x.c.oc, .int .i64 x.c.k, .int .i64 x.c.n, .string x.c.s], .int .i64 l] w fun e w' => ∃ z, e = .returned (.int .i64 z) ∧ Rest l z True ∧ Below w.heap.size w w' := by
  have hz1 : x.nm.size ≤ 9223372036854775807 := by have := hf.1; unfold maxLen at this; omega
  have hz2 : x.nw.size ≤ 9223372036854775807 := by have := hf.2.1; unfold maxLen at this; omega
  by_cases ha : (x.nm.size : Int) ≤ l
  · by_cases hb : (x.nw.size : Int) ≤ l - x.nm.size
    · go_enter Try.func68, Try.ntmps68
      go_wp2_with fail
      refine (sz_col_rest _ _ _ _ _ _ _ _ _ hf.2.2.1 hf.2.2.2 (by omega) (by omega)).mono ?_
      rintro e w' ⟨z, rfl, hR, hq⟩
      have hB : Hid (Below w.heap.size w w') := ((Below.refl _ _).alloc (Nat.le_refl _) _).trans (hq.mono (by simp))
      clear hq
      rcases hR with rfl | ⟨hz, hzl, _⟩
      · go_wp2_with fail
        go_ret
        exact ⟨_, rfl, Or.inl rfl, hB.out⟩
      · go_wp2_with fail
        go_ret
        exact ⟨_, rfl, Or.inr ⟨hz, by omega, trivial⟩, hB.out⟩
    · go_enter Try.func68, Try.ntmps68
      go_wp2_with fail
      go_ret
      exact ⟨_, rfl, Or.inl rfl, (Below.refl _ _).alloc (Nat.le_refl _) _⟩
  · go_enter Try.func68, Try.ntmps68
    go_wp2_with fail
    go_ret
    exact ⟨_, rfl, Or.inl rfl, (Below.refl _ _).alloc (Nat.le_refl _) _⟩

set_option maxRecDepth 100000 in
set_option maxHeartbeats 1000000 in
theorem sz_changes (a : Option Addr) (cap : Nat) (L : List AChg) (l : Int) (w : World) (hL : ChgsAt w a L) (hf : ∀ c ∈ L, c.fit) (hm : L.length ≤ maxLen) (h0 : 0 ≤ l) (h1 : l ≤ 1048576) :
    Calls Try.prog 38 #[.slice a L.length cap, .int .i64 l] w fun e w' => ∃ z, e = .returned (.int .i64 z) ∧ Rest l z (L.length ≤ 1048576) ∧ Below w.heap.size w w' := by
  unfold maxLen at hm
  by_cases ha : (L.length : Int) ≤ l
  · go_enter Try.func38, Try.ntmps38
    go_wp2_with fail
    go_loopw [1, 5] (fun lf i wr => ∃ (k : Nat) (z : Int), k ≤ L.length ∧ i = .int .i64 k ∧ lf = .int .i64 z ∧ 0 ≤ z ∧ z ≤ l ∧ Hid (Below w.heap.size w wr)) (fun _ i _ => L.length - (intOf i).toNat)
    case atStart => exact ⟨0, _, Nat.zero_le _, rfl, rfl, by omega, by omega, Below.refl _ _⟩
    case round =>
      obtain ⟨k, z, hk, rfl, rfl, hz0, hzl, hH⟩ := hrel
      by_cases hlt : k < L.length
      · obtain ⟨b, o, hab, hbl, hr⟩ := (hL.keep hH.out).at hlt
        have hft := hf _ (List.getElem_mem hlt)
        revert hr hft
        generalize L[k] = c
        intro hr hft
        have hix : ∀ wx, (Instr.indexAt 36 (.slice a L.length cap) (.int .i64 k)).run Try.prog wx = .ok (.pointer (some ⟨b, o + k * 10, none⟩)) wx := fun wx => by
          rw [hab]; exact run_ix10 _ _ _ _ _ _ _ wx hlt Try.underlying36 (Try.sizeOf107 wx)
        have hld := cells10_of hr
        clear hab hr hL
        go_wp2_with fail
        refine (sz_change c z _ hft hz0 (by omega)).mono ?_
        rintro e w' ⟨z2, rfl, hR, hq⟩
        have hP : Hid (Below w.heap.size w w') := hH.out.trans (hq.mono hH.out.size)
        clear hq hH hld
        rcases hR with rfl | ⟨hy, hyl, _⟩
        · go_wp2_with fail
          go_ret
          exact ⟨_, rfl, Or.inl rfl, hP.out⟩
        · go_wp2_with fail
          go_roundw
          case rel => exact ⟨k + 1, z2, by omega, by go_num, rfl, hy, by omega, hP⟩
          case measure => simp [intOf]; omega
      · have hkl : k = L.length := by omega
        subst hkl
        go_wp2_with fail
        go_ret
        exact ⟨_, rfl, Or.inr ⟨hz0, hzl, by omega⟩, hH.out⟩
  · go_enter Try.func38, Try.ntmps38
    go_wp2_with fail
    go_ret
    exact ⟨_, rfl, Or.inl rfl, Below.refl _ _⟩

set_option maxRecDepth 100000 in
set_option maxHeartbeats 1000000 in
theorem sz_row (r : ARow) (a : Option Addr) (cap : Nat) (l : Int) (w : World) (hV : ValsAt w a r.vals) (hf : r.fit) (h0 : 0 ≤ l) (h1 : l ≤ 1048576) :
    Calls Try.prog 69 #[.agg #[.int .i64 r.id, .int .i64 r.ver, .slice a r.vals.length cap], .int .i64 l] w fun e w' => ∃ z, e = .returned (.int .i64 z) ∧ Rest l z (r.vals.length ≤ 1048576) ∧ Below w.heap.size w w' := by
  have b0 : Hid (Below w.heap.size w (w.alloc (.cells #[.int .i64 r.id, .int .i64 r.ver, .slice a r.vals.length cap] 111))) := (Below.refl _ _).alloc (Nat.le_refl _) _
  have hV0 := hV.keep b0.out
  go_enter Try.func69, Try.ntmps69
  go_wp2_with fail
  refine (sz_vals _ _ _ _ _ hV0 hf.1 hf.2 h0 h1).mono ?_
  rintro e w' ⟨rfl, hq⟩
  have hR : Rest l (left l (r.vals.length + totalV r.vals)) (r.vals.length ≤ 1048576) := rest_of (fun h => by omega)
  have hB : Hid (Below w.heap.size w w') := b0.out.trans (hq.mono (by simp))
  clear hq hV hV0 b0
  generalize left l (r.vals.length + totalV r.vals) = z at *
  rcases hR with rfl | ⟨hz, hzl, hl⟩
  · go_wp2_with fail
    go_ret
    exact ⟨_, rfl, Or.inl rfl, hB.out⟩
  · go_wp2_with fail
    go_ret
    exact ⟨_, rfl, Or.inr ⟨hz, hzl, hl⟩, hB.out⟩

set_option maxRecDepth 100000 in
set_option maxHeartbeats 1000000 in
theorem sz_rows (a : Option Addr) (cap : Nat) (L : List ARow) (l : Int) (w : World) (hL : RowsAt w a L) (hf : ∀ c ∈ L, c.fit) (hm : L.length ≤ maxLen) (h0 : 0 ≤ l) (h1 : l ≤ 1048576) :
    Calls Try.prog 39 #[.slice a L.length cap, .int .i64 l] w fun e w' => ∃ z, e = .returned (.int .i64 z) ∧ Rest l z (L.length ≤ 1048576 ∧ ∀ r ∈ L, r.vals.length ≤ 1048576) ∧ Below w.heap.size w w' := by
  unfold maxLen at hm
  by_cases ha : (L.length : Int) ≤ l
  · go_enter Try.func39, Try.ntmps39
    go_wp2_with fail
    go_loopw [1, 5] (fun lf i wr => ∃ (k : Nat) (z : Int), k ≤ L.length ∧ i = .int .i64 k ∧ lf = .int .i64 z ∧ 0 ≤ z ∧ z ≤ l ∧ Hid ((∀ r ∈ L.take k, r.vals.length ≤ 1048576) ∧ Below w.heap.size w wr)) (fun _ i _ => L.length - (intOf i).toNat)
    case atStart => exact ⟨0, _, Nat.zero_le _, rfl, rfl, by omega, by omega, fun r hr => by simp at hr, Below.refl _ _⟩
    case round =>
      obtain ⟨k, z, hk, rfl, rfl, hz0, hzl, hH⟩ := hrel
      by_cases hlt : k < L.length
      · obtain ⟨b, o, ra, rc, hab, hbl, hr, hv⟩ := (hL.keep hH.out.2).at hlt
        have hft := hf _ (List.getElem_mem hlt)
        have htk : L.take (k + 1) = L.take k ++ [L[k]] := List.take_succ_eq_append_getElem hlt
        have HT : Hid (L.take (k + 1) = L.take k ++ [L[k]]) := htk
        clear htk
        revert hr hft hv HT
        generalize L[k] = c
        intro hr hv hft HT
        have hix : ∀ wx, (Instr.indexAt 37 (.slice a L.length cap) (.int .i64 k)).run Try.prog wx = .ok (.pointer (some ⟨b, o + k * 3, none⟩)) wx := fun wx => by
          rw [hab]; exact run_ix3 _ _ _ _ _ _ _ wx hlt Try.underlying37 (Try.sizeOf111 wx)
        have hld := cellsR_of hr
        clear hab hr hL
        go_wp2_with fail
        refine (sz_row c ra rc z _ hv hft hz0 (by omega)).mono ?_
        rintro e w' ⟨z2, rfl, hR, hq⟩
        have hP : Hid ((∀ r ∈ L.take k, r.vals.length ≤ 1048576) ∧ Below w.heap.size w w') := ⟨hH.out.1, hH.out.2.trans (hq.mono hH.out.2.size)⟩
        clear hq hH hld hv
        rcases hR with rfl | ⟨hy, hyl, hcl⟩
        · go_wp2_with fail
          go_ret
          exact ⟨_, rfl, Or.inl rfl, hP.out.2⟩
        · have hcl' : Hid (c.vals.length ≤ 1048576) := hcl
          clear hcl
          go_wp2_with fail
          go_roundw
          case rel =>
            refine ⟨k + 1, z2, by omega, by go_num, rfl, hy, by omega, fun r hr => ?_, hP.out.2⟩
            rw [HT.out] at hr
            rcases List.mem_append.1 hr with hr | hr
            · exact hP.out.1 r hr
            · rw [List.mem_singleton] at hr
              subst hr
              exact hcl'
          case measure => simp [intOf]; omega
      · have hkl : k = L.length := by omega
        subst hkl
        go_wp2_with fail
        go_ret
        refine ⟨_, rfl, Or.inr ⟨hz0, hzl, by omega, fun r hr => hH.out.1 r (by rw [List.take_length]; exact hr)⟩, hH.out.2⟩
  · go_enter Try.func39, Try.ntmps39
    go_wp2_with fail
    go_ret
    exact ⟨_, rfl, Or.inl rfl, Below.refl _ _⟩

/-- A box of a table in W, as it came. -/
abbrev BoxT (B : Nat) (x y z : Value) (n : Int) (W : World) : Prop :=
  W.cell? ⟨B, 0, none⟩ = some x ∧ W.cell? ⟨B, 1, none⟩ = some y ∧ W.cell? ⟨B, 2, none⟩ = some z ∧ W.cell? ⟨B, 3, none⟩ = some (.int .i64 n)
theorem boxt_next {B C : Nat} {x y z : Value} {n : Int} {W W' : World} (h : BoxT B x y z n W) (hB : B < C) (hb : Below C W W') : BoxT B x y z n W' := by
  have hc := fun o => hb.cell (p := ⟨B, o, none⟩) hB
  unfold BoxT
  simp only [hc]
  exact h
theorem boxt_box (w : World) (x y z : Value) (n : Int) (t : TypeId) : BoxT w.heap.size x y z n (w.alloc (.cells #[x, y, z, .int .i64 n] t)) := by
  refine ⟨?_, ?_, ?_, ?_⟩
  all_goals go_simp

set_option maxRecDepth 100000 in
set_option maxHeartbeats 1000000 in
theorem sz_table (t : ATab) (a0 a1 a2 : Option Addr) (c0 c1 c2 : Nat) (l : Int) (w : World) (hT : TabAt w a0 a1 a2 t) (hf : t.fit) (h0 : 0 ≤ l) (h1 : l ≤ 1048576) :
    Calls Try.prog 15 #[.agg #[.slice a0 t.cols.length c0, .slice a1 t.chgs.length c1, .slice a2 t.rows.length c2, .int .i64 t.nx], .int .i64 l] w fun e w' => ∃ z, e = .returned (.int .i64 z) ∧ Rest l z t.near ∧ Below w.heap.size w w' := by
  have b0 : Hid (Below w.heap.size w (w.alloc (.cells #[.slice a0 t.cols.length c0, .slice a1 t.chgs.length c1, .slice a2 t.rows.length c2, .int .i64 t.nx] 39)) ∧ BoxT w.heap.size (.slice a0 t.cols.length c0) (.slice a1 t.chgs.length c1) (.slice a2 t.rows.length c2) t.nx (w.alloc (.cells #[.slice a0 t.cols.length c0, .slice a1 t.chgs.length c1, .slice a2 t.rows.length c2, .int .i64 t.nx] 39))) := (⟨(Below.refl _ _).alloc (Nat.le_refl _) _, boxt_box _ _ _ _ _ _⟩ : _ ∧ _)
  have HT0 : Hid (TabAt (w.alloc (.cells #[.slice a0 t.cols.length c0, .slice a1 t.chgs.length c1, .slice a2 t.rows.length c2, .int .i64 t.nx] 39)) a0 a1 a2 t) := hT.keep b0.out.1
  clear hT
  go_enter Try.func15, Try.ntmps15
  go_wp2_with fail
  refine (sz_cols _ _ _ _ _ HT0.out.1 hf.1 hf.2.1 h0 h1).mono ?_
  rintro e w1 ⟨rfl, hq⟩
  have hR : Rest l (left l (t.cols.length + total t.cols)) (t.cols.length ≤ 1048576) := rest_of (fun h => by omega)
  have B1 : Hid (Below w.heap.size w w1) := b0.out.1.trans (hq.mono (by simp))
  have T1 : Hid (TabAt w1 a0 a1 a2 t) := HT0.out.keep hq
  have X1 := boxt_next b0.out.2 (by simp) hq
  have hz1 : w.heap.size < w1.heap.size := by have := hq.size; simp at this; omega
  clear hq b0 HT0
  generalize left l (t.cols.length + total t.cols) = z at *
  rcases hR with rfl | ⟨hz, hzl, hl⟩
  · go_wp2_with fail
    go_ret
    exact ⟨_, rfl, Or.inl rfl, B1.out⟩
  have hl' : Hid (t.cols.length ≤ 1048576) := hl
  clear hl
  go_wp2_with fail
  refine (sz_changes _ _ _ _ _ T1.out.2.1 hf.2.2.1 hf.2.2.2.1 hz (by omega)).mono ?_
  rintro e w2 ⟨y, rfl, hR, hq⟩
  have B2 : Hid (Below w.heap.size w w2) := B1.out.trans (hq.mono B1.out.size)
  have T2 : Hid (TabAt w2 a0 a1 a2 t) := T1.out.keep hq
  have X2 := boxt_next X1 hz1 hq
  clear hq B1 T1 X1
  rcases hR with rfl | ⟨hy, hyl, hk⟩
  · go_wp2_with fail
    go_ret
    exact ⟨_, rfl, Or.inl rfl, B2.out⟩
  have hk' : Hid (t.chgs.length ≤ 1048576) := hk
  clear hk
  go_wp2_with fail
  refine (sz_rows _ _ _ _ _ T2.out.2.2 hf.2.2.2.2.1 hf.2.2.2.2.2 hy (by omega)).mono ?_
  rintro e w3 ⟨x, rfl, hR, hq⟩
  have B3 : Hid (Below w.heap.size w w3) := B2.out.trans (hq.mono B2.out.size)
  clear hq B2 T2 X2
  rcases hR with rfl | ⟨hx, hxl, hr⟩
  · go_wp2_with fail
    go_ret
    exact ⟨_, rfl, Or.inl rfl, B3.out⟩
  · have hr' : Hid (t.rows.length ≤ 1048576 ∧ ∀ r ∈ t.rows, r.vals.length ≤ 1048576) := hr
    clear hr
    go_wp2_with fail
    go_ret
    exact ⟨_, rfl, Or.inr ⟨hx, by omega, hl', hk', hr'⟩, B3.out⟩

end Go.Proofs.Yteckjdoiimifaaa
