/- The contracts of laws.eqChange, eqChangeS, eqRow, eqRowS and eqTable at two that are one, over the seat's translation. -/
import Derived.Test.YteckjdoiimifaaaTsC4
import Derived.Test.YteckjdoiimifaaaRwS3
namespace Go.Proofs.Yteckjdoiimifaaa
open Go.RowKit

set_option maxRecDepth 100000 in
set_option maxHeartbeats 1000000 in
theorem eq_change (x : AChg) (w : World) :
    Calls Try.prog 63 #[.agg #[.int .i64 x.kd, .string x.nm, .string x.nw, .string x.c.nm, .int .i64 x.c.kd, .bool x.c.nd, .bool x.c.oc, .int .i64 x.c.k, .int .i64 x.c.n, .string x.c.s], .agg #[.int .i64 x.kd, .string x.nm, .string x.nw, .string x.c.nm, .int .i64 x.c.kd, .bool x.c.nd, .bool x.c.oc, .int .i64 x.c.k, .int .i64 x.c.n, .string x.c.s]] w fun e w' => e = .returned (.bool true) ∧ Below w.heap.size w w' := by
  go_enter Try.func63, Try.ntmps63
  go_wp2_with fail
  refine (eq_col _ _ _ _ _ _ _ _).mono ?_
  rintro e w' ⟨rfl, hq⟩
  have hP : Hid (Below w.heap.size w w') := (((Below.refl w.heap.size w).alloc (Nat.le_refl _) _).alloc (by simp) _).trans (hq.mono (by simp; omega))
  clear hq
  go_wp2_with fail
  go_ret
  exact ⟨rfl, hP.out⟩

/-- A change lies at two places in W, and W lies over w. -/
abbrev TwoChgs (w : World) (b1 o1 b2 o2 : Nat) (c d : AChg) (W : World) : Prop := Cells10 W b1 o1 c ∧ Cells10 W b2 o2 d ∧ b1 < W.heap.size ∧ b2 < W.heap.size ∧ Below w.heap.size w W
theorem twoc_next {w : World} {b1 o1 b2 o2 : Nat} {c d : AChg} {W W' : World} (h : TwoChgs w b1 o1 b2 o2 c d W) (hb : Below W.heap.size W W') : TwoChgs w b1 o1 b2 o2 c d W' := by
  obtain ⟨h1, h2, h3, h4, h5⟩ := h
  have hz := hb.size
  exact ⟨cells10_next h1 h3 hb, cells10_next h2 h4 hb, by omega, by omega, h5.trans (hb.mono h5.size)⟩
theorem twoc_drew {w : World} {b1 o1 b2 o2 : Nat} {c d : AChg} {W : World} (h : TwoChgs w b1 o1 b2 o2 c d W) : TwoChgs w b1 o1 b2 o2 c d W.drew := twoc_next h (Below.refl _ _).drew

set_option maxRecDepth 100000 in
set_option maxHeartbeats 1000000 in
theorem eq_changes (a b : Option Addr) (cap cap' : Nat) (L : List AChg) (w : World) (ha : ChgsAt w a L) (hb : ChgsAt w b L) (hm : L.length ≤ maxLen) :
    Calls Try.prog 29 #[.slice a L.length cap, .slice b L.length cap'] w fun e w' => e = .returned (.bool true) ∧ Below w.heap.size w w' := by
  unfold maxLen at hm
  go_enter Try.func29, Try.ntmps29
  go_wp2_with fail
  go_loopw [5] (fun i wr => ∃ k : Nat, k ≤ L.length ∧ i = .int .i64 k ∧ Hid (Below w.heap.size w wr)) (fun i _ => L.length - (intOf i).toNat)
  case atStart => exact ⟨0, Nat.zero_le _, rfl, Below.refl _ _⟩
  case round =>
    obtain ⟨k, hk, rfl, hH⟩ := hrel
    by_cases hlt : k < L.length
    · obtain ⟨b1, o1, hab1, hbl1, hr1⟩ := (ha.keep hH.out).at hlt
      obtain ⟨b2, o2, hab2, hbl2, hr2⟩ := (hb.keep hH.out).at hlt
      revert hr1 hr2
      generalize L[k] = c
      intro hr1 hr2
      have hix : ∀ wx, (Instr.indexAt 25 (.slice a L.length cap) (.int .i64 k)).run Try.prog wx = .ok (.pointer (some ⟨b1, o1 + k * 10, none⟩)) wx := fun wx => by
        rw [hab1]; exact run_ix10 _ _ _ _ _ _ _ wx hlt Try.underlying25 (Try.sizeOf75 wx)
      have hiy : ∀ wx, (Instr.indexAt 25 (.slice b L.length cap') (.int .i64 k)).run Try.prog wx = .ok (.pointer (some ⟨b2, o2 + k * 10, none⟩)) wx := fun wx => by
        rw [hab2]; exact run_ix10 _ _ _ _ _ _ _ wx hlt Try.underlying25 (Try.sizeOf75 wx)
      have hT : TwoChgs w b1 (o1 + k * 10) b2 (o2 + k * 10) c c wr := ⟨cells10_of hr1, cells10_of hr2, hbl1, hbl2, hH.out⟩
      clear hab1 hab2 hr1 hr2 ha hb hH hbl1 hbl2
      go_wp2_with fail
      go_region_held3 (fun W => TwoChgs w b1 (o1 + k * 10) b2 (o2 + k * 10) c c W) (first | assumption | exact twoc_drew (by assumption))
        (first
          | (go_at_call 63; refine (eq_change _ _).mono ?_; rintro e w' ⟨rfl, hq⟩; have hN := twoc_next (by assumption) hq; clear hq))
      have hE := ‹TwoChgs w b1 (o1 + k * 10) b2 (o2 + k * 10) c c _›
      have hP : Hid (Below w.heap.size w _) := hE.2.2.2.2
      clear hE
      go_wp2_with fail
      go_roundw
      case rel => exact ⟨k + 1, by omega, by go_num, hP⟩
      case measure => simp [intOf]; omega
    · have hkl : k = L.length := by omega
      subst hkl
      go_wp2_with fail
      go_ret
      exact ⟨rfl, hH.out⟩

set_option maxRecDepth 100000 in
set_option maxHeartbeats 1000000 in
theorem eq_row (r : ARow) (a b : Option Addr) (cap cap' : Nat) (w : World) (ha : ValsAt w a r.vals) (hb : ValsAt w b r.vals) (hm : r.vals.length ≤ maxLen) :
    Calls Try.prog 64 #[.agg #[.int .i64 r.id, .int .i64 r.ver, .slice a r.vals.length cap], .agg #[.int .i64 r.id, .int .i64 r.ver, .slice b r.vals.length cap']] w fun e w' => e = .returned (.bool true) ∧ Below w.heap.size w w' := by
  have H2 : Hid (Below w.heap.size w ((w.alloc (.cells #[.int .i64 r.id, .int .i64 r.ver, .slice a r.vals.length cap] 79)).alloc (.cells #[.int .i64 r.id, .int .i64 r.ver, .slice b r.vals.length cap'] 79))) := ((Below.refl w.heap.size w).alloc (Nat.le_refl _) _).alloc (by simp) _
  go_enter Try.func64, Try.ntmps64
  go_wp2_with fail
  refine (eq_vals _ _ _ _ _ _ (ha.keep H2.out) (hb.keep H2.out) hm).mono ?_
  rintro e w' ⟨rfl, hq⟩
  have hP : Hid (Below w.heap.size w w') := H2.out.trans (hq.mono H2.out.size)
  clear hq H2 ha hb
  go_wp2_with fail
  go_ret
  exact ⟨rfl, hP.out⟩

/-- A row lies at two places in W, and W lies over w. -/
abbrev TwoRows (w : World) (b1 o1 b2 o2 : Nat) (c d : ARow) (r1 r2 : Option Addr) (e1 e2 : Nat) (W : World) : Prop := CellsR W b1 o1 c r1 e1 ∧ CellsR W b2 o2 d r2 e2 ∧ b1 < W.heap.size ∧ b2 < W.heap.size ∧ ValsAt W r1 c.vals ∧ ValsAt W r2 d.vals ∧ Below w.heap.size w W
theorem twor_next {w : World} {b1 o1 b2 o2 : Nat} {c d : ARow} {r1 r2 : Option Addr} {e1 e2 : Nat} {W W' : World} (h : TwoRows w b1 o1 b2 o2 c d r1 r2 e1 e2 W) (hb : Below W.heap.size W W') : TwoRows w b1 o1 b2 o2 c d r1 r2 e1 e2 W' := by
  obtain ⟨h1, h2, h3, h4, h5, h6, h7⟩ := h
  have hz := hb.size
  exact ⟨cellsR_next h1 h3 hb, cellsR_next h2 h4 hb, by omega, by omega, h5.keep hb, h6.keep hb, h7.trans (hb.mono h7.size)⟩
theorem twor_drew {w : World} {b1 o1 b2 o2 : Nat} {c d : ARow} {r1 r2 : Option Addr} {e1 e2 : Nat} {W : World} (h : TwoRows w b1 o1 b2 o2 c d r1 r2 e1 e2 W) : TwoRows w b1 o1 b2 o2 c d r1 r2 e1 e2 W.drew := twor_next h (Below.refl _ _).drew

set_option maxRecDepth 100000 in
set_option maxHeartbeats 1000000 in
theorem eq_rows (a b : Option Addr) (cap cap' : Nat) (L : List ARow) (w : World) (ha : RowsAt w a L) (hb : RowsAt w b L) (hm : L.length ≤ maxLen) (hf : ∀ r ∈ L, r.fit) :
    Calls Try.prog 30 #[.slice a L.length cap, .slice b L.length cap'] w fun e w' => e = .returned (.bool true) ∧ Below w.heap.size w w' := by
  unfold maxLen at hm
  go_enter Try.func30, Try.ntmps30
  go_wp2_with fail
  go_loopw [5] (fun i wr => ∃ k : Nat, k ≤ L.length ∧ i = .int .i64 k ∧ Hid (Below w.heap.size w wr)) (fun i _ => L.length - (intOf i).toNat)
  case atStart => exact ⟨0, Nat.zero_le _, rfl, Below.refl _ _⟩
  case round =>
    obtain ⟨k, hk, rfl, hH⟩ := hrel
    by_cases hlt : k < L.length
    · obtain ⟨b1, o1, r1, e1, hab1, hbl1, hr1, hv1⟩ := (ha.keep hH.out).at hlt
      obtain ⟨b2, o2, r2, e2, hab2, hbl2, hr2, hv2⟩ := (hb.keep hH.out).at hlt
      have hft : Hid (L[k].fit) := hf _ (List.getElem_mem hlt)
      revert hr1 hv1 hr2 hv2 hft
      generalize L[k] = c
      intro hr1 hv1 hr2 hv2 hft
      have hix : ∀ wx, (Instr.indexAt 26 (.slice a L.length cap) (.int .i64 k)).run Try.prog wx = .ok (.pointer (some ⟨b1, o1 + k * 3, none⟩)) wx := fun wx => by
        rw [hab1]; exact run_ix3 _ _ _ _ _ _ _ wx hlt Try.underlying26 (Try.sizeOf79 wx)
      have hiy : ∀ wx, (Instr.indexAt 26 (.slice b L.length cap') (.int .i64 k)).run Try.prog wx = .ok (.pointer (some ⟨b2, o2 + k * 3, none⟩)) wx := fun wx => by
        rw [hab2]; exact run_ix3 _ _ _ _ _ _ _ wx hlt Try.underlying26 (Try.sizeOf79 wx)
      have hT : TwoRows w b1 (o1 + k * 3) b2 (o2 + k * 3) c c r1 r2 e1 e2 wr := ⟨cellsR_of hr1, cellsR_of hr2, hbl1, hbl2, hv1, hv2, hH.out⟩
      clear hab1 hab2 hr1 hr2 ha hb hH hbl1 hbl2 hv1 hv2
      go_wp2_with fail
      go_region_held3 (fun W => TwoRows w b1 (o1 + k * 3) b2 (o2 + k * 3) c c r1 r2 e1 e2 W) (first | assumption | exact twor_drew (by assumption))
        (first
          | (go_at_call 64; have hS := ‹TwoRows w b1 (o1 + k * 3) b2 (o2 + k * 3) c c r1 r2 e1 e2 _›; refine (eq_row c r1 r2 e1 e2 _ hS.2.2.2.2.1 hS.2.2.2.2.2.1 hft.out.2).mono ?_; rintro e w' ⟨rfl, hq⟩; have hN := twor_next hS hq; clear hq hS))
      have hE := ‹TwoRows w b1 (o1 + k * 3) b2 (o2 + k * 3) c c r1 r2 e1 e2 _›
      have hP : Hid (Below w.heap.size w _) := hE.2.2.2.2.2.2
      clear hE
      go_wp2_with fail
      go_roundw
      case rel => exact ⟨k + 1, by omega, by go_num, hP⟩
      case measure => simp [intOf]; omega
    · have hkl : k = L.length := by omega
      subst hkl
      go_wp2_with fail
      go_ret
      exact ⟨rfl, hH.out⟩

/-- Two boxes of tables lie in W, and W lies over w. -/
abbrev BoxTT (w : World) (p q : Nat) (x0 y0 z0 : Value) (n0 : Int) (x1 y1 z1 : Value) (n1 : Int) (W : World) : Prop := BoxT p x0 y0 z0 n0 W ∧ BoxT q x1 y1 z1 n1 W ∧ p < W.heap.size ∧ q < W.heap.size ∧ Below w.heap.size w W
theorem boxtt_next {w : World} {p q : Nat} {x0 y0 z0 : Value} {n0 : Int} {x1 y1 z1 : Value} {n1 : Int} {W W' : World} (h : BoxTT w p q x0 y0 z0 n0 x1 y1 z1 n1 W) (hb : Below W.heap.size W W') : BoxTT w p q x0 y0 z0 n0 x1 y1 z1 n1 W' := by
  obtain ⟨h1, h2, h3, h4, h5⟩ := h
  have := hb.size
  exact ⟨boxt_next h1 h3 hb, boxt_next h2 h4 hb, by omega, by omega, h5.trans (hb.mono h5.size)⟩
theorem boxtt_drew {w : World} {p q : Nat} {x0 y0 z0 : Value} {n0 : Int} {x1 y1 z1 : Value} {n1 : Int} {W : World} (h : BoxTT w p q x0 y0 z0 n0 x1 y1 z1 n1 W) : BoxTT w p q x0 y0 z0 n0 x1 y1 z1 n1 W.drew := boxtt_next h (Below.refl _ _).drew
theorem boxtt_made (w : World) (x0 y0 z0 : Value) (n0 : Int) (x1 y1 z1 : Value) (n1 : Int) (t s : TypeId) : BoxTT w w.heap.size (w.heap.size + 1) x0 y0 z0 n0 x1 y1 z1 n1 ((w.alloc (.cells #[x0, y0, z0, .int .i64 n0] t)).alloc (.cells #[x1, y1, z1, .int .i64 n1] s)) := by
  have h2 := boxt_box (w.alloc (.cells #[x0, y0, z0, .int .i64 n0] t)) x1 y1 z1 n1 s
  rw [size_alloc] at h2
  refine ⟨boxt_next (boxt_box w x0 y0 z0 n0 t) (C := w.heap.size + 1) (by omega) ((Below.refl _ _).alloc (by simp) _), h2, by simp; omega, by simp, ((Below.refl _ _).alloc (Nat.le_refl _) _).alloc (by simp) _⟩

set_option maxRecDepth 100000 in
set_option maxHeartbeats 1000000 in
theorem eq_table (t : ATab) (a0 a1 a2 b0 b1 b2 : Option Addr) (c0 c1 c2 d0 d1 d2 : Nat) (w : World) (ha : TabAt w a0 a1 a2 t) (hb : TabAt w b0 b1 b2 t) (hf : t.fit) :
    Calls Try.prog 10 #[.agg #[.slice a0 t.cols.length c0, .slice a1 t.chgs.length c1, .slice a2 t.rows.length c2, .int .i64 t.nx], .agg #[.slice b0 t.cols.length d0, .slice b1 t.chgs.length d1, .slice b2 t.rows.length d2, .int .i64 t.nx]] w fun e w' => e = .returned (.bool true) ∧ Below w.heap.size w w' := by
  have hx := boxtt_made w (.slice a0 t.cols.length c0) (.slice a1 t.chgs.length c1) (.slice a2 t.rows.length c2) t.nx (.slice b0 t.cols.length d0) (.slice b1 t.chgs.length d1) (.slice b2 t.rows.length d2) t.nx 28 28
  have HX : Hid (BoxTT w w.heap.size (w.heap.size + 1) (.slice a0 t.cols.length c0) (.slice a1 t.chgs.length c1) (.slice a2 t.rows.length c2) t.nx (.slice b0 t.cols.length d0) (.slice b1 t.chgs.length d1) (.slice b2 t.rows.length d2) t.nx ((w.alloc (.cells #[.slice a0 t.cols.length c0, .slice a1 t.chgs.length c1, .slice a2 t.rows.length c2, .int .i64 t.nx] 28)).alloc (.cells #[.slice b0 t.cols.length d0, .slice b1 t.chgs.length d1, .slice b2 t.rows.length d2, .int .i64 t.nx] 28))) := hx
  have HT : Hid (TabAt ((w.alloc (.cells #[.slice a0 t.cols.length c0, .slice a1 t.chgs.length c1, .slice a2 t.rows.length c2, .int .i64 t.nx] 28)).alloc (.cells #[.slice b0 t.cols.length d0, .slice b1 t.chgs.length d1, .slice b2 t.rows.length d2, .int .i64 t.nx] 28)) a0 a1 a2 t ∧ TabAt ((w.alloc (.cells #[.slice a0 t.cols.length c0, .slice a1 t.chgs.length c1, .slice a2 t.rows.length c2, .int .i64 t.nx] 28)).alloc (.cells #[.slice b0 t.cols.length d0, .slice b1 t.chgs.length d1, .slice b2 t.rows.length d2, .int .i64 t.nx] 28)) b0 b1 b2 t) := ⟨ha.keep hx.2.2.2.2, hb.keep hx.2.2.2.2⟩
  clear hx ha hb
  go_enter Try.func10, Try.ntmps10
  go_wp2_with fail
  refine (eq_cols _ _ _ _ _ _ HT.out.1.1 HT.out.2.1 hf.2.1).mono ?_
  rintro e w1 ⟨rfl, hq⟩
  have h1 := boxtt_next HX.out hq
  have T1 : Hid (TabAt w1 a0 a1 a2 t ∧ TabAt w1 b0 b1 b2 t) := ⟨HT.out.1.keep hq, HT.out.2.keep hq⟩
  clear HX hq HT
  go_wp2_with fail
  refine (eq_changes _ _ _ _ _ _ T1.out.1.2.1 T1.out.2.2.1 hf.2.2.2.1).mono ?_
  rintro e w2 ⟨rfl, hq⟩
  have h2 := boxtt_next h1 hq
  have T2 : Hid (TabAt w2 a0 a1 a2 t ∧ TabAt w2 b0 b1 b2 t) := ⟨T1.out.1.keep hq, T1.out.2.keep hq⟩
  clear h1 hq T1
  go_wp2_with fail
  refine (eq_rows _ _ _ _ _ _ T2.out.1.2.2 T2.out.2.2.2 hf.2.2.2.2.2 hf.2.2.2.2.1).mono ?_
  rintro e w3 ⟨rfl, hq⟩
  have h3 := boxtt_next h2 hq
  clear h2 hq T2
  go_wp2_with fail
  go_ret
  exact ⟨rfl, h3.2.2.2.2⟩

end Go.Proofs.Yteckjdoiimifaaa
