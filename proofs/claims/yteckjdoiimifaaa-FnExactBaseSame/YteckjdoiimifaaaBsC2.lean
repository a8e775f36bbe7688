/- The contracts of laws.toTab and laws.toTabS, over the seat's translation. -/
import Derived.Test.YteckjdoiimifaaaBsC1
namespace Go.Proofs.Yteckjdoiimifaaa
open Go.RowKit

/-- The box at B holds five cells in W, and may be written. -/
abbrev Own5 (B : Nat) (x0 x1 x2 x3 x4 : Value) (W : World) : Prop :=
  W.cell? ⟨B, 0, none⟩ = some x0 ∧ W.cell? ⟨B, 1, none⟩ = some x1 ∧ W.cell? ⟨B, 2, none⟩ = some x2 ∧ W.cell? ⟨B, 3, none⟩ = some x3 ∧ W.cell? ⟨B, 4, none⟩ = some x4 ∧
    W.frozen? ⟨B, 0, none⟩ = false ∧ W.frozen? ⟨B, 1, none⟩ = false ∧ W.frozen? ⟨B, 2, none⟩ = false ∧ W.frozen? ⟨B, 3, none⟩ = false ∧ W.frozen? ⟨B, 4, none⟩ = false
theorem own5_next {B C : Nat} {x0 x1 x2 x3 x4 : Value} {W W' : World} (h : Own5 B x0 x1 x2 x3 x4 W) (hB : B < C) (hb : Below C W W') : Own5 B x0 x1 x2 x3 x4 W' := by
  have hc := fun o => hb.cell (p := ⟨B, o, none⟩) hB
  have hf := fun o => hb.frozen (p := ⟨B, o, none⟩) hB
  unfold Own5
  simp only [hc, hf]
  exact h
theorem own5_box (w : World) (x0 x1 x2 x3 x4 : Value) (t : TypeId) : Own5 w.heap.size x0 x1 x2 x3 x4 (w.alloc (.cells #[x0, x1, x2, x3, x4] t)) := by
  refine ⟨?_, ?_, ?_, ?_, ?_, ?_, ?_, ?_, ?_, ?_⟩
  all_goals go_simp

theorem HiRows.keep {B : Nat} {L : List ARow} {W W' : World} (h : HiRows B L W) (hb : Below W.heap.size W W') : HiRows B L W' := by
  have hz := hb.size
  have hc := (bcell hb).1
  have h1 := h.1
  refine ⟨by omega, fun i r hr => ?_⟩
  obtain ⟨b, rc, a1, a2, a3, a4⟩ := h.2 i r hr
  exact ⟨b, rc, a1, by omega, fun j v hv => by rw [hc _ _ h1]; exact a3 j v hv, a4.keep hb⟩

/-- A table in three blocks of its own, its values in blocks behind the third. -/
def HiTab (b0 b1 b2 : Nat) (t : ATab) (W : World) : Prop := ColsAt W (some ⟨b0, 0, none⟩) t.cols ∧ ChgsAt W (some ⟨b1, 0, none⟩) t.chgs ∧ HiRows b2 t.rows W
theorem HiTab.keep {b0 b1 b2 : Nat} {t : ATab} {W W' : World} (h : HiTab b0 b1 b2 t W) (hb : Below W.heap.size W W') : HiTab b0 b1 b2 t W' := ⟨h.1.keep hb, h.2.1.keep hb, h.2.2.keep hb⟩
theorem HiTab.set {b0 b1 b2 C o : Nat} {t : ATab} {W : World} {v : Value} (h : HiTab b0 b1 b2 t W) (h0 : C < b0) (h1 : C < b1) (h2 : C < b2) : HiTab b0 b1 b2 t (W.setCell ⟨C, o, none⟩ v) := ⟨cols_set h.1 h0, chgs_set h.2.1 h1, h.2.2.set h2⟩
theorem HiTab.sets {b0 b1 b2 C o : Nat} {t : ATab} {W : World} (h : HiTab b0 b1 b2 t W) (h0 : C < b0) (h1 : C < b1) (h2 : C < b2) (vs : List Value) : HiTab b0 b1 b2 t (W.setCells C o vs) := by
  induction vs generalizing o W with
  | nil => exact h
  | cons v r ih => exact ih (h.set h0 h1 h2)
theorem HiTab.tab {b0 b1 b2 : Nat} {t : ATab} {W : World} (h : HiTab b0 b1 b2 t W) : TabAt W (some ⟨b0, 0, none⟩) (some ⟨b1, 0, none⟩) (some ⟨b2, 0, none⟩) t := ⟨h.1, h.2.1, h.2.2.rows⟩
theorem NewTab.hi {w : World} {b0 b1 b2 : Nat} {t : ATab} {W : World} (h : NewTab w b0 b1 b2 t W) : HiTab b0 b1 b2 t W := ⟨h.1.1, h.2.1, h.2.2.1⟩

set_option maxRecDepth 100000 in
set_option maxHeartbeats 2000000 in
theorem to_tab (x : ANam) (p : PTab) (w : World) (hT : TabAt w p.a0 p.a1 p.a2 x.t) (hn : x.t.near) :
    Calls Try.prog 77 #[.agg #[.string x.nm, .slice p.a0 x.t.cols.length p.c0, .slice p.a1 x.t.chgs.length p.c1, .slice p.a2 x.t.rows.length p.c2, .int .i64 x.t.nx]] w fun e w' => ∃ b0 b1 b2, e = .returned (.agg #[.string x.nm, .slice (some ⟨b0, 0, none⟩) x.t.cols.length x.t.cols.length, .slice (some ⟨b1, 0, none⟩) x.t.chgs.length x.t.chgs.length, .slice (some ⟨b2, 0, none⟩) x.t.rows.length x.t.rows.length, .int .i64 x.t.nx]) ∧ NewTab w b0 b1 b2 x.t w' := by
  have hw3 : Hid (Below w.heap.size w (((w.alloc (.cells #[.string x.nm, .slice p.a0 x.t.cols.length p.c0, .slice p.a1 x.t.chgs.length p.c1, .slice p.a2 x.t.rows.length p.c2, .int .i64 x.t.nx] 117)).alloc (.cells #[.string ⟨#[]⟩, .slice none 0 0, .slice none 0 0, .slice none 0 0, .int .i64 0] 86)).alloc (.cells #[.string x.nm, .slice none 0 0, .slice none 0 0, .slice none 0 0, .int .i64 0] 86))) :=
    (((Below.refl w.heap.size w).alloc (Nat.le_refl _) _).alloc (by simp) _).alloc (by simp; omega) _
  go_enter Try.func77, Try.ntmps77
  go_wp2_with fail
  refine (to_table x.t _ _ _ _ _ _ _ (hT.keep hw3.out) hn).mono ?_
  rintro e w' ⟨b0, b1, b2, rfl, hN⟩
  have hb := hN.2.2.2
  have hO := own5_next (own5_box ((w.alloc (.cells #[.string x.nm, .slice p.a0 x.t.cols.length p.c0, .slice p.a1 x.t.chgs.length p.c1, .slice p.a2 x.t.rows.length p.c2, .int .i64 x.t.nx] 117)).alloc (.cells #[.string ⟨#[]⟩, .slice none 0 0, .slice none 0 0, .slice none 0 0, .int .i64 0] 86)) (.string x.nm) (.slice none 0 0) (.slice none 0 0) (.slice none 0 0) (.int .i64 0) 86) (by simp) hb
  have hR := own5_next (own5_next (own5_box (w.alloc (.cells #[.string x.nm, .slice p.a0 x.t.cols.length p.c0, .slice p.a1 x.t.chgs.length p.c1, .slice p.a2 x.t.rows.length p.c2, .int .i64 x.t.nx] 117)) (.string ⟨#[]⟩) (.slice none 0 0) (.slice none 0 0) (.slice none 0 0) (.int .i64 0) 86) (C := w.heap.size + 2) (by simp) (by have := (Below.refl (w.heap.size + 2) ((w.alloc (.cells #[.string x.nm, .slice p.a0 x.t.cols.length p.c0, .slice p.a1 x.t.chgs.length p.c1, .slice p.a2 x.t.rows.length p.c2, .int .i64 x.t.nx] 117)).alloc (.cells #[.string ⟨#[]⟩, .slice none 0 0, .slice none 0 0, .slice none 0 0, .int .i64 0] 86))).alloc (by simp) (.cells #[.string x.nm, .slice none 0 0, .slice none 0 0, .slice none 0 0, .int .i64 0] 86); exact this)) (by simp) hb
  have hs : w.heap.size + 3 ≤ b0 ∧ w.heap.size + 3 ≤ b1 ∧ w.heap.size + 3 ≤ b2 := by
    have := hN.1.2
    simp only [size_alloc] at this
    omega
  have HN : Hid (NewTab w b0 b1 b2 x.t w') := ⟨⟨hN.1.1, by omega, by omega, by omega⟩, hN.2.1, hN.2.2.1, hw3.out.trans (hb.mono (by simp; omega))⟩
  simp only [size_alloc] at hO hR
  have h0 := hs.1
  have h1 := hs.2.1
  have h2 := hs.2.2
  clear hb hN hw3 hT hs
  go_wp2_with fail
  refine bodyPost_ret (v := .agg #[.string x.nm, .slice (some ⟨b0, 0, none⟩) x.t.cols.length x.t.cols.length, .slice (some ⟨b1, 0, none⟩) x.t.chgs.length x.t.chgs.length, .slice (some ⟨b2, 0, none⟩) x.t.rows.length x.t.rows.length, .int .i64 x.t.nx]) (by simp [results, Try.results77, go_sem, hR]) rfl ⟨_, _, _, rfl, ?_⟩
  repeat' (first | refine NewTab.set ?_ (by omega) (by omega) (by omega) (by omega) | exact HN.out)

/-- Where the lists of a table made anew lie. -/
def newP (b0 b1 b2 : Nat) (t : ATab) : PTab := ⟨some ⟨b0, 0, none⟩, some ⟨b1, 0, none⟩, some ⟨b2, 0, none⟩, t.cols.length, t.chgs.length, t.rows.length⟩

/-- A table with its name at place i of block B, its lists in blocks behind B. -/
def HiNam (B i : Nat) (x : ANam) (W : World) : Prop :=
  ∃ b0 b1 b2, B < b0 ∧ B < b1 ∧ B < b2 ∧ W.rangeAt B (i * 5) (x.cells (newP b0 b1 b2 x.t)) ∧ HiTab b0 b1 b2 x.t W

/-- Block B is a list of n tables that may be written; its first k are those of L; below B the world is as in w. -/
def MadeN (w : World) (B n k : Nat) (L : List ANam) (W : World) : Prop :=
  Below B w W ∧ B < W.heap.size ∧ W.there B 0 (n * 5) ∧ ∀ i r, i < k → L[i]? = some r → HiNam B i r W

theorem MadeN.keep {w : World} {B n k : Nat} {L : List ANam} {W W' : World} (h : MadeN w B n k L W) (hb : Below W.heap.size W W') : MadeN w B n k L W' := by
  obtain ⟨h1, h2, h3, h4⟩ := h
  have hz := hb.size
  have hc := (bcell hb).1
  have hf := (bcell hb).2
  refine ⟨h1.trans (hb.mono (by omega)), by omega, fun j hj => ?_, fun i c hi hc' => ?_⟩
  · rw [hc _ _ h2, hf _ _ h2]; exact h3 j hj
  · obtain ⟨b0, b1, b2, a0, a1, a2, a3, a4⟩ := h4 i c hi hc'
    exact ⟨b0, b1, b2, a0, a1, a2, fun j v hv => by rw [hc _ _ h2]; exact a3 j v hv, a4.keep hb⟩

theorem MadeN.put {w : World} {B n k : Nat} {L : List ANam} {W : World} {r : ANam} {b0 b1 b2 : Nat} (h : MadeN w B n k L W) (hk : k < n) (hc : L[k]? = some r) (h0 : B < b0) (h1 : B < b1) (h2 : B < b2) (hv : HiTab b0 b1 b2 r.t W) : MadeN w B n (k + 1) L (W.setCells B (k * 5) (r.cells (newP b0 b1 b2 r.t))) := by
  obtain ⟨g1, g2, g3, g4⟩ := h
  refine ⟨below_sets g1 _ _, by rw [size_sets]; exact g2, World.there_setCells g3 _ _ _, fun i d hi hd => ?_⟩
  by_cases hik : i = k
  · subst hik
    rw [hc] at hd
    cases hd
    exact ⟨b0, b1, b2, h0, h1, h2, World.rangeAt_setCells_same _ _ _ _ (fun j hj => by
      have hl : (r.cells (newP b0 b1 b2 r.t)).length = 5 := rfl
      have := g3 (i * 5 + j) (by omega)
      rwa [Nat.zero_add] at this), hv.sets h0 h1 h2 _⟩
  · obtain ⟨c0, c1, c2, a0, a1, a2, a3, a4⟩ := g4 i d (by omega) hd
    refine ⟨c0, c1, c2, a0, a1, a2, World.rangeAt_setCells_apart a3 _ _ _ (Or.inr (Or.inl ?_)), a4.sets a0 a1 a2 _⟩
    have : (d.cells (newP c0 c1 c2 d.t)).length = 5 := rfl
    have : (r.cells (newP b0 b1 b2 r.t)).length = 5 := rfl
    omega

theorem MadeN.start (w : World) (n : Nat) (L : List ANam) (z : Array Value) (t : TypeId) : MadeN w w.heap.size n 0 L (w.alloc (.cells (madeCells z (n * 5)) t)) := by
  refine ⟨(Below.refl _ _).alloc (Nat.le_refl _) _, by simp, fun j hj => ?_, fun i c hi => absurd hi (Nat.not_lt_zero _)⟩
  have hb : (w.alloc (.cells (madeCells z (n * 5)) t)).heap[w.heap.size]? = some (.cells (madeCells z (n * 5)) t) := by
    show (w.heap.push _)[w.heap.size]? = _
    simp
  constructor
  · simp only [World.cell?, hb]
    simp [madeCells, hj]
  · simp only [World.frozen?, hb]
    simp

/-- Five cells at an offset, which may be written. -/
abbrev There5 (W : World) (b o : Nat) : Prop :=
  ∃ x0 x1 x2 x3 x4, W.cell? ⟨b, o, none⟩ = some x0 ∧ W.cell? ⟨b, o + 1, none⟩ = some x1 ∧ W.cell? ⟨b, o + 2, none⟩ = some x2 ∧ W.cell? ⟨b, o + 3, none⟩ = some x3 ∧ W.cell? ⟨b, o + 4, none⟩ = some x4 ∧
    W.frozen? ⟨b, o, none⟩ = false ∧ W.frozen? ⟨b, o + 1, none⟩ = false ∧ W.frozen? ⟨b, o + 2, none⟩ = false ∧ W.frozen? ⟨b, o + 3, none⟩ = false ∧ W.frozen? ⟨b, o + 4, none⟩ = false
theorem there5_of {W : World} {b n k : Nat} (h : W.there b 0 (n * 5)) (hk : k < n) : There5 W b (k * 5) := by
  have hh : ∀ j, j < 5 → (∃ x, W.cell? ⟨b, k * 5 + j, none⟩ = some x) ∧ W.frozen? ⟨b, k * 5 + j, none⟩ = false := fun j hj => by
    have := h (k * 5 + j) (by omega)
    rw [Nat.zero_add] at this
    exact ⟨Option.isSome_iff_exists.1 this.1, this.2⟩
  obtain ⟨⟨x0, a0⟩, b0⟩ := hh 0 (by omega)
  obtain ⟨⟨x1, a1⟩, b1⟩ := hh 1 (by omega)
  obtain ⟨⟨x2, a2⟩, b2⟩ := hh 2 (by omega)
  obtain ⟨⟨x3, a3⟩, b3⟩ := hh 3 (by omega)
  obtain ⟨⟨x4, a4⟩, b4⟩ := hh 4 (by omega)
  exact ⟨x0, x1, x2, x3, x4, a0, a1, a2, a3, a4, b0, b1, b2, b3, b4⟩

theorem Try.info86 : ∃ i, Try.prog.info? 86 = some i ∧ i.zero = some (.agg #[.string ⟨#[]⟩, .slice none 0 0, .slice none 0 0, .slice none 0 0, .int .i64 0]) ∧ i.size = 5 ∧ i.bytes ≤ 128 := by
  have h : (Try.prog.info? 86).map (fun i => (i.zero, i.size, decide (i.bytes ≤ 128))) = some (some (.agg #[.string ⟨#[]⟩, .slice none 0 0, .slice none 0 0, .slice none 0 0, .int .i64 0]), 5, true) := by kernel_rfl
  obtain ⟨i, hi, he⟩ := Option.map_eq_some_iff.1 h
  simp only [Prod.mk.injEq, decide_eq_true_eq] at he
  exact ⟨i, hi, he.1, he.2.1, he.2.2⟩

set_option maxRecDepth 100000 in
set_option maxHeartbeats 1000000 in
theorem to_tabs (a : Option Addr) (cap : Nat) (L : List ANam) (w : World) (hL : NamsAt w a L) (hm : L.length ≤ 1048576) (hf : ∀ r ∈ L, r.t.near) :
    Calls Try.prog 50 #[.slice a L.length cap] w fun e w' => e = .returned (.slice (some ⟨w.heap.size, 0, none⟩) L.length L.length) ∧ MadeN w w.heap.size L.length L.length L w' := by
  obtain ⟨i0, hi, hz, hsz, hby⟩ := Try.info86
  have hmk : ∀ wx, (Instr.makeSlice 49 (.int .i64 L.length) (.int .i64 L.length)).run Try.prog wx = .ok (.slice (some ⟨wx.heap.size, 0, none⟩) L.length L.length) (wx.alloc (.cells (madeCells #[.string ⟨#[]⟩, .slice none 0 0, .slice none 0 0, .slice none 0 0, .int .i64 0] (L.length * 5)) 86)) := fun wx => by
    have h := run_make (P := Try.prog) wx 49 86 i0 _ Try.underlying49 hi hz .i64 .i64 L.length L.length (by omega) (by omega) (by have : (i0.bytes : Int) * L.length ≤ 128 * 1048576 := Int.mul_le_mul (by omega) (by omega) (by omega) (by omega); omega) (by omega)
    rw [hsz] at h
    simpa [Value.cells] using h
  clear hi hz hsz hby
  go_enter Try.func50, Try.ntmps50
  go_wp2_with fail
  have hst := MadeN.start w L.length L #[.string ⟨#[]⟩, .slice none 0 0, .slice none 0 0, .slice none 0 0, .int .i64 0] 86
  go_loopw [4] (fun i wr => ∃ k : Nat, k ≤ L.length ∧ i = .int .i64 k ∧ Hid (MadeN w w.heap.size L.length k L wr)) (fun i _ => L.length - (intOf i).toNat)
  case atStart => exact ⟨0, Nat.zero_le _, rfl, hst⟩
  case round =>
    obtain ⟨k, hk, rfl, hH⟩ := hrel
    clear hst hmk
    by_cases hlt : k < L.length
    · obtain ⟨b, o, p, hab, hbl, hr, hv⟩ := (hL.keep hH.out.1).at hlt
      have hck := List.getElem?_eq_getElem hlt
      have hcl := hf _ (List.getElem_mem hlt)
      revert hr hv hck hcl
      generalize L[k] = c
      intro hr hv hck hcl
      have hix : ∀ wx, (Instr.indexAt 43 (.slice a L.length cap) (.int .i64 k)).run Try.prog wx = .ok (.pointer (some ⟨b, o + k * 5, none⟩)) wx := fun wx => by
        rw [hab]; exact run_ixk 5 _ _ _ _ _ _ _ wx hlt Try.underlying43 (Try.sizeOf117 wx)
      have hld := cellsN_of hr
      have hck' : Hid (L[k]? = some c) := hck
      have hcl' : Hid c.t.near := hcl
      clear hab hr hL hck hcl
      go_wp2_with fail
      refine (to_tab c p _ hv hcl'.out).mono ?_
      rintro e w' ⟨b0, b1, b2, rfl, hN⟩
      have hM : Hid (MadeN w w.heap.size L.length k L w') := hH.out.keep hN.2.2.2
      have hV : Hid (w.heap.size < b0 ∧ w.heap.size < b1 ∧ w.heap.size < b2 ∧ HiTab b0 b1 b2 c.t w') := ⟨Nat.lt_of_lt_of_le hH.out.2.1 hN.1.2.1, Nat.lt_of_lt_of_le hH.out.2.1 hN.1.2.2.1, Nat.lt_of_lt_of_le hH.out.2.1 hN.1.2.2.2, hN.hi⟩
      obtain ⟨x0, x1, x2, x3, x4, hth⟩ := there5_of hM.out.2.2.1 hlt
      clear hH hN hld hv
      go_wp2_with fail
      go_roundw
      case rel => exact ⟨k + 1, by omega, by go_num, hM.out.put hlt hck'.out hV.out.1 hV.out.2.1 hV.out.2.2.1 hV.out.2.2.2⟩
      case measure => simp [intOf]; omega
    · have hkl : k = L.length := by omega
      subst hkl
      go_wp2_with fail
      go_ret
      exact ⟨rfl, hH.out⟩

end Go.Proofs.Yteckjdoiimifaaa
