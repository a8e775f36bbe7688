/- The contracts of laws.toRow, laws.toRowS and laws.toTable, over the seat's translation. -/
import Derived.Test.YteckjdoiimifaaaTsC2
import Derived.Test.YteckjdoiimifaaaShL
namespace Go.Proofs.Yteckjdoiimifaaa
open Go.RowKit

/-- The box at B holds three cells in W, and may be written. -/
abbrev OwnR (B : Nat) (x y z : Value) (W : World) : Prop :=
  W.cell? ⟨B, 0, none⟩ = some x ∧ W.cell? ⟨B, 1, none⟩ = some y ∧ W.cell? ⟨B, 2, none⟩ = some z ∧ W.frozen? ⟨B, 0, none⟩ = false ∧ W.frozen? ⟨B, 1, none⟩ = false ∧ W.frozen? ⟨B, 2, none⟩ = false
theorem ownR_next {B C : Nat} {x y z : Value} {W W' : World} (h : OwnR B x y z W) (hB : B < C) (hb : Below C W W') : OwnR B x y z W' := by
  have hc := fun o => hb.cell (p := ⟨B, o, none⟩) hB
  have hf := fun o => hb.frozen (p := ⟨B, o, none⟩) hB
  unfold OwnR
  simp only [hc, hf]
  exact h
theorem ownR_box (w : World) (x y z : Value) (t : TypeId) : OwnR w.heap.size x y z (w.alloc (.cells #[x, y, z] t)) := by
  refine ⟨?_, ?_, ?_, ?_, ?_, ?_⟩
  all_goals go_simp

theorem cell_set {W : World} {B b o p : Nat} {v : Value} (hne : b ≠ B) : (W.setCell ⟨B, o, none⟩ v).cell? ⟨b, p, none⟩ = W.cell? ⟨b, p, none⟩ := World.cell?_of_block (w := W) (a := ⟨b, p, none⟩) (Below.heap_setCell W ⟨B, o, none⟩ v b hne)
/-- The values V lie in block b of W, which came behind w; W lies over w. -/
def NewVals (w : World) (b : Nat) (V : List AVal) (W : World) : Prop := w.heap.size ≤ b ∧ b < W.heap.size ∧ ValsAt W (some ⟨b, 0, none⟩) V ∧ Below w.heap.size w W
theorem NewVals.set {w : World} {b : Nat} {V : List AVal} {W : World} {B o : Nat} {v : Value} (h : NewVals w b V W) (hB : B < b) (hw : w.heap.size ≤ B) : NewVals w b V (W.setCell ⟨B, o, none⟩ v) := by
  obtain ⟨h1, h2, h3, h5⟩ := h
  refine ⟨h1, by simpa [World.setCell] using h2, ?_, h5.setCell hw v⟩
  rcases h3 with h3 | ⟨b', o', e, hlt, hr⟩
  · exact Or.inl h3
  · cases e
    refine Or.inr ⟨b, 0, rfl, by simpa [World.setCell] using hlt, fun i c hc j u hu => ?_⟩
    rw [cell_set (by omega)]
    exact hr i c hc j u hu

set_option maxRecDepth 100000 in
set_option maxHeartbeats 1000000 in
theorem to_row (r : ARow) (a : Option Addr) (cap : Nat) (w : World) (hV : ValsAt w a r.vals) (hl : r.vals.length ≤ 1048576) :
    Calls Try.prog 72 #[.agg #[.int .i64 r.id, .int .i64 r.ver, .slice a r.vals.length cap]] w fun e w' => ∃ b, e = .returned (.agg #[.int .i64 r.id, .int .i64 r.ver, .slice (some ⟨b, 0, none⟩) r.vals.length r.vals.length]) ∧ NewVals w b r.vals w' := by
  have H1 : Hid (Below w.heap.size w (w.alloc (.cells #[.int .i64 r.id, .int .i64 r.ver, .slice a r.vals.length cap] 111))) := (Below.refl _ _).alloc (Nat.le_refl _) _
  have hw3 : Hid (Below w.heap.size w (((w.alloc (.cells #[.int .i64 r.id, .int .i64 r.ver, .slice a r.vals.length cap] 111)).alloc (.cells #[.int .i64 0, .int .i64 0, .slice none 0 0] 79)).alloc (.cells #[.int .i64 r.id, .int .i64 r.ver, .slice none 0 0] 79))) :=
    (((Below.refl w.heap.size w).alloc (Nat.le_refl _) _).alloc (by simp) _).alloc (by simp; omega) _
  go_enter Try.func72, Try.ntmps72
  go_wp2_with fail
  refine (to_vals _ _ _ _ (hV.keep hw3.out) hl).mono ?_
  rintro e w' ⟨rfl, hM⟩
  have hb := hM.1
  have hO := ownR_next (ownR_box ((w.alloc (.cells #[.int .i64 r.id, .int .i64 r.ver, .slice a r.vals.length cap] 111)).alloc (.cells #[.int .i64 0, .int .i64 0, .slice none 0 0] 79)) (.int .i64 r.id) (.int .i64 r.ver) (.slice none 0 0) 79) (by simp) hb
  have hR := ownR_next (ownR_next (ownR_box (w.alloc (.cells #[.int .i64 r.id, .int .i64 r.ver, .slice a r.vals.length cap] 111)) (.int .i64 0) (.int .i64 0) (.slice none 0 0) 79) (C := w.heap.size + 2) (by simp) (by have := (Below.refl (w.heap.size + 2) ((w.alloc (.cells #[.int .i64 r.id, .int .i64 r.ver, .slice a r.vals.length cap] 111)).alloc (.cells #[.int .i64 0, .int .i64 0, .slice none 0 0] 79))).alloc (by simp) (.cells #[.int .i64 r.id, .int .i64 r.ver, .slice none 0 0] 79); exact this)) (by simp) hb
  have HN : Hid (NewVals w (w.heap.size + 1 + 1 + 1) r.vals w') := by
    have h1 := hM.vals
    have h2 := hM.2.1
    simp only [size_alloc] at h1 h2
    exact ⟨by omega, h2, h1, hw3.out.trans (hb.mono (by simp; omega))⟩
  simp only [size_alloc] at hO hR
  clear hb hM hw3 H1 hV
  go_wp2_with fail
  refine bodyPost_ret (v := .agg #[.int .i64 r.id, .int .i64 r.ver, .slice (some ⟨w.heap.size + 1 + 1 + 1, 0, none⟩) r.vals.length r.vals.length]) (by simp [results, Try.results72, go_sem, hR]) rfl ⟨_, rfl, ?_⟩
  repeat' (first | refine NewVals.set ?_ (by simp [Nat.add_assoc]) (by simp [Nat.add_assoc]) | exact HN.out)

theorem vals_sets {W : World} {b B o : Nat} {V : List AVal} (h : ValsAt W (some ⟨b, 0, none⟩) V) (hne : b ≠ B) (vs : List Value) : ValsAt (W.setCells B o vs) (some ⟨b, 0, none⟩) V := by
  induction vs generalizing o W with
  | nil => exact h
  | cons v r ih =>
    refine ih ?_
    rcases h with h3 | ⟨b', o', e, hlt, hr⟩
    · exact Or.inl h3
    · cases e
      refine Or.inr ⟨b, 0, rfl, by simpa [World.setCell] using hlt, fun i c hc j u hu => ?_⟩
      rw [cell_set (by omega)]
      exact hr i c hc j u hu
theorem size_sets (W : World) (B o : Nat) (vs : List Value) : (W.setCells B o vs).heap.size = W.heap.size := by
  induction vs generalizing o W with
  | nil => rfl
  | cons v r ih => exact (ih (W.setCell ⟨B, o, none⟩ v) (o + 1)).trans (by simp [World.setCell])
theorem below_sets {B : Nat} {w W : World} (h : Below B w W) (o : Nat) (vs : List Value) : Below B w (W.setCells B o vs) := by
  induction vs generalizing o W with
  | nil => exact h
  | cons v r ih => exact ih (h.setCell (Nat.le_refl _) v) _

/-- Block B is a list of n rows that may be written; its first k are those of L; below B the world is as in w. -/
def MadeR (w : World) (B n k : Nat) (L : List ARow) (W : World) : Prop :=
  Below B w W ∧ B < W.heap.size ∧ W.there B 0 (n * 3) ∧ ∀ i r, i < k → L[i]? = some r → ∃ b rc, B < b ∧ b < W.heap.size ∧ W.rangeAt B (i * 3) (r.cells (some ⟨b, 0, none⟩) rc) ∧ ValsAt W (some ⟨b, 0, none⟩) r.vals

theorem MadeR.keep {w : World} {B n k : Nat} {L : List ARow} {W W' : World} (h : MadeR w B n k L W) (hb : Below W.heap.size W W') : MadeR w B n k L W' := by
  obtain ⟨h1, h2, h3, h4⟩ := h
  have hz := hb.size
  have hc := (bcell hb).1
  have hf := (bcell hb).2
  refine ⟨h1.trans (hb.mono (by omega)), by omega, fun j hj => ?_, fun i c hi hc' => ?_⟩
  · rw [hc _ _ h2, hf _ _ h2]; exact h3 j hj
  · obtain ⟨b, rc, a1, a2, a3, a4⟩ := h4 i c hi hc'
    exact ⟨b, rc, a1, by omega, fun j v hv => by rw [hc _ _ h2]; exact a3 j v hv, a4.keep hb⟩

theorem MadeR.put {w : World} {B n k : Nat} {L : List ARow} {W : World} {r : ARow} {b rc : Nat} (h : MadeR w B n k L W) (hk : k < n) (hc : L[k]? = some r) (hb : B < b) (hbs : b < W.heap.size) (hv : ValsAt W (some ⟨b, 0, none⟩) r.vals) : MadeR w B n (k + 1) L (W.setCells B (k * 3) (r.cells (some ⟨b, 0, none⟩) rc)) := by
  obtain ⟨h1, h2, h3, h4⟩ := h
  refine ⟨below_sets h1 _ _, by rw [size_sets]; exact h2, World.there_setCells h3 _ _ _, fun i d hi hd => ?_⟩
  by_cases hik : i = k
  · subst hik
    rw [hc] at hd
    cases hd
    exact ⟨b, rc, hb, by rw [size_sets]; exact hbs, World.rangeAt_setCells_same _ _ _ _ (fun j hj => by
      have hl : (r.cells (some ⟨b, 0, none⟩) rc).length = 3 := rfl
      have := h3 (i * 3 + j) (by omega)
      rwa [Nat.zero_add] at this), vals_sets hv (by omega) _⟩
  · obtain ⟨b', rc', a1, a2, a3, a4⟩ := h4 i d (by omega) hd
    refine ⟨b', rc', a1, by rw [size_sets]; exact a2, World.rangeAt_setCells_apart a3 _ _ _ (Or.inr (Or.inl ?_)), vals_sets a4 (by omega) _⟩
    have : (d.cells (some ⟨b', 0, none⟩) rc').length = 3 := rfl
    omega

theorem MadeR.start (w : World) (n : Nat) (L : List ARow) (z : Array Value) (t : TypeId) : MadeR w w.heap.size n 0 L (w.alloc (.cells (madeCells z (n * 3)) t)) := by
  refine ⟨(Below.refl _ _).alloc (Nat.le_refl _) _, by simp, fun j hj => ?_, fun i c hi => absurd hi (Nat.not_lt_zero _)⟩
  have hb : (w.alloc (.cells (madeCells z (n * 3)) t)).heap[w.heap.size]? = some (.cells (madeCells z (n * 3)) t) := by
    show (w.heap.push _)[w.heap.size]? = _
    simp
  constructor
  · simp only [World.cell?, hb]
    simp [madeCells, hj]
  · simp only [World.frozen?, hb]
    simp

theorem MadeR.rows {w : World} {B n : Nat} {L : List ARow} {W : World} (h : MadeR w B n L.length L W) : RowsAt W (some ⟨B, 0, none⟩) L :=
  Or.inr ⟨B, 0, rfl, h.2.1, fun i c hc => by
    obtain ⟨b, rc, _, _, a3, a4⟩ := h.2.2.2 i c (List.getElem?_eq_some_iff.1 hc).1 hc
    exact ⟨some ⟨b, 0, none⟩, rc, by rw [Nat.zero_add]; exact a3, a4⟩⟩

theorem Try.info79 : ∃ i, Try.prog.info? 79 = some i ∧ i.zero = some (.agg #[.int .i64 0, .int .i64 0, .slice none 0 0]) ∧ i.size = 3 ∧ i.bytes ≤ 128 := by
  have h : (Try.prog.info? 79).map (fun i => (i.zero, i.size, decide (i.bytes ≤ 128))) = some (some (.agg #[.int .i64 0, .int .i64 0, .slice none 0 0]), 3, true) := by kernel_rfl
  obtain ⟨i, hi, he⟩ := Option.map_eq_some_iff.1 h
  simp only [Prod.mk.injEq, decide_eq_true_eq] at he
  exact ⟨i, hi, he.1, he.2.1, he.2.2⟩

set_option maxRecDepth 100000 in
set_option maxHeartbeats 1000000 in
theorem to_rows (a : Option Addr) (cap : Nat) (L : List ARow) (w : World) (hL : RowsAt w a L) (hm : L.length ≤ 1048576) (hf : ∀ r ∈ L, r.vals.length ≤ 1048576) :
    Calls Try.prog 43 #[.slice a L.length cap] w fun e w' => e = .returned (.slice (some ⟨w.heap.size, 0, none⟩) L.length L.length) ∧ MadeR w w.heap.size L.length L.length L w' := by
  obtain ⟨i0, hi, hz, hsz, hby⟩ := Try.info79
  have hmk : ∀ wx, (Instr.makeSlice 26 (.int .i64 L.length) (.int .i64 L.length)).run Try.prog wx = .ok (.slice (some ⟨wx.heap.size, 0, none⟩) L.length L.length) (wx.alloc (.cells (madeCells #[.int .i64 0, .int .i64 0, .slice none 0 0] (L.length * 3)) 79)) := fun wx => by
    have h := run_make (P := Try.prog) wx 26 79 i0 _ Try.underlying26 hi hz .i64 .i64 L.length L.length (by omega) (by omega) (by have : (i0.bytes : Int) * L.length ≤ 128 * 1048576 := Int.mul_le_mul (by omega) (by omega) (by omega) (by omega); omega) (by omega)
    rw [hsz] at h
    simpa [Value.cells] using h
  clear hi hz hsz hby
  go_enter Try.func43, Try.ntmps43
  go_wp2_with fail
  have hst := MadeR.start w L.length L #[.int .i64 0, .int .i64 0, .slice none 0 0] 79
  go_loopw [4] (fun i wr => ∃ k : Nat, k ≤ L.length ∧ i = .int .i64 k ∧ Hid (MadeR w w.heap.size L.length k L wr)) (fun i _ => L.length - (intOf i).toNat)
  case atStart => exact ⟨0, Nat.zero_le _, rfl, hst⟩
  case round =>
    obtain ⟨k, hk, rfl, hH⟩ := hrel
    clear hst hmk
    by_cases hlt : k < L.length
    · obtain ⟨b, o, ra, rc, hab, hbl, hr, hv⟩ := (hL.keep hH.out.1).at hlt
      have hck := List.getElem?_eq_getElem hlt
      have hcl := hf _ (List.getElem_mem hlt)
      revert hr hv hck hcl
      generalize L[k] = c
      intro hr hv hck hcl
      have hix : ∀ wx, (Instr.indexAt 37 (.slice a L.length cap) (.int .i64 k)).run Try.prog wx = .ok (.pointer (some ⟨b, o + k * 3, none⟩)) wx := fun wx => by
        rw [hab]; exact run_ix3 _ _ _ _ _ _ _ wx hlt Try.underlying37 (Try.sizeOf111 wx)
      have hld := cellsR_of hr
      have hck' : Hid (L[k]? = some c) := hck
      clear hab hr hL hck
      go_wp2_with fail
      refine (to_row c ra rc _ hv hcl).mono ?_
      rintro e w' ⟨b2, rfl, hN⟩
      have hM : Hid (MadeR w w.heap.size L.length k L w') := hH.out.keep hN.2.2.2
      have hV : Hid (w.heap.size < b2 ∧ b2 < w'.heap.size ∧ ValsAt w' (some ⟨b2, 0, none⟩) c.vals) := ⟨Nat.lt_of_lt_of_le hH.out.2.1 hN.1, hN.2.1, hN.2.2.1⟩
      obtain ⟨x0, x1, x2, hth⟩ := there3_of hM.out.2.2.1 hlt
      clear hH hN hld hv
      go_wp2_with fail
      go_roundw
      case rel => exact ⟨k + 1, by omega, by go_num, hM.out.put hlt hck'.out hV.out.1 hV.out.2.1 hV.out.2.2⟩
      case measure => simp [intOf]; omega
    · have hkl : k = L.length := by omega
      subst hkl
      go_wp2_with fail
      go_ret
      exact ⟨rfl, hH.out⟩

end Go.Proofs.Yteckjdoiimifaaa
