/- The contracts of laws.toSet, toSetS, toChange and toLink, over the seat's translation. -/
import Derived.Test.YtacindondkcaiaaGreatAcA
namespace Go.Proofs.YtacindondkcaiaaGreat
open Go.RowKit

/-- The box at B holds a value told in W, and may be written. -/
abbrev Own4 (B : Nat) (nm : ByteArray) (k n : Int) (s : ByteArray) (W : World) : Prop :=
  W.cell? ⟨B, 0, none⟩ = some (.string nm) ∧ W.cell? ⟨B, 1, none⟩ = some (.int .i64 k) ∧ W.cell? ⟨B, 2, none⟩ = some (.int .i64 n) ∧ W.cell? ⟨B, 3, none⟩ = some (.string s) ∧
    W.frozen? ⟨B, 0, none⟩ = false ∧ W.frozen? ⟨B, 1, none⟩ = false ∧ W.frozen? ⟨B, 2, none⟩ = false ∧ W.frozen? ⟨B, 3, none⟩ = false
theorem own4_next {B : Nat} {nm : ByteArray} {k n : Int} {s : ByteArray} {W W' : World} (h : Own4 B nm k n s W) (hB : B < W.heap.size) (hb : Below W.heap.size W W') : Own4 B nm k n s W' := by
  have hc := fun o => (bcell hb).1 B o hB
  have hf := fun o => (bcell hb).2 B o hB
  unfold Own4
  simp only [hc, hf]
  exact h
theorem own4_box (w : World) (nm : ByteArray) (k n : Int) (s : ByteArray) (t : TypeId) : Own4 w.heap.size nm k n s (w.alloc (.cells #[.string nm, .int .i64 k, .int .i64 n, .string s] t)) := by
  refine ⟨?_, ?_, ?_, ?_, ?_, ?_, ?_, ?_⟩
  all_goals go_simp

set_option maxRecDepth 100000 in
set_option maxHeartbeats 1000000 in
theorem to_set (nm : ByteArray) (k n : Int) (s : ByteArray) (w : World) :
    Calls Tryz.prog 32 #[.agg #[.string nm, .int .i64 k, .int .i64 n, .string s]] w fun e w' => e = .returned (.agg #[.string nm, .int .i64 k, .int .i64 n, .string s]) ∧ Below w.heap.size w w' := by
  go_enter Tryz.func32, Tryz.ntmps32
  go_wp2_with fail
  refine (to_val _ _ _ _).mono ?_
  rintro e w' ⟨rfl, hb⟩
  have hO := own4_next (own4_box _ _ _ _ _ _) (by simp) hb
  have hR := own4_next (own4_next (own4_box _ _ _ _ _ _) (by simp) ((Below.refl _ _).alloc (Nat.le_refl _) _)) (by simp) hb
  have hw : Hid (Below w.heap.size w w') := ((((Below.refl w.heap.size w).alloc (Nat.le_refl _) _).alloc (by simp) _).alloc (by simp; omega) _).trans (hb.mono (by simp; omega))
  rw [size_alloc, size_alloc] at hO
  rw [size_alloc] at hR
  clear hb
  go_wp2_with fail
  refine bodyPost_ret (v := .agg #[.string nm, .int .i64 k, .int .i64 n, .string s]) (by simp [results, Tryz.results32, go_sem, hR]) rfl ⟨rfl, ?_⟩
  repeat' (first | refine Below.setCell ?_ (by simp [Nat.add_assoc]) _ | exact hw.out)

theorem size_sets (W : World) (B o : Nat) (vs : List Value) : (W.setCells B o vs).heap.size = W.heap.size := by
  induction vs generalizing o W with
  | nil => rfl
  | cons v r ih => exact (ih (W.setCell ⟨B, o, none⟩ v) (o + 1)).trans (by simp [World.setCell])

theorem below_sets {B : Nat} {w W : World} (h : Below B w W) (o : Nat) (vs : List Value) : Below B w (W.setCells B o vs) := by
  induction vs generalizing o W with
  | nil => exact h
  | cons v r ih => exact ih (h.setCell (Nat.le_refl _) v) _

theorem Tryz.info76 : ∃ i, Tryz.prog.info? 76 = some i ∧ i.zero = some (.agg #[.string ⟨#[]⟩, .int .i64 0, .int .i64 0, .string ⟨#[]⟩]) ∧ i.size = 4 ∧ i.bytes ≤ 128 := by
  have h : (Tryz.prog.info? 76).map (fun i => (i.zero, i.size, decide (i.bytes ≤ 128))) = some (some (.agg #[.string ⟨#[]⟩, .int .i64 0, .int .i64 0, .string ⟨#[]⟩]), 4, true) := by kernel_rfl
  obtain ⟨i, hi, he⟩ := Option.map_eq_some_iff.1 h
  simp only [Prod.mk.injEq, decide_eq_true_eq] at he
  exact ⟨i, hi, he.1, he.2.1, he.2.2⟩

/-- Block B is a row of n sets that may be written; its first k are those of L; below B the world is as in w. -/
def MadeS (w : World) (B n k : Nat) (L : List ASet) (W : World) : Prop :=
  Below B w W ∧ B < W.heap.size ∧ W.there B 0 (n * 4) ∧ ∀ i c, i < k → L[i]? = some c → W.rangeAt B (i * 4) c.cells

theorem MadeS.keep {w : World} {B n k : Nat} {L : List ASet} {W W' : World} (h : MadeS w B n k L W) (hb : Below W.heap.size W W') : MadeS w B n k L W' := by
  obtain ⟨h1, h2, h3, h4⟩ := h
  have hz := hb.size
  have hc := (bcell hb).1
  have hf := (bcell hb).2
  refine ⟨h1.trans (hb.mono (by omega)), by omega, fun j hj => ?_, fun i c hi hc' j v hv => ?_⟩
  · rw [hc _ _ h2, hf _ _ h2]; exact h3 j hj
  · rw [hc _ _ h2]; exact h4 i c hi hc' j v hv

theorem MadeS.put {w : World} {B n k : Nat} {L : List ASet} {W : World} {c : ASet} (h : MadeS w B n k L W) (hk : k < n) (hc : L[k]? = some c) : MadeS w B n (k + 1) L (W.setCells B (k * 4) c.cells) := by
  obtain ⟨h1, h2, h3, h4⟩ := h
  have hlen : c.cells.length = 4 := rfl
  refine ⟨below_sets h1 _ _, by rw [size_sets]; exact h2, World.there_setCells h3 _ _ _, fun i d hi hd => ?_⟩
  by_cases hik : i = k
  · subst hik
    rw [hc] at hd
    cases hd
    exact World.rangeAt_setCells_same _ _ _ _ (fun j hj => by
      have := h3 (i * 4 + j) (by rw [hlen] at hj; omega)
      rwa [Nat.zero_add] at this)
  · refine World.rangeAt_setCells_apart (h4 i d (by omega) hd) _ _ _ (Or.inr (Or.inl ?_))
    have : d.cells.length = 4 := rfl
    omega

theorem MadeS.start (w : World) (n : Nat) (L : List ASet) (z : Array Value) (t : TypeId) : MadeS w w.heap.size n 0 L (w.alloc (.cells (madeCells z (n * 4)) t)) := by
  refine ⟨(Below.refl _ _).alloc (Nat.le_refl _) _, by simp, fun j hj => ?_, fun i c hi => absurd hi (Nat.not_lt_zero _)⟩
  have hb : (w.alloc (.cells (madeCells z (n * 4)) t)).heap[w.heap.size]? = some (.cells (madeCells z (n * 4)) t) := by
    show (w.heap.push _)[w.heap.size]? = _
    simp
  constructor
  · simp only [World.cell?, hb]
    simp [madeCells, hj]
  · simp only [World.frozen?, hb]
    simp

theorem MadeS.sets {w : World} {B n : Nat} {L : List ASet} {W : World} (h : MadeS w B n L.length L W) : SetsAt W (some ⟨B, 0, none⟩) L :=
  Or.inr ⟨B, 0, rfl, h.2.1, fun i c hc => by rw [Nat.zero_add]; exact h.2.2.2 i c (List.getElem?_eq_some_iff.1 hc).1 hc⟩

/-- Four cells at an offset, which may be written. -/
abbrev There4 (W : World) (b o : Nat) : Prop :=
  ∃ x0 x1 x2 x3, W.cell? ⟨b, o, none⟩ = some x0 ∧ W.cell? ⟨b, o + 1, none⟩ = some x1 ∧ W.cell? ⟨b, o + 2, none⟩ = some x2 ∧ W.cell? ⟨b, o + 3, none⟩ = some x3 ∧
    W.frozen? ⟨b, o, none⟩ = false ∧ W.frozen? ⟨b, o + 1, none⟩ = false ∧ W.frozen? ⟨b, o + 2, none⟩ = false ∧ W.frozen? ⟨b, o + 3, none⟩ = false
theorem there4_of {W : World} {b n k : Nat} (h : W.there b 0 (n * 4)) (hk : k < n) : There4 W b (k * 4) := by
  have hh : ∀ j, j < 4 → (∃ x, W.cell? ⟨b, k * 4 + j, none⟩ = some x) ∧ W.frozen? ⟨b, k * 4 + j, none⟩ = false := fun j hj => by
    have := h (k * 4 + j) (by omega)
    rw [Nat.zero_add] at this
    exact ⟨Option.isSome_iff_exists.1 this.1, this.2⟩
  obtain ⟨⟨x0, a0⟩, b0⟩ := hh 0 (by omega)
  obtain ⟨⟨x1, a1⟩, b1⟩ := hh 1 (by omega)
  obtain ⟨⟨x2, a2⟩, b2⟩ := hh 2 (by omega)
  obtain ⟨⟨x3, a3⟩, b3⟩ := hh 3 (by omega)
  exact ⟨x0, x1, x2, x3, a0, a1, a2, a3, b0, b1, b2, b3⟩

set_option maxRecDepth 100000 in
set_option maxHeartbeats 1000000 in
theorem to_sets (a : Option Addr) (cap : Nat) (L : List ASet) (w : World) (hL : SetsAt w a L) (hm : L.length ≤ 1048576) :
    Calls Tryz.prog 19 #[.slice a L.length cap] w fun e w' => e = .returned (.slice (some ⟨w.heap.size, 0, none⟩) L.length L.length) ∧ MadeS w w.heap.size L.length L.length L w' := by
  obtain ⟨i0, hi, hz, hsz, hby⟩ := Tryz.info76
  have hmk : ∀ wx, (Instr.makeSlice 36 (.int .i64 L.length) (.int .i64 L.length)).run Tryz.prog wx = .ok (.slice (some ⟨wx.heap.size, 0, none⟩) L.length L.length) (wx.alloc (.cells (madeCells #[.string ⟨#[]⟩, .int .i64 0, .int .i64 0, .string ⟨#[]⟩] (L.length * 4)) 76)) := fun wx => by
    have h := run_make (P := Tryz.prog) wx 36 76 i0 _ Tryz.underlying36 hi hz .i64 .i64 L.length L.length (by omega) (by omega) (by have : (i0.bytes : Int) * L.length ≤ 128 * 1048576 := Int.mul_le_mul (by omega) (by omega) (by omega) (by omega); omega) (by omega)
    rw [hsz] at h
    simpa [Value.cells] using h
  clear hi hz hsz hby
  go_enter Tryz.func19, Tryz.ntmps19
  go_wp2_with fail
  have hst := MadeS.start w L.length L #[.string ⟨#[]⟩, .int .i64 0, .int .i64 0, .string ⟨#[]⟩] 76
  go_loopw [4] (fun i wr => ∃ k : Nat, k ≤ L.length ∧ i = .int .i64 k ∧ Hid (MadeS w w.heap.size L.length k L wr)) (fun i _ => L.length - (intOf i).toNat)
  case atStart => exact ⟨0, Nat.zero_le _, rfl, hst⟩
  case round =>
    obtain ⟨k, hk, rfl, hH⟩ := hrel
    clear hst hmk
    by_cases hlt : k < L.length
    · obtain ⟨b, o, hab, hbl, hr⟩ := (hL.keep hH.out.1).at hlt
      have hck := List.getElem?_eq_getElem hlt
      revert hr hck
      generalize L[k] = c
      intro hr hck
      have hix : ∀ wx, (Instr.indexAt 22 (.slice a L.length cap) (.int .i64 k)).run Tryz.prog wx = .ok (.pointer (some ⟨b, o + k * 4, none⟩)) wx := fun wx => by
        rw [hab]; exact run_ixk 4 _ _ _ _ _ _ _ wx hlt Tryz.underlying22 (Tryz.sizeOf72 wx)
      have hld := cellsS_of hr
      have hck' : Hid (L[k]? = some c) := hck
      clear hab hr hL hck
      go_wp2_with fail
      refine (to_set _ _ _ _ _).mono ?_
      rintro e w' ⟨rfl, hq⟩
      have hM : Hid (MadeS w w.heap.size L.length k L w') := hH.out.keep hq
      obtain ⟨x0, x1, x2, x3, hth⟩ := there4_of hM.out.2.2.1 hlt
      clear hH hq hld
      go_wp2_with fail
      go_roundw
      case rel => exact ⟨k + 1, by omega, by go_num, hM.out.put hlt hck'.out⟩
      case measure => simp [intOf]; omega
    · have hkl : k = L.length := by omega
      subst hkl
      go_wp2_with fail
      go_ret
      exact ⟨rfl, hH.out⟩

/-- The box at B holds a change in W, and may be written. -/
abbrev Own10 (B : Nat) (kd : Int) (nm nw cnm : ByteArray) (ckd : Int) (nd oc : Bool) (k n : Int) (s : ByteArray) (W : World) : Prop :=
  W.cell? ⟨B, 0, none⟩ = some (.int .i64 kd) ∧ W.cell? ⟨B, 1, none⟩ = some (.string nm) ∧ W.cell? ⟨B, 2, none⟩ = some (.string nw) ∧ W.cell? ⟨B, 3, none⟩ = some (.string cnm) ∧ W.cell? ⟨B, 4, none⟩ = some (.int .i64 ckd) ∧ W.cell? ⟨B, 5, none⟩ = some (.bool nd) ∧ W.cell? ⟨B, 6, none⟩ = some (.bool oc) ∧ W.cell? ⟨B, 7, none⟩ = some (.int .i64 k) ∧ W.cell? ⟨B, 8, none⟩ = some (.int .i64 n) ∧ W.cell? ⟨B, 9, none⟩ = some (.string s) ∧
    W.frozen? ⟨B, 0, none⟩ = false ∧ W.frozen? ⟨B, 1, none⟩ = false ∧ W.frozen? ⟨B, 2, none⟩ = false ∧ W.frozen? ⟨B, 3, none⟩ = false ∧ W.frozen? ⟨B, 4, none⟩ = false ∧ W.frozen? ⟨B, 5, none⟩ = false ∧ W.frozen? ⟨B, 6, none⟩ = false ∧ W.frozen? ⟨B, 7, none⟩ = false ∧ W.frozen? ⟨B, 8, none⟩ = false ∧ W.frozen? ⟨B, 9, none⟩ = false
theorem own10_next {B : Nat} {kd : Int} {nm nw cnm : ByteArray} {ckd : Int} {nd oc : Bool} {k n : Int} {s : ByteArray} {W W' : World} (h : Own10 B kd nm nw cnm ckd nd oc k n s W) (hB : B < W.heap.size) (hb : Below W.heap.size W W') : Own10 B kd nm nw cnm ckd nd oc k n s W' := by
  have hc := fun o => (bcell hb).1 B o hB
  have hf := fun o => (bcell hb).2 B o hB
  unfold Own10
  simp only [hc, hf]
  exact h
theorem own10_box (w : World) (kd : Int) (nm nw cnm : ByteArray) (ckd : Int) (nd oc : Bool) (k n : Int) (s : ByteArray) (t : TypeId) : Own10 w.heap.size kd nm nw cnm ckd nd oc k n s (w.alloc (.cells #[.int .i64 kd, .string nm, .string nw, .string cnm, .int .i64 ckd, .bool nd, .bool oc, .int .i64 k, .int .i64 n, .string s] t)) := by
  refine ⟨?_, ?_, ?_, ?_, ?_, ?_, ?_, ?_, ?_, ?_, ?_, ?_, ?_, ?_, ?_, ?_, ?_, ?_, ?_, ?_⟩
  all_goals go_simp

set_option maxRecDepth 100000 in
set_option maxHeartbeats 2000000 in
theorem to_change (kd : Int) (nm nw cnm : ByteArray) (ckd : Int) (nd oc : Bool) (k n : Int) (s : ByteArray) (w : World) :
    Calls Tryz.prog 21 #[.agg #[.int .i64 kd, .string nm, .string nw, .string cnm, .int .i64 ckd, .bool nd, .bool oc, .int .i64 k, .int .i64 n, .string s]] w fun e w' => e = .returned (.agg #[.int .i64 kd, .string nm, .string nw, .string cnm, .int .i64 ckd, .bool nd, .bool oc, .int .i64 k, .int .i64 n, .string s]) ∧ Below w.heap.size w w' := by
  go_enter Tryz.func21, Tryz.ntmps21
  go_wp2_with fail
  refine (to_col _ _ _ _ _ _ _ _).mono ?_
  rintro e w' ⟨rfl, hb⟩
  have hO := own10_next (own10_box _ _ _ _ _ _ _ _ _ _ _ _) (by simp) hb
  have hR := own10_next (own10_next (own10_box _ _ _ _ _ _ _ _ _ _ _ _) (by simp) ((Below.refl _ _).alloc (Nat.le_refl _) _)) (by simp) hb
  have hw : Hid (Below w.heap.size w w') := ((((Below.refl w.heap.size w).alloc (Nat.le_refl _) _).alloc (by simp) _).alloc (by simp; omega) _).trans (hb.mono (by simp; omega))
  rw [size_alloc, size_alloc] at hO
  rw [size_alloc] at hR
  clear hb
  go_wp2_with fail
  refine bodyPost_ret (v := .agg #[.int .i64 kd, .string nm, .string nw, .string cnm, .int .i64 ckd, .bool nd, .bool oc, .int .i64 k, .int .i64 n, .string s]) (by simp [results, Tryz.results21, go_sem, hR]) rfl ⟨rfl, ?_⟩
  repeat' (first | refine Below.setCell ?_ (by simp [Nat.add_assoc]) _ | exact hw.out)

set_option maxRecDepth 100000 in
set_option maxHeartbeats 1000000 in
theorem to_link (fr co tt : ByteArray) (hw : Int) (w : World) :
    Calls Tryz.prog 22 #[.agg #[.string fr, .string co, .string tt, .int .i64 hw]] w fun e w' => e = .returned (.agg #[.string fr, .string co, .string tt, .int .i64 hw]) ∧ Below w.heap.size w w' := by
  go_enter Tryz.func22, Tryz.ntmps22
  go_wp2
  exact bodyPost_ret (v := .agg #[.string fr, .string co, .string tt, .int .i64 hw]) (by simp [results, Tryz.results22, go_sem]) rfl ⟨rfl, ((((Below.refl _ _).alloc (Nat.le_refl _) _).alloc (by simp) _).alloc (by simp; omega) _)⟩

end Go.Proofs.YtacindondkcaiaaGreat
