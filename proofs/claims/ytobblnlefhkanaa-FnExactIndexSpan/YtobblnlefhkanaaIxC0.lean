/- Rows of entries that are made. -/
import Derived.Test.YtobblnlefhkanaaIxA
namespace Go.Proofs.Ytobblnlefhkanaa
open Go.RowKit

/-- The box at B holds an entry in W, and may be written. -/
abbrev Own4 (B : Nat) (k n : Int) (s : ByteArray) (id : Int) (W : World) : Prop :=
  W.cell? ⟨B, 0, none⟩ = some (.int .i64 k) ∧ W.cell? ⟨B, 1, none⟩ = some (.int .i64 n) ∧ W.cell? ⟨B, 2, none⟩ = some (.string s) ∧ W.cell? ⟨B, 3, none⟩ = some (.int .i64 id) ∧
    W.frozen? ⟨B, 0, none⟩ = false ∧ W.frozen? ⟨B, 1, none⟩ = false ∧ W.frozen? ⟨B, 2, none⟩ = false ∧ W.frozen? ⟨B, 3, none⟩ = false

theorem own4_next {B : Nat} {k n : Int} {s : ByteArray} {id : Int} {W W' : World} (h : Own4 B k n s id W) (hB : B < W.heap.size) (hb : Below W.heap.size W W') : Own4 B k n s id W' := by
  have hc := fun o => (bcell hb).1 B o hB
  have hf := fun o => (bcell hb).2 B o hB
  unfold Own4
  simp only [hc, hf]
  exact h

theorem own4_box (w : World) (k n : Int) (s : ByteArray) (id : Int) (t : TypeId) : Own4 w.heap.size k n s id (w.alloc (.cells #[.int .i64 k, .int .i64 n, .string s, .int .i64 id] t)) := by
  refine ⟨?_, ?_, ?_, ?_, ?_, ?_, ?_, ?_⟩
  all_goals go_simp

theorem size_sets (W : World) (B o : Nat) (vs : List Value) : (W.setCells B o vs).heap.size = W.heap.size := by
  induction vs generalizing o W with
  | nil => rfl
  | cons v r ih => exact (ih (W.setCell ⟨B, o, none⟩ v) (o + 1)).trans (by simp [World.setCell])

theorem below_sets {B : Nat} {w W : World} (h : Below B w W) (o : Nat) (vs : List Value) : Below B w (W.setCells B o vs) := by
  induction vs generalizing o W with
  | nil => exact h
  | cons v r ih => exact ih (h.setCell (Nat.le_refl _) v) _

/-- Block B is a row of n entries that may be written; its first k are those of L; below B the world is as in w. -/
def MadeE (w : World) (B n k : Nat) (L : List AEnt) (W : World) : Prop :=
  Below B w W ∧ B < W.heap.size ∧ W.there B 0 (n * 4) ∧ ∀ i c, i < k → L[i]? = some c → W.rangeAt B (i * 4) c.cells

theorem MadeE.keep {w : World} {B n k : Nat} {L : List AEnt} {W W' : World} (h : MadeE w B n k L W) (hb : Below W.heap.size W W') : MadeE w B n k L W' := by
  obtain ⟨h1, h2, h3, h4⟩ := h
  have hz := hb.size
  have hc := (bcell hb).1
  have hf := (bcell hb).2
  refine ⟨h1.trans (hb.mono (by omega)), by omega, fun j hj => ?_, fun i c hi hc' j v hv => ?_⟩
  · rw [hc _ _ h2, hf _ _ h2]; exact h3 j hj
  · rw [hc _ _ h2]; exact h4 i c hi hc' j v hv

theorem MadeE.put {w : World} {B n k : Nat} {L : List AEnt} {W : World} {c : AEnt} (h : MadeE w B n k L W) (hk : k < n) (hc : L[k]? = some c) : MadeE w B n (k + 1) L (W.setCells B (k * 4) c.cells) := by
  obtain ⟨h1, h2, h3, h4⟩ := h
  have hlen : c.cells.length = 4 := rfl
  refine ⟨below_sets h1 _ _, by rw [size_sets]; exact h2, World.there_setCells h3 _ _ _, fun i d hi hd => ?_⟩
  by_cases hik : i = k
  · subst hik
    rw [hc] at hd
    cases hd
    exact World.rangeAt_setCells_same _ _ _ _ (fun j hj => by
      have := h3 (i * 4 + j) (by rw [hlen] at hj; omega)
      rwa [Nat.zero_add] at this)
  · refine World.rangeAt_setCells_apart (h4 i d (by omega) hd) _ _ _ (Or.inr (Or.inl ?_))
    have : d.cells.length = 4 := rfl
    omega

theorem MadeE.start (w : World) (n : Nat) (L : List AEnt) (z : Array Value) (t : TypeId) : MadeE w w.heap.size n 0 L (w.alloc (.cells (madeCells z (n * 4)) t)) := by
  refine ⟨(Below.refl _ _).alloc (Nat.le_refl _) _, by simp, fun j hj => ?_, fun i c hi => absurd hi (Nat.not_lt_zero _)⟩
  have hb : (w.alloc (.cells (madeCells z (n * 4)) t)).heap[w.heap.size]? = some (.cells (madeCells z (n * 4)) t) := by
    show (w.heap.push _)[w.heap.size]? = _
    simp
  constructor
  · simp only [World.cell?, hb]
    simp [madeCells, hj]
  · simp only [World.frozen?, hb]
    simp

theorem MadeE.ents {w : World} {B n : Nat} {L : List AEnt} {W : World} (h : MadeE w B n L.length L W) : EntsAt W (some ⟨B, 0, none⟩) L :=
  Or.inr ⟨B, 0, rfl, h.2.1, fun i c hc => by rw [Nat.zero_add]; exact h.2.2.2 i c (List.getElem?_eq_some_iff.1 hc).1 hc⟩

/-- Four cells at an offset, which may be written. -/
abbrev There4 (W : World) (b o : Nat) : Prop :=
  ∃ x0 x1 x2 x3, W.cell? ⟨b, o, none⟩ = some x0 ∧ W.cell? ⟨b, o + 1, none⟩ = some x1 ∧ W.cell? ⟨b, o + 2, none⟩ = some x2 ∧ W.cell? ⟨b, o + 3, none⟩ = some x3 ∧
    W.frozen? ⟨b, o, none⟩ = false ∧ W.frozen? ⟨b, o + 1, none⟩ = false ∧ W.frozen? ⟨b, o + 2, none⟩ = false ∧ W.frozen? ⟨b, o + 3, none⟩ = false

theorem there4_of {W : World} {b n k : Nat} (h : W.there b 0 (n * 4)) (hk : k < n) : There4 W b (k * 4) := by
  have hh : ∀ j, j < 4 → (∃ x, W.cell? ⟨b, k * 4 + j, none⟩ = some x) ∧ W.frozen? ⟨b, k * 4 + j, none⟩ = false := fun j hj => by
    have := h (k * 4 + j) (by omega)
    rw [Nat.zero_add] at this
    exact ⟨Option.isSome_iff_exists.1 this.1, this.2⟩
  obtain ⟨⟨x0, a0⟩, b0⟩ := hh 0 (by omega)
  obtain ⟨⟨x1, a1⟩, b1⟩ := hh 1 (by omega)
  obtain ⟨⟨x2, a2⟩, b2⟩ := hh 2 (by omega)
  obtain ⟨⟨x3, a3⟩, b3⟩ := hh 3 (by omega)
  exact ⟨x0, x1, x2, x3, a0, a1, a2, a3, b0, b1, b2, b3⟩

end Go.Proofs.Ytobblnlefhkanaa
