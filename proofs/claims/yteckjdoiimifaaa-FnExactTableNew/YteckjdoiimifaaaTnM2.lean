/- Columns that are marked: the contract of laws.markColS, over the seat's translation. -/
import Derived.Test.YteckjdoiimifaaaTnM1
namespace Go.Proofs.Yteckjdoiimifaaa
open Go.RowKit

/-- Of what lay in W only block B has turned in W'; blocks may have come. -/
structure Turn (B : Nat) (W W' : World) : Prop where
  os : W'.os = W.os
  tape : W'.tape = W.tape
  output : W'.output = W.output
  size : W.heap.size ≤ W'.heap.size
  block : ∀ k, k < W.heap.size → k ≠ B → W'.heap[k]? = W.heap[k]?

theorem Turn.refl (B : Nat) (W : World) : Turn B W W := ⟨rfl, rfl, rfl, Nat.le_refl _, fun _ _ _ => rfl⟩
theorem Turn.next {B : Nat} {w W W' : World} (h : Turn B w W) (k : Below W.heap.size W W') : Turn B w W' :=
  ⟨k.os.trans h.os, k.tape.trans h.tape, k.output.trans h.output, Nat.le_trans h.size k.size, fun i hi hg => (k.block i (Nat.lt_of_lt_of_le hi h.size)).trans (h.block i hi hg)⟩
theorem Turn.set {B : Nat} {w W : World} (h : Turn B w W) (o : Nat) (v : Value) : Turn B w (W.setCell ⟨B, o, none⟩ v) :=
  ⟨h.os, h.tape, h.output, by simpa [World.setCell] using h.size, fun i hi hg => (Below.heap_setCell W ⟨B, o, none⟩ v i hg).trans (h.block i hi hg)⟩
theorem Turn.sets {B : Nat} {w W : World} (h : Turn B w W) (o : Nat) (vs : List Value) : Turn B w (W.setCells B o vs) := by
  induction vs generalizing o W with
  | nil => exact h
  | cons v r ih => exact ih (h.set o v) _
theorem Turn.below {B C : Nat} {w W : World} (h : Turn B w W) (hC : C ≤ B) (hs : C ≤ w.heap.size) : Below C w W := ⟨h.os, h.tape, h.output, h.size, fun k hk => h.block k (by omega) (by omega)⟩
theorem Turn.cell {B : Nat} {W W' : World} (h : Turn B W W') {b : Nat} (h1 : b < W.heap.size) (h2 : b ≠ B) (o : Nat) : W'.cell? ⟨b, o, none⟩ = W.cell? ⟨b, o, none⟩ := World.cell?_of_block (w := W) (a := ⟨b, o, none⟩) (h.block b h1 h2)
theorem Turn.frozen {B : Nat} {W W' : World} (h : Turn B W W') {b : Nat} (h1 : b < W.heap.size) (h2 : b ≠ B) (o : Nat) : W'.frozen? ⟨b, o, none⟩ = W.frozen? ⟨b, o, none⟩ := World.frozen?_of_block (w := W) (a := ⟨b, o, none⟩) (h.block b h1 h2)
theorem Turn.cols {B : Nat} {W W' : World} (h : Turn B W W') {a : Option Addr} {L : List ACol} (hL : ColsAt W a L) (ha : ∀ b o, a = some ⟨b, o, none⟩ → b ≠ B) : ColsAt W' a L := by
  rcases hL with hL | ⟨b, o, e, hlt, hr⟩
  · exact Or.inl hL
  · exact Or.inr ⟨b, o, e, Nat.lt_of_lt_of_le hlt h.size, fun i c hc j v hv => by rw [h.cell hlt (ha b o e)]; exact hr i c hc j v hv⟩

theorem there_next {B n : Nat} {W W' : World} (h : W.there B 0 n) (hB : B < W.heap.size) (hb : Below W.heap.size W W') : W'.there B 0 n := fun j hj => by
  rw [(bcell hb).1 _ _ hB, (bcell hb).2 _ _ hB]
  exact h j hj

/-- The marks of a column from k on. -/
def mkCol (k : Nat) : ACol := ⟨markT k, (k : Int) + 1, ((k : Int) + 1 + 1) % 3 == 0, ((k : Int) + 1 + 1 + 1) % 3 == 0, (k : Int) + 1 + 1 + 1 + 1, (k : Int) + 1 + 1 + 1 + 1 + 1, markT (k + 6)⟩

/-- Block B holds n columns that may be written; the first i bear marks from k on; nothing else has turned. -/
def Marked (w : World) (B n k i : Nat) (W : World) : Prop :=
  Turn B w W ∧ B < W.heap.size ∧ W.there B 0 (n * 7) ∧ ∀ j, j < i → W.rangeAt B (j * 7) (mkCol (k + 7 * j)).cells

theorem Marked.next {w : World} {B n k i : Nat} {W W' : World} (h : Marked w B n k i W) (hb : Below W.heap.size W W') : Marked w B n k i W' := by
  obtain ⟨h1, h2, h3, h4⟩ := h
  have hz := hb.size
  refine ⟨h1.next hb, by omega, there_next h3 h2 hb, fun j hj x v hv => ?_⟩
  rw [(bcell hb).1 _ _ h2]
  exact h4 j hj x v hv

theorem set_size (W : World) (B o : Nat) (vs : List Value) : (W.setCells B o vs).heap.size = W.heap.size := by
  induction vs generalizing o W with
  | nil => rfl
  | cons v r ih => exact (ih (W.setCell ⟨B, o, none⟩ v) (o + 1)).trans (by simp [World.setCell])

/-- The first six cells of the column at place i are written. -/
def Six (w : World) (B n k i : Nat) (l : List Value) (W : World) : Prop := Marked w B n k i W ∧ W.rangeAt B (i * 7) l
theorem six_set {w : World} {B n k i : Nat} {W : World} (h : Marked w B n k i W) (hi : i < n) (l : List Value) (hl : l.length = 6) : Six w B n k i l (W.setCells B (i * 7) l) := by
  obtain ⟨h1, h2, h3, h4⟩ := h
  refine ⟨⟨h1.sets _ _, by rw [set_size]; exact h2, World.there_setCells h3 _ _ _, fun j hj => ?_⟩, ?_⟩
  · refine World.rangeAt_setCells_apart (h4 j hj) _ _ _ (Or.inr (Or.inl ?_))
    have : (mkCol (k + 7 * j)).cells.length = 7 := rfl
    omega
  · exact World.rangeAt_setCells_same _ _ _ _ (fun j hj => by
      have := h3 (i * 7 + j) (by rw [hl] at hj; omega)
      rwa [Nat.zero_add] at this)
theorem Six.next {w : World} {B n k i : Nat} {l : List Value} {W W' : World} (h : Six w B n k i l W) (hb : Below W.heap.size W W') : Six w B n k i l W' := by
  refine ⟨h.1.next hb, fun x v hv => ?_⟩
  rw [(bcell hb).1 _ _ h.1.2.1]
  exact h.2 x v hv
theorem Six.last {w : World} {B n k i : Nat} {l : List Value} {W : World} {v : Value} (h : Six w B n k i l W) (hi : i < n) (hl : l.length = 6) (hc : (mkCol (k + 7 * i)).cells = l ++ [v]) : Marked w B n k (i + 1) (W.setCell ⟨B, i * 7 + 6, none⟩ v) := by
  obtain ⟨⟨h1, h2, h3, h4⟩, h5⟩ := h
  refine ⟨h1.set _ _, by simpa [World.setCell] using h2, World.there_setCells h3 B (i * 7 + 6) [v], fun j hj => ?_⟩
  by_cases hji : j = i
  · subst hji
    have hA : (W.setCells B (j * 7 + 6) [v]).rangeAt B (j * 7) l := World.rangeAt_setCells_apart h5 _ _ _ (Or.inr (Or.inl (by omega)))
    have hB' : (W.setCells B (j * 7 + 6) [v]).rangeAt B (j * 7 + 6) [v] := World.rangeAt_setCells_same _ _ _ _ (fun x hx => by
      have := h3 (j * 7 + 6 + x) (by simp at hx; omega)
      rwa [Nat.zero_add] at this)
    rw [hc]
    intro x u hu
    by_cases hx : x < 6
    · rw [List.getElem?_append_left (by omega)] at hu
      exact hA x u hu
    · rw [List.getElem?_append_right (by omega), hl] at hu
      have := hB' (x - 6) u hu
      rwa [show j * 7 + 6 + (x - 6) = j * 7 + x by omega] at this
  · have hA : (W.setCells B (i * 7 + 6) [v]).rangeAt B (j * 7) (mkCol (k + 7 * j)).cells := World.rangeAt_setCells_apart (h4 j (by omega)) _ _ _ (Or.inr (Or.inl (by
      have : (mkCol (k + 7 * j)).cells.length = 7 := rfl
      omega)))
    exact hA

theorem mark_text_at (z : Int) (n : Nat) (w : World) (hz : z = n) (h0 : 0 < n) (hn : n ≤ 100000000) :
    Calls Try.prog 32 #[.int .i64 z] w fun e w' => e = .returned (.string (markT n)) ∧ Below w.heap.size w w' := by
  subst hz
  exact mark_text n w h0 hn

set_option maxRecDepth 100000 in
set_option maxHeartbeats 2000000 in
theorem mark_cols (B n cap k : Nat) (w : World) (hB : B < w.heap.size) (ht : w.there B 0 (n * 7)) (hk : 0 < k) (hn : k + 7 * n ≤ 100000000) :
    Calls Try.prog 12 #[.slice (some ⟨B, 0, none⟩) n cap, .int .i64 k] w fun e w' => e = .returned (.int .i64 ((k + 7 * n : Nat) : Int)) ∧ Marked w B n k n w' := by
  go_enter Try.func12, Try.ntmps12
  go_wp2_with fail
  go_loopw [1, 5] (fun kv iv wr => ∃ i : Nat, i ≤ n ∧ iv = .int .i64 i ∧ kv = .int .i64 ((k + 7 * i : Nat) : Int) ∧ Hid (Marked w B n k i wr)) (fun _ iv _ => n - (intOf iv).toNat)
  case atStart => exact ⟨0, Nat.zero_le _, rfl, rfl, ⟨Turn.refl _ _, hB, ht, fun j hj => absurd hj (Nat.not_lt_zero _)⟩⟩
  case round =>
    obtain ⟨i, hi, rfl, rfl, hH⟩ := hrel
    clear hB ht
    by_cases hlt : i < n
    · have hix : ∀ wx, (Instr.indexAt 24 (.slice (some ⟨B, 0, none⟩) n cap) (.int .i64 i)).run Try.prog wx = .ok (.pointer (some ⟨B, i * 7, none⟩)) wx := fun wx => by
        have := run_ix 24 _ B 0 n cap i wx hlt Try.underlying24 (Try.sizeOf63 wx)
        rwa [Nat.zero_add] at this
      have hlt' : (i : Int) < n := by omega
      obtain ⟨q, hq⟩ : ∃ q, q = k + 7 * i := ⟨_, rfl⟩
      rw [← hq]
      have hQ : Hid (q = k + 7 * i) := hq
      have hq0 : 0 < q := by omega
      have hq1 : q + 7 ≤ 100000000 := by omega
      clear hq
      go_wp2_with fail
      refine (mark_text q _ hq0 (by omega)).mono ?_
      rintro e w1 ⟨rfl, hb⟩
      have hM : Hid (Marked w B n k i w1) := hH.out.next hb
      obtain ⟨x0, x1, x2, x3, x4, x5, x6, hth⟩ := there7_of hM.out.2.2.1 hlt
      clear hH hb
      go_wp2_with fail
      refine (mark_text_at _ (q + 6) _ (by omega) (by omega) (by omega)).mono ?_
      rintro e w2 ⟨rfl, hb⟩
      have hS : Hid (Six w B n k i [.string (markT q), .int .i64 ((q : Int) + 1), .bool (((q : Int) + 1 + 1) % 3 == 0), .bool (((q : Int) + 1 + 1 + 1) % 3 == 0), .int .i64 ((q : Int) + 1 + 1 + 1 + 1), .int .i64 ((q : Int) + 1 + 1 + 1 + 1 + 1)] w2) := (six_set hM.out hlt _ rfl).next hb
      obtain ⟨y0, y1, y2, y3, y4, y5, y6, hth2⟩ := there7_of hS.out.1.2.2.1 hlt
      have hc6 := hth2.2.2.2.2.2.2.1
      have hf6 := hth2.2.2.2.2.2.2.2.2.2.2.2.2.2
      clear hM hb hth hth2
      go_wp2_with fail
      go_roundw
      case rel =>
        refine ⟨i + 1, by omega, by go_num, ?_, hS.out.last hlt rfl (by rw [← hQ.out]; rfl)⟩
        have := hQ.out
        rw [show k + 7 * (i + 1) = q + 7 by omega]
        go_num
      case measure => simp [intOf]; omega
    · have hkl : i = n := by omega
      subst hkl
      go_wp2_with fail
      go_ret
      exact ⟨rfl, hH.out⟩

end Go.Proofs.Yteckjdoiimifaaa
