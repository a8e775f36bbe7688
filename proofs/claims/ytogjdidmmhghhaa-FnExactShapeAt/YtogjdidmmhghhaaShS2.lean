/- The contract of laws.toColS, over the seat's translation. -/
import Derived.Test.YtogjdidmmhghhaaShS1
namespace Go.Proofs.Ytogjdidmmhghhaa
open Go.RowKit

/-- Block B is a row of n columns that may be written; its first k are those of L; below B the world is as in w. -/
def Made (w : World) (B n k : Nat) (L : List ACol) (W : World) : Prop :=
  Below B w W ∧ B < W.heap.size ∧ W.there B 0 (n * 7) ∧ ∀ i c, i < k → L[i]? = some c → W.rangeAt B (i * 7) c.cells

theorem Made.keep {w : World} {B n k : Nat} {L : List ACol} {W W' : World} (h : Made w B n k L W) (hb : Below W.heap.size W W') : Made w B n k L W' := by
  obtain ⟨h1, h2, h3, h4⟩ := h
  have hz := hb.size
  have hc := (bcell hb).1
  have hf := (bcell hb).2
  refine ⟨h1.trans (hb.mono (by omega)), by omega, fun j hj => ?_, fun i c hi hc' j v hv => ?_⟩
  · rw [hc _ _ h2, hf _ _ h2]; exact h3 j hj
  · rw [hc _ _ h2]; exact h4 i c hi hc' j v hv

theorem Made.put {w : World} {B n k : Nat} {L : List ACol} {W : World} {c : ACol} (h : Made w B n k L W) (hk : k < n) (hc : L[k]? = some c) : Made w B n (k + 1) L (W.setCells B (k * 7) c.cells) := by
  obtain ⟨h1, h2, h3, h4⟩ := h
  have hlen : c.cells.length = 7 := rfl
  refine ⟨?_, ?_, World.there_setCells h3 _ _ _, fun i d hi hd => ?_⟩
  · have : ∀ (vs : List Value) (o : Nat) (V : World), Below B w V → Below B w (V.setCells B o vs) := by
      intro vs
      induction vs with
      | nil => intro o V hV; exact hV
      | cons v r ih => intro o V hV; exact ih _ _ (hV.setCell (Nat.le_refl _) v)
    exact this _ _ _ h1
  · have : ∀ (vs : List Value) (o : Nat) (V : World), B < V.heap.size → B < (V.setCells B o vs).heap.size := by
      intro vs
      induction vs with
      | nil => intro o V hV; exact hV
      | cons v r ih => intro o V hV; exact ih _ _ (by simpa [World.setCell] using hV)
    exact this _ _ _ h2
  · by_cases hik : i = k
    · subst hik
      rw [hc] at hd
      cases hd
      exact World.rangeAt_setCells_same _ _ _ _ (fun j hj => by
        have := h3 (i * 7 + j) (by rw [hlen] at hj; omega)
        rwa [Nat.zero_add] at this)
    · refine World.rangeAt_setCells_apart (h4 i d (by omega) hd) _ _ _ (Or.inr (Or.inl ?_))
      have : d.cells.length = 7 := rfl
      omega

theorem Made.start (w : World) (n : Nat) (L : List ACol) (z : Array Value) (t : TypeId) : Made w w.heap.size n 0 L (w.alloc (.cells (madeCells z (n * 7)) t)) := by
  refine ⟨(Below.refl _ _).alloc (Nat.le_refl _) _, by simp, fun j hj => ?_, fun i c hi => absurd hi (Nat.not_lt_zero _)⟩
  have hb : (w.alloc (.cells (madeCells z (n * 7)) t)).heap[w.heap.size]? = some (.cells (madeCells z (n * 7)) t) := by
    show (w.heap.push _)[w.heap.size]? = _
    simp
  constructor
  · simp only [World.cell?, hb]
    simp [madeCells, hj]
  · simp only [World.frozen?, hb]
    simp

theorem Made.cols {w : World} {B n : Nat} {L : List ACol} {W : World} (h : Made w B n L.length L W) : ColsAt W (some ⟨B, 0, none⟩) L :=
  Or.inr ⟨B, 0, rfl, h.2.1, fun i c hc => by rw [Nat.zero_add]; exact h.2.2.2 i c (List.getElem?_eq_some_iff.1 hc).1 hc⟩

/-- Seven cells at an offset, which may be written. -/
abbrev There7 (W : World) (b o : Nat) : Prop :=
  ∃ x0 x1 x2 x3 x4 x5 x6, W.cell? ⟨b, o, none⟩ = some x0 ∧ W.cell? ⟨b, o + 1, none⟩ = some x1 ∧ W.cell? ⟨b, o + 2, none⟩ = some x2 ∧ W.cell? ⟨b, o + 3, none⟩ = some x3 ∧ W.cell? ⟨b, o + 4, none⟩ = some x4 ∧ W.cell? ⟨b, o + 5, none⟩ = some x5 ∧ W.cell? ⟨b, o + 6, none⟩ = some x6 ∧
    W.frozen? ⟨b, o, none⟩ = false ∧ W.frozen? ⟨b, o + 1, none⟩ = false ∧ W.frozen? ⟨b, o + 2, none⟩ = false ∧ W.frozen? ⟨b, o + 3, none⟩ = false ∧ W.frozen? ⟨b, o + 4, none⟩ = false ∧ W.frozen? ⟨b, o + 5, none⟩ = false ∧ W.frozen? ⟨b, o + 6, none⟩ = false
theorem there7_of {W : World} {b n k : Nat} (h : W.there b 0 (n * 7)) (hk : k < n) : There7 W b (k * 7) := by
  have hh : ∀ j, j < 7 → (∃ x, W.cell? ⟨b, k * 7 + j, none⟩ = some x) ∧ W.frozen? ⟨b, k * 7 + j, none⟩ = false := fun j hj => by
    have := h (k * 7 + j) (by omega)
    rw [Nat.zero_add] at this
    exact ⟨Option.isSome_iff_exists.1 this.1, this.2⟩
  obtain ⟨⟨x0, a0⟩, b0⟩ := hh 0 (by omega)
  obtain ⟨⟨x1, a1⟩, b1⟩ := hh 1 (by omega)
  obtain ⟨⟨x2, a2⟩, b2⟩ := hh 2 (by omega)
  obtain ⟨⟨x3, a3⟩, b3⟩ := hh 3 (by omega)
  obtain ⟨⟨x4, a4⟩, b4⟩ := hh 4 (by omega)
  obtain ⟨⟨x5, a5⟩, b5⟩ := hh 5 (by omega)
  obtain ⟨⟨x6, a6⟩, b6⟩ := hh 6 (by omega)
  exact ⟨x0, x1, x2, x3, x4, x5, x6, a0, a1, a2, a3, a4, a5, a6, b0, b1, b2, b3, b4, b5, b6⟩

set_option maxHeartbeats 1000000 in
theorem to_cols (a : Option Addr) (cap : Nat) (L : List ACol) (w : World) (hL : ColsAt w a L) (hm : L.length ≤ 1048576) :
    Calls Try.prog 7 #[.slice a L.length cap] w fun e w' => e = .returned (.slice (some ⟨w.heap.size, 0, none⟩) L.length L.length) ∧ Made w w.heap.size L.length L.length L w' := by
  obtain ⟨i0, hi, hz, hsz, hby⟩ := Try.info38
  have hmk : ∀ wx, (Instr.makeSlice 25 (.int .i64 L.length) (.int .i64 L.length)).run Try.prog wx = .ok (.slice (some ⟨wx.heap.size, 0, none⟩) L.length L.length) (wx.alloc (.cells (madeCells #[.string ⟨#[]⟩, .int .i64 0, .bool false, .bool false, .int .i64 0, .int .i64 0, .string ⟨#[]⟩] (L.length * 7)) 38)) := fun wx => by
    have h := run_make (P := Try.prog) wx 25 38 i0 _ Try.underlying25 hi hz .i64 .i64 L.length L.length (by omega) (by omega) (by have : (i0.bytes : Int) * L.length ≤ 128 * 1048576 := Int.mul_le_mul (by omega) (by omega) (by omega) (by omega); omega) (by omega)
    rw [hsz] at h
    simpa [Value.cells] using h
  clear hi hz hsz hby
  go_enter Try.func7, Try.ntmps7
  go_wp2_with fail
  have hst := Made.start w L.length L #[.string ⟨#[]⟩, .int .i64 0, .bool false, .bool false, .int .i64 0, .int .i64 0, .string ⟨#[]⟩] 38
  go_loopw [4] (fun i wr => ∃ k : Nat, k ≤ L.length ∧ i = .int .i64 k ∧ Hid (Made w w.heap.size L.length k L wr)) (fun i _ => L.length - (intOf i).toNat)
  case atStart => exact ⟨0, Nat.zero_le _, rfl, hst⟩
  case round =>
    obtain ⟨k, hk, rfl, hH⟩ := hrel
    clear hst hmk
    by_cases hlt : k < L.length
    · obtain ⟨b, o, hab, hbl, hr⟩ := (hL.keep hH.out.1).at hlt
      have hck := List.getElem?_eq_getElem hlt
      revert hr hck
      generalize L[k] = c
      intro hr hck
      have hix : ∀ wx, (Instr.indexAt 22 (.slice a L.length cap) (.int .i64 k)).run Try.prog wx = .ok (.pointer (some ⟨b, o + k * 7, none⟩)) wx := fun wx => by
        rw [hab]; exact run_ix _ _ _ _ _ _ _ wx hlt Try.underlying22 (Try.sizeOf34 wx)
      have hld := cells7_of hr
      have hck' : Hid (L[k]? = some c) := hck
      clear hab hr hL hck
      go_wp2_with fail
      refine (to_col _ _ _ _ _ _ _ _).mono ?_
      rintro e w' ⟨rfl, hq⟩
      have hM : Hid (Made w w.heap.size L.length k L w') := hH.out.keep hq
      obtain ⟨x0, x1, x2, x3, x4, x5, x6, hth⟩ := there7_of hM.out.2.2.1 hlt
      clear hH hq hld
      go_wp2_with fail
      go_roundw
      case rel => exact ⟨k + 1, by omega, by go_num, hM.out.put hlt hck'.out⟩
      case measure => simp [intOf]; omega
    · have hkl : k = L.length := by omega
      subst hkl
      go_wp2_with fail
      go_ret
      exact ⟨rfl, hH.out⟩

end Go.Proofs.Ytogjdidmmhghhaa
