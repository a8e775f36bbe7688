/- The contract of laws.toValS, over the seat's translation. -/
import Derived.Test.YtfnbmklmepnnpaaRwS1
import Derived.Test.YtfnbmklmepnnpaaCv
namespace Go.Proofs.Ytfnbmklmepnnpaa
open Go.RowKit

/-- Block B is a row of n values that may be written; its first k are those of L; below B the world is as in w. -/
def MadeV (w : World) (B n k : Nat) (L : List AVal) (W : World) : Prop :=
  Below B w W ∧ B < W.heap.size ∧ W.there B 0 (n * 3) ∧ ∀ i c, i < k → L[i]? = some c → W.rangeAt B (i * 3) c.cells

theorem MadeV.keep {w : World} {B n k : Nat} {L : List AVal} {W W' : World} (h : MadeV w B n k L W) (hb : Below W.heap.size W W') : MadeV w B n k L W' := by
  obtain ⟨h1, h2, h3, h4⟩ := h
  have hz := hb.size
  have hc := (bcell hb).1
  have hf := (bcell hb).2
  refine ⟨h1.trans (hb.mono (by omega)), by omega, fun j hj => ?_, fun i c hi hc' j v hv => ?_⟩
  · rw [hc _ _ h2, hf _ _ h2]; exact h3 j hj
  · rw [hc _ _ h2]; exact h4 i c hi hc' j v hv

theorem MadeV.put {w : World} {B n k : Nat} {L : List AVal} {W : World} {c : AVal} (h : MadeV w B n k L W) (hk : k < n) (hc : L[k]? = some c) : MadeV w B n (k + 1) L (W.setCells B (k * 3) c.cells) := by
  obtain ⟨h1, h2, h3, h4⟩ := h
  have hlen : c.cells.length = 3 := rfl
  refine ⟨?_, ?_, World.there_setCells h3 _ _ _, fun i d hi hd => ?_⟩
  · have : ∀ (vs : List Value) (o : Nat) (V : World), Below B w V → Below B w (V.setCells B o vs) := by
      intro vs
      induction vs with
      | nil => intro o V hV; exact hV
      | cons v r ih => intro o V hV; exact ih _ _ (hV.setCell (Nat.le_refl _) v)
    exact this _ _ _ h1
  · have : ∀ (vs : List Value) (o : Nat) (V : World), B < V.heap.size → B < (V.setCells B o vs).heap.size := by
      intro vs
      induction vs with
      | nil => intro o V hV; exact hV
      | cons v r ih => intro o V hV; exact ih _ _ (by simpa [World.setCell] using hV)
    exact this _ _ _ h2
  · by_cases hik : i = k
    · subst hik
      rw [hc] at hd
      cases hd
      exact World.rangeAt_setCells_same _ _ _ _ (fun j hj => by
        have := h3 (i * 3 + j) (by rw [hlen] at hj; omega)
        rwa [Nat.zero_add] at this)
    · refine World.rangeAt_setCells_apart (h4 i d (by omega) hd) _ _ _ (Or.inr (Or.inl ?_))
      have : d.cells.length = 3 := rfl
      omega

theorem MadeV.start (w : World) (n : Nat) (L : List AVal) (z : Array Value) (t : TypeId) : MadeV w w.heap.size n 0 L (w.alloc (.cells (madeCells z (n * 3)) t)) := by
  refine ⟨(Below.refl _ _).alloc (Nat.le_refl _) _, by simp, fun j hj => ?_, fun i c hi => absurd hi (Nat.not_lt_zero _)⟩
  have hb : (w.alloc (.cells (madeCells z (n * 3)) t)).heap[w.heap.size]? = some (.cells (madeCells z (n * 3)) t) := by
    show (w.heap.push _)[w.heap.size]? = _
    simp
  constructor
  · simp only [World.cell?, hb]
    simp [madeCells, hj]
  · simp only [World.frozen?, hb]
    simp

theorem MadeV.vals {w : World} {B n : Nat} {L : List AVal} {W : World} (h : MadeV w B n L.length L W) : ValsAt W (some ⟨B, 0, none⟩) L :=
  Or.inr ⟨B, 0, rfl, h.2.1, fun i c hc => by rw [Nat.zero_add]; exact h.2.2.2 i c (List.getElem?_eq_some_iff.1 hc).1 hc⟩

/-- Three cells at an offset, which may be written. -/
abbrev There3 (W : World) (b o : Nat) : Prop :=
  ∃ x0 x1 x2, W.cell? ⟨b, o, none⟩ = some x0 ∧ W.cell? ⟨b, o + 1, none⟩ = some x1 ∧ W.cell? ⟨b, o + 2, none⟩ = some x2 ∧
    W.frozen? ⟨b, o, none⟩ = false ∧ W.frozen? ⟨b, o + 1, none⟩ = false ∧ W.frozen? ⟨b, o + 2, none⟩ = false
theorem there3_of {W : World} {b n k : Nat} (h : W.there b 0 (n * 3)) (hk : k < n) : There3 W b (k * 3) := by
  have hh : ∀ j, j < 3 → (∃ x, W.cell? ⟨b, k * 3 + j, none⟩ = some x) ∧ W.frozen? ⟨b, k * 3 + j, none⟩ = false := fun j hj => by
    have := h (k * 3 + j) (by omega)
    rw [Nat.zero_add] at this
    exact ⟨Option.isSome_iff_exists.1 this.1, this.2⟩
  obtain ⟨⟨x0, a0⟩, b0⟩ := hh 0 (by omega)
  obtain ⟨⟨x1, a1⟩, b1⟩ := hh 1 (by omega)
  obtain ⟨⟨x2, a2⟩, b2⟩ := hh 2 (by omega)
  exact ⟨x0, x1, x2, a0, a1, a2, b0, b1, b2⟩

set_option maxRecDepth 100000 in
set_option maxHeartbeats 1000000 in
theorem to_vals (a : Option Addr) (cap : Nat) (L : List AVal) (w : World) (hL : ValsAt w a L) (hm : L.length ≤ 1048576) :
    Calls Try.prog 8 #[.slice a L.length cap] w fun e w' => e = .returned (.slice (some ⟨w.heap.size, 0, none⟩) L.length L.length) ∧ MadeV w w.heap.size L.length L.length L w' := by
  obtain ⟨i0, hi, hz, hsz, hby⟩ := Try.info42
  have hmk : ∀ wx, (Instr.makeSlice 29 (.int .i64 L.length) (.int .i64 L.length)).run Try.prog wx = .ok (.slice (some ⟨wx.heap.size, 0, none⟩) L.length L.length) (wx.alloc (.cells (madeCells #[.int .i64 0, .int .i64 0, .string ⟨#[]⟩] (L.length * 3)) 42)) := fun wx => by
    have h := run_make (P := Try.prog) wx 29 42 i0 _ Try.underlying29 hi hz .i64 .i64 L.length L.length (by omega) (by omega) (by have : (i0.bytes : Int) * L.length ≤ 128 * 1048576 := Int.mul_le_mul (by omega) (by omega) (by omega) (by omega); omega) (by omega)
    rw [hsz] at h
    simpa [Value.cells] using h
  clear hi hz hsz hby
  go_enter Try.func8, Try.ntmps8
  go_wp2_with fail
  have hst := MadeV.start w L.length L #[.int .i64 0, .int .i64 0, .string ⟨#[]⟩] 42
  go_loopw [4] (fun i wr => ∃ k : Nat, k ≤ L.length ∧ i = .int .i64 k ∧ Hid (MadeV w w.heap.size L.length k L wr)) (fun i _ => L.length - (intOf i).toNat)
  case atStart => exact ⟨0, Nat.zero_le _, rfl, hst⟩
  case round =>
    obtain ⟨k, hk, rfl, hH⟩ := hrel
    clear hst hmk
    by_cases hlt : k < L.length
    · obtain ⟨b, o, hab, hbl, hr⟩ := (hL.keep hH.out.1).at hlt
      have hck := List.getElem?_eq_getElem hlt
      revert hr hck
      generalize L[k] = c
      intro hr hck
      have hix : ∀ wx, (Instr.indexAt 23 (.slice a L.length cap) (.int .i64 k)).run Try.prog wx = .ok (.pointer (some ⟨b, o + k * 3, none⟩)) wx := fun wx => by
        rw [hab]; exact run_ix3 _ _ _ _ _ _ _ wx hlt Try.underlying23 (Try.sizeOf36 wx)
      have hld := cells3_of hr
      have hck' : Hid (L[k]? = some c) := hck
      clear hab hr hL hck
      go_wp2_with fail
      refine (to_val _ _ _ _).mono ?_
      rintro e w' ⟨rfl, hq⟩
      have hM : Hid (MadeV w w.heap.size L.length k L w') := hH.out.keep hq
      obtain ⟨x0, x1, x2, hth⟩ := there3_of hM.out.2.2.1 hlt
      clear hH hq hld
      go_wp2_with fail
      go_roundw
      case rel => exact ⟨k + 1, by omega, by go_num, hM.out.put hlt hck'.out⟩
      case measure => simp [intOf]; omega
    · have hkl : k = L.length := by omega
      subst hkl
      go_wp2_with fail
      go_ret
      exact ⟨rfl, hH.out⟩

end Go.Proofs.Ytfnbmklmepnnpaa
