/- The contracts of laws.toLink and laws.toLinkS, over the seat's translation. -/
import Derived.Test.YteckjdoiimifaaaBsZ
import Derived.Test.YteckjdoiimifaaaTsC4
namespace Go.Proofs.Yteckjdoiimifaaa
open Go.RowKit

set_option maxRecDepth 100000 in
set_option maxHeartbeats 1000000 in
theorem to_link (fr co tt : ByteArray) (hw : Int) (w : World) :
    Calls Try.prog 78 #[.agg #[.string fr, .string co, .string tt, .int .i64 hw]] w fun e w' => e = .returned (.agg #[.string fr, .string co, .string tt, .int .i64 hw]) ∧ Below w.heap.size w w' := by
  go_enter Try.func78, Try.ntmps78
  go_wp2
  exact bodyPost_ret (v := .agg #[.string fr, .string co, .string tt, .int .i64 hw]) (by simp [results, Try.results78, go_sem]) rfl ⟨rfl, ((((Below.refl _ _).alloc (Nat.le_refl _) _).alloc (by simp) _).alloc (by simp; omega) _)⟩

theorem Try.info88 : ∃ i, Try.prog.info? 88 = some i ∧ i.zero = some (.agg #[.string ⟨#[]⟩, .string ⟨#[]⟩, .string ⟨#[]⟩, .int .i64 0]) ∧ i.size = 4 ∧ i.bytes ≤ 128 := by
  have h : (Try.prog.info? 88).map (fun i => (i.zero, i.size, decide (i.bytes ≤ 128))) = some (some (.agg #[.string ⟨#[]⟩, .string ⟨#[]⟩, .string ⟨#[]⟩, .int .i64 0]), 4, true) := by kernel_rfl
  obtain ⟨i, hi, he⟩ := Option.map_eq_some_iff.1 h
  simp only [Prod.mk.injEq, decide_eq_true_eq] at he
  exact ⟨i, hi, he.1, he.2.1, he.2.2⟩

/-- Block B is a row of n links that may be written; its first k are those of L; below B the world is as in w. -/
def MadeL (w : World) (B n k : Nat) (L : List ALnk) (W : World) : Prop :=
  Below B w W ∧ B < W.heap.size ∧ W.there B 0 (n * 4) ∧ ∀ i c, i < k → L[i]? = some c → W.rangeAt B (i * 4) c.cells

theorem MadeL.keep {w : World} {B n k : Nat} {L : List ALnk} {W W' : World} (h : MadeL w B n k L W) (hb : Below W.heap.size W W') : MadeL w B n k L W' := by
  obtain ⟨h1, h2, h3, h4⟩ := h
  have hz := hb.size
  have hc := (bcell hb).1
  have hf := (bcell hb).2
  refine ⟨h1.trans (hb.mono (by omega)), by omega, fun j hj => ?_, fun i c hi hc' j v hv => ?_⟩
  · rw [hc _ _ h2, hf _ _ h2]; exact h3 j hj
  · rw [hc _ _ h2]; exact h4 i c hi hc' j v hv

theorem MadeL.put {w : World} {B n k : Nat} {L : List ALnk} {W : World} {c : ALnk} (h : MadeL w B n k L W) (hk : k < n) (hc : L[k]? = some c) : MadeL w B n (k + 1) L (W.setCells B (k * 4) c.cells) := by
  obtain ⟨h1, h2, h3, h4⟩ := h
  have hlen : c.cells.length = 4 := rfl
  refine ⟨below_sets h1 _ _, by rw [size_sets]; exact h2, World.there_setCells h3 _ _ _, fun i d hi hd => ?_⟩
  by_cases hik : i = k
  · subst hik
    rw [hc] at hd
    cases hd
    exact World.rangeAt_setCells_same _ _ _ _ (fun j hj => by
      have := h3 (i * 4 + j) (by rw [hlen] at hj; omega)
      rwa [Nat.zero_add] at this)
  · refine World.rangeAt_setCells_apart (h4 i d (by omega) hd) _ _ _ (Or.inr (Or.inl ?_))
    have : d.cells.length = 4 := rfl
    omega

theorem MadeL.start (w : World) (n : Nat) (L : List ALnk) (z : Array Value) (t : TypeId) : MadeL w w.heap.size n 0 L (w.alloc (.cells (madeCells z (n * 4)) t)) := by
  refine ⟨(Below.refl _ _).alloc (Nat.le_refl _) _, by simp, fun j hj => ?_, fun i c hi => absurd hi (Nat.not_lt_zero _)⟩
  have hb : (w.alloc (.cells (madeCells z (n * 4)) t)).heap[w.heap.size]? = some (.cells (madeCells z (n * 4)) t) := by
    show (w.heap.push _)[w.heap.size]? = _
    simp
  constructor
  · simp only [World.cell?, hb]
    simp [madeCells, hj]
  · simp only [World.frozen?, hb]
    simp

theorem MadeL.lnks {w : World} {B n : Nat} {L : List ALnk} {W : World} (h : MadeL w B n L.length L W) : LnksAt W (some ⟨B, 0, none⟩) L :=
  Or.inr ⟨B, 0, rfl, h.2.1, fun i c hc => by rw [Nat.zero_add]; exact h.2.2.2 i c (List.getElem?_eq_some_iff.1 hc).1 hc⟩

/-- Four cells at an offset, which may be written. -/
abbrev There4 (W : World) (b o : Nat) : Prop :=
  ∃ x0 x1 x2 x3, W.cell? ⟨b, o, none⟩ = some x0 ∧ W.cell? ⟨b, o + 1, none⟩ = some x1 ∧ W.cell? ⟨b, o + 2, none⟩ = some x2 ∧ W.cell? ⟨b, o + 3, none⟩ = some x3 ∧
    W.frozen? ⟨b, o, none⟩ = false ∧ W.frozen? ⟨b, o + 1, none⟩ = false ∧ W.frozen? ⟨b, o + 2, none⟩ = false ∧ W.frozen? ⟨b, o + 3, none⟩ = false
theorem there4_of {W : World} {b n k : Nat} (h : W.there b 0 (n * 4)) (hk : k < n) : There4 W b (k * 4) := by
  have hh : ∀ j, j < 4 → (∃ x, W.cell? ⟨b, k * 4 + j, none⟩ = some x) ∧ W.frozen? ⟨b, k * 4 + j, none⟩ = false := fun j hj => by
    have := h (k * 4 + j) (by omega)
    rw [Nat.zero_add] at this
    exact ⟨Option.isSome_iff_exists.1 this.1, this.2⟩
  obtain ⟨⟨x0, a0⟩, b0⟩ := hh 0 (by omega)
  obtain ⟨⟨x1, a1⟩, b1⟩ := hh 1 (by omega)
  obtain ⟨⟨x2, a2⟩, b2⟩ := hh 2 (by omega)
  obtain ⟨⟨x3, a3⟩, b3⟩ := hh 3 (by omega)
  exact ⟨x0, x1, x2, x3, a0, a1, a2, a3, b0, b1, b2, b3⟩

set_option maxRecDepth 100000 in
set_option maxHeartbeats 1000000 in
theorem to_links (a : Option Addr) (cap : Nat) (L : List ALnk) (w : World) (hL : LnksAt w a L) (hm : L.length ≤ 1048576) :
    Calls Try.prog 51 #[.slice a L.length cap] w fun e w' => e = .returned (.slice (some ⟨w.heap.size, 0, none⟩) L.length L.length) ∧ MadeL w w.heap.size L.length L.length L w' := by
  obtain ⟨i0, hi, hz, hsz, hby⟩ := Try.info88
  have hmk : ∀ wx, (Instr.makeSlice 50 (.int .i64 L.length) (.int .i64 L.length)).run Try.prog wx = .ok (.slice (some ⟨wx.heap.size, 0, none⟩) L.length L.length) (wx.alloc (.cells (madeCells #[.string ⟨#[]⟩, .string ⟨#[]⟩, .string ⟨#[]⟩, .int .i64 0] (L.length * 4)) 88)) := fun wx => by
    have h := run_make (P := Try.prog) wx 50 88 i0 _ Try.underlying50 hi hz .i64 .i64 L.length L.length (by omega) (by omega) (by have : (i0.bytes : Int) * L.length ≤ 128 * 1048576 := Int.mul_le_mul (by omega) (by omega) (by omega) (by omega); omega) (by omega)
    rw [hsz] at h
    simpa [Value.cells] using h
  clear hi hz hsz hby
  go_enter Try.func51, Try.ntmps51
  go_wp2_with fail
  have hst := MadeL.start w L.length L #[.string ⟨#[]⟩, .string ⟨#[]⟩, .string ⟨#[]⟩, .int .i64 0] 88
  go_loopw [4] (fun i wr => ∃ k : Nat, k ≤ L.length ∧ i = .int .i64 k ∧ Hid (MadeL w w.heap.size L.length k L wr)) (fun i _ => L.length - (intOf i).toNat)
  case atStart => exact ⟨0, Nat.zero_le _, rfl, hst⟩
  case round =>
    obtain ⟨k, hk, rfl, hH⟩ := hrel
    clear hst hmk
    by_cases hlt : k < L.length
    · obtain ⟨b, o, hab, hbl, hr⟩ := (hL.keep hH.out.1).at hlt
      have hck := List.getElem?_eq_getElem hlt
      revert hr hck
      generalize L[k] = c
      intro hr hck
      have hix : ∀ wx, (Instr.indexAt 44 (.slice a L.length cap) (.int .i64 k)).run Try.prog wx = .ok (.pointer (some ⟨b, o + k * 4, none⟩)) wx := fun wx => by
        rw [hab]; exact run_ixk 4 _ _ _ _ _ _ _ wx hlt Try.underlying44 (Try.sizeOf119 wx)
      have hld := cellsL_of hr
      have hck' : Hid (L[k]? = some c) := hck
      clear hab hr hL hck
      go_wp2_with fail
      refine (to_link _ _ _ _ _).mono ?_
      rintro e w' ⟨rfl, hq⟩
      have hM : Hid (MadeL w w.heap.size L.length k L w') := hH.out.keep hq
      obtain ⟨x0, x1, x2, x3, hth⟩ := there4_of hM.out.2.2.1 hlt
      clear hH hq hld
      go_wp2_with fail
      go_roundw
      case rel => exact ⟨k + 1, by omega, by go_num, hM.out.put hlt hck'.out⟩
      case measure => simp [intOf]; omega
    · have hkl : k = L.length := by omega
      subst hkl
      go_wp2_with fail
      go_ret
      exact ⟨rfl, hH.out⟩

end Go.Proofs.Yteckjdoiimifaaa
