/- Values in memory of the call's own: read, appended to, written. -/
import Derived.Test.YtddcmibggdighaaDrC3
import Derived.Test.YtddcmibggdighaaRwA
namespace Go.Proofs.Ytddcmibggdighaa
open Go.RowKit

/-- v is a slice of the values L, in memory from block 'base' on. -/
def OwnVals (base : Nat) (v : Value) (L : List AVal) (W : World) : Prop := W.ownsRow base 29 3 v L.length (L.flatMap AVal.cells) ∧ v ≠ .slice none 0 0
def AVal.small (v : AVal) : Prop := v.s.size ≤ 5

theorem flatv_at (L : List AVal) (i j : Nat) (c : AVal) (v : Value) (hc : L[i]? = some c) (hv : c.cells[j]? = some v) : (L.flatMap AVal.cells)[i * 3 + j]? = some v := by
  induction L generalizing i with
  | nil => simp at hc
  | cons d L ih =>
    have hl : d.cells.length = 3 := rfl
    rw [List.flatMap_cons]
    cases i with
    | zero =>
      simp at hc
      subst hc
      have hj : j < d.cells.length := (List.getElem?_eq_some_iff.1 hv).1
      rw [Nat.zero_mul, Nat.zero_add, List.getElem?_append_left hj]
      exact hv
    | succ i =>
      rw [List.getElem?_append_right (by omega), hl, show (i + 1) * 3 + j - 3 = i * 3 + j by omega]
      exact ih i (by simpa using hc)

theorem OwnVals.cols {base : Nat} {v : Value} {L : List AVal} {W : World} (h : OwnVals base v L W) : ∃ b cap, v = .slice (some ⟨b, 0, none⟩) L.length cap ∧ base ≤ b ∧ ValsAt W (some ⟨b, 0, none⟩) L := by
  obtain ⟨⟨hl, h⟩, hn⟩ := h
  have hown : W.ownsRow base 29 3 v L.length (L.flatMap AVal.cells) := ⟨hl, h⟩
  rcases h with ⟨rfl, h0⟩ | ⟨b, cap, cur, rfl, hb, hblk, _⟩
  · exact absurd rfl hn
  · refine ⟨b, cap, rfl, hb, Or.inr ⟨b, 0, rfl, ?_, fun i c hc j u hu => ?_⟩⟩
    · exact (Array.getElem?_eq_some_iff.1 hblk).1
    · have := hown.cells (g := b) rfl (i * 3 + j) u (flatv_at L i j c u hc hu)
      rw [Addr.add_mid, Nat.zero_add] at this
      rw [Nat.zero_add]
      exact this

theorem OwnVals.upd {base g : Nat} {v : Value} {L : List AVal} {W W' : World} (h : OwnVals base v L W) (hu : Upd g W W') (hg : g < base) : OwnVals base v L W' := by
  refine ⟨World.ownsRow.kept h.1 (grown_of_upd hu) ?_, h.2⟩
  cases hv : v.ownBlock with
  | none => exact Or.inl rfl
  | some k =>
    right
    have := (World.ownsRow.lt h.1 k hv).1
    intro e
    cases e
    omega

theorem OwnVals.at {base n cap : Nat} {a : Option Addr} {L : List AVal} {W : World} (h : OwnVals base (.slice a n cap) L W) : ValsAt W a L := by
  obtain ⟨b', cap', e, _, hc⟩ := h.cols
  cases e
  exact hc

theorem ownv_row {base : Nat} {v : Value} {L : List AVal} {W : World} (h : OwnVals base v L W) : ∀ k, v.ownBlock = some k → base ≤ k := fun k hk => (World.ownsRow.lt h.1 k hk).1
theorem newv_cells (w : World) (c : AVal) (t : TypeId) : ∀ j u, c.cells[j]? = some u → (w.alloc (.cells #[.int .i64 c.k, .int .i64 c.n, .string c.s] t)).cell? ((⟨w.heap.size, 0, none⟩ : Addr).add j) = some u := by
  intro j u hu
  rw [Addr.add_mid, World.cell?_alloc_mark w _ t (0, 0) (0 + j), Nat.zero_add]
  show c.cells.toArray[j]? = some u
  rw [List.getElem?_toArray]
  exact hu
theorem cellsv_one (c : AVal) : ∀ u ∈ c.cells, u.oneCell' = true := by
  intro u hu
  simp [AVal.cells] at hu
  rcases hu with rfl | rfl | rfl <;> rfl
theorem ownv_snoc {base : Nat} {v : Value} {L : List AVal} {c : AVal} {W : World} (h : W.ownsRow base 29 3 v (L.length + 1) (L.flatMap AVal.cells ++ c.cells)) (hn : v ≠ .slice none 0 0) : OwnVals base v (L ++ [c]) W := by
  unfold OwnVals
  rw [List.flatMap_append, List.length_append]
  exact ⟨by simpa using h, hn⟩

theorem flatv_len (L : List AVal) : (L.flatMap AVal.cells).length = L.length * 3 := by
  induction L with
  | nil => rfl
  | cons c L ih =>
    have : c.cells.length = 3 := rfl
    rw [List.flatMap_cons, List.length_append, ih, List.length_cons]
    omega
theorem flatv_one (L : List AVal) : ∀ u ∈ L.flatMap AVal.cells, u.oneCell' = true := by
  intro u hu
  obtain ⟨c, _, hc⟩ := List.mem_flatMap.1 hu
  exact cellsv_one c u hc
theorem flatv_get (L : List AVal) (j : Nat) (u : Value) (h : (L.flatMap AVal.cells)[j]? = some u) : ∃ c, L[j / 3]? = some c ∧ c.cells[j % 3]? = some u := by
  induction L generalizing j with
  | nil => simp at h
  | cons d L ih =>
    have hl : d.cells.length = 3 := rfl
    rw [List.flatMap_cons] at h
    by_cases hj : j < 3
    · rw [List.getElem?_append_left (by omega)] at h
      exact ⟨d, by rw [Nat.div_eq_of_lt hj]; rfl, by rw [Nat.mod_eq_of_lt hj]; exact h⟩
    · rw [List.getElem?_append_right (by omega), hl] at h
      obtain ⟨c, h1, h2⟩ := ih (j - 3) h
      refine ⟨c, ?_, ?_⟩
      · rw [show j / 3 = (j - 3) / 3 + 1 by omega, List.getElem?_cons_succ]; exact h1
      · rw [show j % 3 = (j - 3) % 3 by omega]; exact h2
theorem flatv_cells {W : World} {b o : Nat} {L : List AVal} (h : ValsAt W (some ⟨b, o, none⟩) L) : ∀ j u, (L.flatMap AVal.cells)[j]? = some u → W.cell? ((⟨b, o, none⟩ : Addr).add j) = some u := by
  intro j u hu
  obtain ⟨c, h1, h2⟩ := flatv_get L j u hu
  rcases h with h | ⟨b', o', e, _, hr⟩
  · subst h; simp at h1
  · cases e
    have := hr _ c h1 _ u h2
    rw [Addr.add_mid]
    rwa [show o + j / 3 * 3 + j % 3 = o + j by omega] at this

theorem copyv_head {B g p : Nat} {w W w1 : World} {L : List AVal} {v0 v' : Value} (hr : Rd B g p W) (hu : Upd g w W) (hown0 : W.ownsRow w.heap.size 29 3 v0 0 []) (hn0 : v0 ≠ .slice none 0 0)
    (hown1 : w1.ownsRow w.heap.size 29 3 v' (0 + L.length) ([] ++ L.flatMap AVal.cells)) (hgrow : W.grownBy w1 v0.ownBlock) (hnil : v' = .slice none 0 0 ↔ v0 = .slice none 0 0 ∧ L.length = 0) (hg : g < w.heap.size) (hBw : B ≤ w.heap.size) :
    ∃ b1 cap1, v' = .slice (some ⟨b1, 0, none⟩) L.length cap1 ∧ w.heap.size ≤ b1 ∧ Hid (OwnVals w.heap.size (.slice (some ⟨b1, 0, none⟩) L.length cap1) L w1 ∧ Rd B g p w1 ∧ Upd g w w1) := by
  have hne1 : v' ≠ .slice none 0 0 := fun e => hn0 (hnil.1 e).1
  have hO1 : OwnVals w.heap.size v' L w1 := ⟨by rw [Nat.zero_add, List.nil_append] at hown1; exact hown1, hne1⟩
  have hR1 := grown_rd hr hu hgrow (fun k hk => (World.ownsRow.lt hown0 k hk).1) hg hBw (Nat.le_refl _)
  obtain ⟨b1, cap1, rfl, hb1, _⟩ := hO1.cols
  exact ⟨b1, cap1, rfl, hb1, hO1, hR1.1, hR1.2⟩

theorem flatv_set (L : List AVal) (k j : Nat) (c d : AVal) (u : Value) (hc : L[k]? = some c) (hd : d.cells = c.cells.set j u) (hj : j < 3) : (L.flatMap AVal.cells).set (k * 3 + j) u = (L.set k d).flatMap AVal.cells := by
  induction L generalizing k with
  | nil => simp at hc
  | cons e L ih =>
    have hl : e.cells.length = 3 := rfl
    rw [List.flatMap_cons]
    cases k with
    | zero =>
      simp at hc
      subst hc
      rw [Nat.zero_mul, Nat.zero_add, List.set_append_left _ _ (by omega), List.set_cons_zero, List.flatMap_cons, hd]
    | succ k =>
      rw [List.set_append_right _ _ (by omega), hl, List.set_cons_succ, List.flatMap_cons, show (k + 1) * 3 + j - 3 = k * 3 + j by omega, ih k (by simpa using hc)]

/-- The copy lies in W, the reader beside it, and W lies over w. -/
def BentV (B g base b1 cap1 q : Nat) (w : World) (L : List AVal) (W : World) : Prop := OwnVals base (.slice (some ⟨b1, 0, none⟩) L.length cap1) L W ∧ Rd B g q W ∧ Upd g w W
theorem BentV.upd {B g base b1 cap1 q q' : Nat} {w : World} {L : List AVal} {W W' : World} (h : BentV B g base b1 cap1 q w L W) (hg : g < base) (hr : Rd B g q' W') (hu : Upd g W W') : BentV B g base b1 cap1 q' w L W' := ⟨h.1.upd hu hg, hr, h.2.2.trans hu⟩
theorem BentV.alloc {B g base b1 cap1 q : Nat} {w : World} {L : List AVal} {W : World} (h : BentV B g base b1 cap1 q w L W) (hg : g < base) (x : Obj) : BentV B g base b1 cap1 q w L (W.alloc x) :=
  ⟨h.1.upd (Upd.ofBelow (alloc_below _ _)) hg, h.2.1.keep (alloc_below _ _), h.2.2.trans (Upd.ofBelow (alloc_below _ _))⟩
theorem BentV.set {B g base b1 cap1 q : Nat} {w : World} {L : List AVal} {W : World} (h : BentV B g base b1 cap1 q w L W) (hg : g < base) (hB : B ≤ base) (hw : w.heap.size ≤ base) (hb1 : base ≤ b1) {k j : Nat} {c d : AVal} {u : Value} (hc : L[k]? = some c) (hd : d.cells = c.cells.set j u) (hj : j < 3) :
    BentV B g base b1 cap1 q w (L.set k d) (W.setCell ⟨b1, k * 3 + j, none⟩ u) := by
  obtain ⟨ho, hr, hu⟩ := h
  have hs := World.ownsRow.stored ho.1 (k * 3 + j) u
  rw [flatv_set L k j c d u hc hd hj] at hs
  refine ⟨⟨by rw [List.length_set]; exact hs.1, by simp⟩, hr.other (upd_of_grown hs.2) (by omega) (by omega), hu.other (upd_of_grown hs.2) (by omega)⟩
theorem BentV.cells {B g base b1 cap1 q : Nat} {w : World} {L : List AVal} {W : World} (h : BentV B g base b1 cap1 q w L W) {k : Nat} {c : AVal} (hc : L[k]? = some c) : Cells3 W b1 (k * 3) c := by
  obtain ⟨hk, rfl⟩ := List.getElem?_eq_some_iff.1 hc
  obtain ⟨b', o', e, _, hr⟩ := h.1.at.at hk
  cases e
  rw [Nat.zero_add] at hr
  exact cells3_of hr
theorem BentV.soft {B g base b1 cap1 q : Nat} {w : World} {L : List AVal} {W : World} (h : BentV B g base b1 cap1 q w L W) (j : Nat) : W.frozen? ⟨b1, j, none⟩ = false := World.ownsRow.frozenAt h.1.1 j
theorem smallv_set {L : List AVal} (h : ∀ c ∈ L, c.small) (k : Nat) {d : AVal} (hd : d.small) : ∀ c ∈ L.set k d, c.small := fun c hc => by
  rcases List.mem_or_eq_of_mem_set hc with hc | rfl
  · exact h c hc
  · exact hd

theorem BentV.fin {B g base b1 cap1 q k : Nat} {d : AVal} {w : World} {L : List AVal} {W : World} (h : BentV B g base b1 cap1 q w (L.set k d) W) : OwnVals base (.slice (some ⟨b1, 0, none⟩) L.length cap1) (L.set k d) W := by
  have := h.1
  rw [List.length_set] at this
  exact this
theorem ValsAt.upd {W W' : World} {b o g : Nat} {V : List AVal} (h : ValsAt W (some ⟨b, o, none⟩) V) (hu : Upd g W W') (hne : b ≠ g) : ValsAt W' (some ⟨b, o, none⟩) V := by
  rcases h with h | ⟨b', o', e, hlt, hr⟩
  · exact Or.inl h
  · cases e
    refine Or.inr ⟨b, o, rfl, Nat.lt_of_lt_of_le hlt hu.size, fun i c hc j v hv => ?_⟩
    rw [(ucell hu).1 _ _ hlt hne]
    exact hr i c hc j v hv
theorem ColsAt.upd {W W' : World} {b o g : Nat} {L : List ACol} (h : ColsAt W (some ⟨b, o, none⟩) L) (hu : Upd g W W') (hne : b ≠ g) : ColsAt W' (some ⟨b, o, none⟩) L := by
  rcases h with h | ⟨b', o', e, hlt, hr⟩
  · exact Or.inl h
  · cases e
    refine Or.inr ⟨b, o, rfl, Nat.lt_of_lt_of_le hlt hu.size, fun i c hc j v hv => ?_⟩
    rw [(ucell hu).1 _ _ hlt hne]
    exact hr i c hc j v hv
theorem ValsAt.tail {W : World} {b o : Nat} {v : AVal} {V : List AVal} (h : ValsAt W (some ⟨b, o, none⟩) (v :: V)) : ValsAt W (some ⟨b, o + 3, none⟩) V := by
  rcases h with h | ⟨b', o', e, hlt, hr⟩
  · cases h
  · cases e
    refine Or.inr ⟨b, o + 3, rfl, hlt, fun i c hc j u hu => ?_⟩
    have := hr (i + 1) c (by simpa using hc) j u hu
    rwa [show o + (i + 1) * 3 + j = o + 3 + i * 3 + j by omega] at this

end Go.Proofs.Ytddcmibggdighaa
