/- Columns copied into memory of the call's own: the contract of impl.fresh at columns, over the seat's translation. -/
import Derived.Test.YteckjdoiimifaaaTnM2
import Derived.Maps.AppendAt
import Derived.OwnWalk
import Derived.Laws.OwnMore
namespace Go.Proofs.Yteckjdoiimifaaa
open Go.RowKit

theorem fc_at (L : List ACol) (i j : Nat) (c : ACol) (v : Value) (hc : L[i]? = some c) (hv : c.cells[j]? = some v) : (L.flatMap ACol.cells)[i * 7 + j]? = some v := by
  induction L generalizing i with
  | nil => simp at hc
  | cons d L ih =>
    have hl : d.cells.length = 7 := rfl
    rw [List.flatMap_cons]
    cases i with
    | zero =>
      simp at hc
      subst hc
      have hj : j < d.cells.length := (List.getElem?_eq_some_iff.1 hv).1
      rw [Nat.zero_mul, Nat.zero_add, List.getElem?_append_left hj]
      exact hv
    | succ i =>
      rw [List.getElem?_append_right (by omega), hl, show (i + 1) * 7 + j - 7 = i * 7 + j by omega]
      exact ih i (by simpa using hc)
theorem fc_len (L : List ACol) : (L.flatMap ACol.cells).length = L.length * 7 := by
  induction L with
  | nil => rfl
  | cons c L ih =>
    have : c.cells.length = 7 := rfl
    rw [List.flatMap_cons, List.length_append, ih, List.length_cons]
    omega
theorem fc_one (L : List ACol) : ∀ u ∈ L.flatMap ACol.cells, u.oneCell' = true := by
  intro u hu
  obtain ⟨c, _, hc⟩ := List.mem_flatMap.1 hu
  simp [ACol.cells] at hc
  rcases hc with rfl | rfl | rfl | rfl | rfl | rfl | rfl <;> rfl
theorem fc_get (L : List ACol) (j : Nat) (u : Value) (h : (L.flatMap ACol.cells)[j]? = some u) : ∃ c, L[j / 7]? = some c ∧ c.cells[j % 7]? = some u := by
  induction L generalizing j with
  | nil => simp at h
  | cons d L ih =>
    have hl : d.cells.length = 7 := rfl
    rw [List.flatMap_cons] at h
    by_cases hj : j < 7
    · rw [List.getElem?_append_left (by omega)] at h
      exact ⟨d, by rw [Nat.div_eq_of_lt hj]; rfl, by rw [Nat.mod_eq_of_lt hj]; exact h⟩
    · rw [List.getElem?_append_right (by omega), hl] at h
      obtain ⟨c, h1, h2⟩ := ih (j - 7) h
      refine ⟨c, ?_, ?_⟩
      · rw [show j / 7 = (j - 7) / 7 + 1 by omega, List.getElem?_cons_succ]; exact h1
      · rw [show j % 7 = (j - 7) % 7 by omega]; exact h2
theorem fc_cells {W : World} {b o : Nat} {L : List ACol} (h : ColsAt W (some ⟨b, o, none⟩) L) : ∀ j u, (L.flatMap ACol.cells)[j]? = some u → W.cell? ((⟨b, o, none⟩ : Addr).add j) = some u := by
  intro j u hu
  obtain ⟨c, h1, h2⟩ := fc_get L j u hu
  rcases h with h | ⟨b', o', e, _, hr⟩
  · subst h; simp at h1
  · cases e
    have := hr _ c h1 _ u h2
    rw [Addr.add_mid]
    rwa [show o + j / 7 * 7 + j % 7 = o + j by omega] at this

/-- Block b holds the columns L and may be written; it came behind w, and W lies over w. -/
def NewCols (w : World) (b : Nat) (L : List ACol) (W : World) : Prop :=
  w.heap.size ≤ b ∧ b < W.heap.size ∧ ColsAt W (some ⟨b, 0, none⟩) L ∧ W.there b 0 (L.length * 7) ∧ Below w.heap.size w W
theorem NewCols.next {w : World} {b : Nat} {L : List ACol} {W W' : World} (h : NewCols w b L W) (hb : Below W.heap.size W W') : NewCols w b L W' := by
  obtain ⟨h1, h2, h3, h4, h5⟩ := h
  exact ⟨h1, Nat.lt_of_lt_of_le h2 hb.size, h3.keep hb, there_next h4 h2 hb, h5.trans (hb.mono h5.size)⟩

theorem new_made {w W w1 : World} {L : List ACol} {v0 v' : Value} (hb : Below w.heap.size w W) (hown0 : W.ownsRow w.heap.size 63 7 v0 0 [])
    (hown1 : w1.ownsRow w.heap.size 63 7 v' (0 + L.length) ([] ++ L.flatMap ACol.cells)) (hgrow : W.grownBy w1 v0.ownBlock) (hne : v' ≠ .slice none 0 0) :
    ∃ b1 cap1, v' = .slice (some ⟨b1, 0, none⟩) L.length cap1 ∧ NewCols w b1 L w1 := by
  rw [Nat.zero_add, List.nil_append] at hown1
  have hB : Below w.heap.size w w1 := hb.grown hgrow hb.size (fun k hk => (World.ownsRow.lt hown0 k hk).1)
  have hown := hown1
  obtain ⟨hl, h⟩ := hown1
  rcases h with ⟨rfl, h0⟩ | ⟨b, cap, cur, rfl, hbb, hblk, _⟩
  · exact absurd rfl hne
  · have hlt : b < w1.heap.size := (Array.getElem?_eq_some_iff.1 hblk).1
    refine ⟨b, cap, rfl, hbb, hlt, Or.inr ⟨b, 0, rfl, hlt, fun i c hc j u hu => ?_⟩, fun j hj => ⟨?_, World.ownsRow.frozenAt hown _⟩, hB⟩
    · have := hown.cells (g := b) rfl (i * 7 + j) u (fc_at L i j c u hc hu)
      rw [Addr.add_mid, Nat.zero_add] at this
      rw [Nat.zero_add]
      exact this
    · rw [Nat.zero_add, World.ownsRow.cellAt hown j hj]
      rw [List.getElem?_eq_getElem (by rw [fc_len]; exact hj)]
      rfl

set_option maxHeartbeats 1000000 in
theorem fresh_cols (b o cap : Nat) (L : List ACol) (w : World) (hL : ColsAt w (some ⟨b, o, none⟩) L) (h1 : 1 ≤ L.length) (hl : L.length ≤ 1048576) :
    Calls Try.prog 28 #[.slice (some ⟨b, o, none⟩) L.length cap] w fun e w' => ∃ b1 cap1, e = .returned (.slice (some ⟨b1, 0, none⟩) L.length cap1) ∧ NewCols w b1 L w' := by
  obtain ⟨i0, hi, hz, hsz, hby⟩ := Try.info63
  have hby0 : (0 + L.length) * i0.bytes ≤ 140737488355328 := by
    have : (0 + L.length) * i0.bytes ≤ 1048576 * 128 := Nat.mul_le_mul (by omega) hby
    omega
  have hown0 : w.ownsRow w.heap.size 63 7 (.slice none 0 0) 0 [] := World.ownsRow_nil _ _ _ _
  have hnews : ∀ j u, (L.flatMap ACol.cells)[j]? = some u → w.cell? ((⟨b, o, none⟩ : Addr).add j) = some u := fc_cells hL
  go_enter Try.func28, Try.ntmps28
  go_wp2_with (at_builtin; refine wpList_append_own_at _ rfl _ _ 24 rfl w.heap.size 63 i0 _ 7 i0.bytes Try.underlying24 hi hz hsz rfl rfl (by decide) _ 0 [] rfl hown0 ⟨b, o, none⟩ L.length cap (L.flatMap ACol.cells) rfl (fc_len L) hnews (fc_one L) (by unfold maxLen; omega) hby0 (Nat.le_refl _) ?_; intro v' w1 hown1 hgrow hnil hloc; obtain ⟨b1, cap1, rfl, H1⟩ := new_made (Below.refl _ _) hown0 hown1 hgrow (fun e => by have := (hnil.1 e).2; omega); clear hown1 hgrow hnil hloc hown0 hnews hby0 hi hz hsz hby)
  go_ret
  exact ⟨_, _, rfl, H1⟩

end Go.Proofs.Yteckjdoiimifaaa
