/- Entries in memory of the call's own: the contracts of impl.fresh at entries, noEntries, entriesOf and IndexOk, over the seat's translation. -/
import Derived.Test.YtobblnlefhkanaaIxI2
import Derived.Maps.AppendAt
import Derived.OwnWalk
import Derived.Laws.OwnMore
import Derived.Laws.AppendOwnNone
namespace Go.Proofs.Ytobblnlefhkanaa
open Go.RowKit

def flat (L : List AEnt) : List Value := L.flatMap AEnt.cells
theorem flat_len (L : List AEnt) : (flat L).length = L.length * 4 := by
  unfold flat
  induction L with
  | nil => rfl
  | cons c L ih =>
    have : c.cells.length = 4 := rfl
    rw [List.flatMap_cons, List.length_append, ih, List.length_cons]
    omega
theorem flat_at (L : List AEnt) (i j : Nat) (c : AEnt) (v : Value) (hc : L[i]? = some c) (hv : c.cells[j]? = some v) : (flat L)[i * 4 + j]? = some v := by
  unfold flat
  induction L generalizing i with
  | nil => simp at hc
  | cons d L ih =>
    have hl : d.cells.length = 4 := rfl
    rw [List.flatMap_cons]
    cases i with
    | zero =>
      simp at hc
      subst hc
      have hj : j < d.cells.length := (List.getElem?_eq_some_iff.1 hv).1
      rw [Nat.zero_mul, Nat.zero_add, List.getElem?_append_left hj]
      exact hv
    | succ i =>
      rw [List.getElem?_append_right (by omega), hl, show (i + 1) * 4 + j - 4 = i * 4 + j by omega]
      exact ih i (by simpa using hc)
theorem flat_one (L : List AEnt) : ∀ u ∈ flat L, u.oneCell' = true := by
  intro u hu
  obtain ⟨c, _, hc⟩ := List.mem_flatMap.1 hu
  simp [AEnt.cells] at hc
  rcases hc with rfl | rfl | rfl | rfl <;> rfl
theorem flat_get (L : List AEnt) (j : Nat) (u : Value) (h : (flat L)[j]? = some u) : ∃ c, L[j / 4]? = some c ∧ c.cells[j % 4]? = some u := by
  unfold flat at h
  induction L generalizing j with
  | nil => simp at h
  | cons d L ih =>
    have hl : d.cells.length = 4 := rfl
    rw [List.flatMap_cons] at h
    by_cases hj : j < 4
    · rw [List.getElem?_append_left (by omega)] at h
      exact ⟨d, by rw [Nat.div_eq_of_lt hj]; rfl, by rw [Nat.mod_eq_of_lt hj]; exact h⟩
    · rw [List.getElem?_append_right (by omega), hl] at h
      obtain ⟨c, h1, h2⟩ := ih (j - 4) h
      refine ⟨c, ?_, ?_⟩
      · rw [show j / 4 = (j - 4) / 4 + 1 by omega, List.getElem?_cons_succ]; exact h1
      · rw [show j % 4 = (j - 4) % 4 by omega]; exact h2
theorem flat_append (L M : List AEnt) : flat (L ++ M) = flat L ++ flat M := by unfold flat; exact List.flatMap_append
theorem flat_cells {W : World} {b o : Nat} {L : List AEnt} (h : EntsAt W (some ⟨b, o, none⟩) L) : ∀ j u, (flat L)[j]? = some u → W.cell? ((⟨b, o, none⟩ : Addr).add j) = some u := by
  intro j u hu
  obtain ⟨c, h1, h2⟩ := flat_get L j u hu
  rcases h with h | ⟨b', o', e, _, hr⟩
  · subst h; simp at h1
  · cases e
    have := hr _ c h1 _ u h2
    rw [Addr.add_mid]
    rwa [show o + j / 4 * 4 + j % 4 = o + j by omega] at this
theorem ents_of {W : World} {b o : Nat} {L : List AEnt} (hb : b < W.heap.size) (h : ∀ j u, (flat L)[j]? = some u → W.cell? ⟨b, o + j, none⟩ = some u) : EntsAt W (some ⟨b, o, none⟩) L :=
  Or.inr ⟨b, o, rfl, hb, fun i c hc j v hv => by rw [Nat.add_assoc]; exact h _ v (flat_at L i j c v hc hv)⟩

/-- The value is a slice of the entries L, in a row that came at base or behind, and may be written. -/
def OwnE (base : Nat) (v : Value) (L : List AEnt) (W : World) : Prop := W.ownsRow base 38 4 v L.length (flat L)
theorem OwnE.nil (base : Nat) (W : World) : OwnE base (.slice none 0 0) [] W := World.ownsRow_nil _ _ _ _
theorem OwnE.next {base : Nat} {v : Value} {L : List AEnt} {W W' : World} (h : OwnE base v L W) (hb : Below W.heap.size W W') : OwnE base v L W' := by
  refine ⟨h.1, ?_⟩
  rcases h.2 with h | ⟨g, cap, cur, hv, hg, hh, r⟩
  · exact Or.inl h
  · exact Or.inr ⟨g, cap, cur, hv, hg, by rw [hb.block g (Array.getElem?_eq_some_iff.1 hh).1]; exact hh, r⟩
/-- It is nothing, or a row. -/
theorem OwnE.form {base : Nat} {v : Value} {L : List AEnt} {W : World} (h : OwnE base v L W) : (v = .slice none 0 0 ∧ L = []) ∨
    ∃ b cap, v = .slice (some ⟨b, 0, none⟩) L.length cap ∧ base ≤ b ∧ b < W.heap.size ∧ L.length ≤ cap ∧ cap ≤ maxLen ∧ EntsAt W (some ⟨b, 0, none⟩) L ∧ W.there b 0 (cap * 4) := by
  have hown : W.ownsRow base 38 4 v L.length (flat L) := h
  obtain ⟨hl, h⟩ := h
  rcases h with ⟨rfl, h0⟩ | ⟨g, cap, cur, rfl, hg, hh, hn, hcm, hcs, ht⟩
  · exact Or.inl ⟨rfl, List.length_eq_zero_iff.1 h0⟩
  · have hlt : g < W.heap.size := (Array.getElem?_eq_some_iff.1 hh).1
    refine Or.inr ⟨g, cap, rfl, hg, hlt, hn, hcm, ents_of hlt fun j u hu => ?_, fun j hj => ⟨?_, World.ownsRow.frozenAt hown _⟩⟩
    · have := hown.cells (g := g) rfl j u hu
      rwa [Addr.add_mid] at this
    · rw [Nat.zero_add]
      simp only [World.cell?, hh]
      rw [Array.getElem?_eq_getElem (by omega)]
      rfl
theorem OwnE.slice {base : Nat} {v : Value} {L : List AEnt} {W : World} (h : OwnE base v L W) : ∃ a cap, v = .slice a L.length cap ∧ (a = none → cap = 0 ∧ L = []) ∧ EntsAt W a L := by
  rcases h.form with ⟨rfl, rfl⟩ | ⟨b, cap, rfl, _, _, _, _, he, _⟩
  · exact ⟨none, 0, rfl, fun _ => ⟨rfl, rfl⟩, Or.inl rfl⟩
  · exact ⟨_, cap, rfl, (fun h => by cases h), he⟩

set_option maxHeartbeats 1000000 in
theorem fresh_entries (a : Option Addr) (cap : Nat) (L : List AEnt) (w : World) (hL : EntsAt w a L) (h0 : a = none → cap = 0) (hl : L.length ≤ 1048576) :
    Calls Try.prog 51 #[.slice a L.length cap] w fun e w' => ∃ v, e = .returned v ∧ OwnE w.heap.size v L w' ∧ Below w.heap.size w w' := by
  obtain ⟨i0, hi, hz, hsz, hby⟩ := Try.info38
  have hown0 : w.ownsRow w.heap.size 38 4 (.slice none 0 0) 0 [] := World.ownsRow_nil _ _ _ _
  cases a with
  | none =>
    have hL0 : L = [] := by
      rcases hL with h | ⟨b, o, e, _⟩
      · exact h
      · cases e
    subst hL0
    have h0' := h0 rfl
    subst h0'
    go_enter Try.func51, Try.ntmps51
    go_wp2_with (at_builtin; refine wpList_append_own_none rfl _ _ 25 rfl w.heap.size 38 i0 4 Try.underlying25 hi _ 0 [] rfl hown0 rfl ?_)
    go_ret
    exact ⟨_, rfl, OwnE.nil _ _, Below.refl _ _⟩
  | some ad =>
    have hby0 : (0 + L.length) * i0.bytes ≤ 140737488355328 := by
      have : (0 + L.length) * i0.bytes ≤ 1048576 * 128 := Nat.mul_le_mul (by omega) hby
      omega
    have hnews : ∀ j u, (flat L)[j]? = some u → w.cell? (ad.add j) = some u := by
      by_cases he : L = []
      · subst he
        intro j u hu
        simp [flat] at hu
      · have hL' := hL
        rcases hL with h | ⟨b, o, e, _⟩
        · exact absurd h he
        · cases e
          exact flat_cells hL'
    go_enter Try.func51, Try.ntmps51
    go_wp2_with (at_builtin; refine wpList_append_own_at _ rfl _ _ 25 rfl w.heap.size 38 i0 _ 4 i0.bytes Try.underlying25 hi hz hsz rfl rfl (by decide) _ 0 [] rfl hown0 ad L.length cap (flat L) rfl (flat_len L) hnews (flat_one L) (by unfold maxLen; omega) hby0 (Nat.le_refl _) ?_; intro v' w1 hown1 hgrow hnil hloc; have H1 : Hid (OwnE w.heap.size v' L w1 ∧ Below w.heap.size w w1) := ⟨by unfold OwnE; simpa using hown1, (Below.refl _ _).grown hgrow (Nat.le_refl _) (fun k hk => by cases hk)⟩; obtain ⟨a1, c1, hv1, -⟩ := H1.out.1.slice; rw [hv1] at H1; subst hv1; clear hown1 hgrow hnil hloc hown0 hnews hby0 hi hz hsz hby)
    go_ret
    exact ⟨_, rfl, H1.out.1, H1.out.2⟩

end Go.Proofs.Ytobblnlefhkanaa
