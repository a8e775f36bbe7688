/- Columns with one more: what is right of them. -/
import Derived.Test.YtddcmibggdighaaNd4
namespace Go.Proofs.Ytddcmibggdighaa
open Go.RowKit

/-- The laws' own column, without and with what stands where none is told. -/
def newC : ACol := ⟨⟨#[110, 101, 119]⟩, 1, false, false, 0, 0, ⟨#[]⟩⟩
def newD : ACol := ⟨⟨#[110, 101, 119]⟩, 1, false, false, 1, 7, ⟨#[]⟩⟩

theorem new_ok : (needed newD).ok = true := by decide +kernel
theorem lacks_new {L : List ACol} (hs : ∀ c ∈ L, c.small) : lacks L (needed newD).nm = true := by
  unfold lacks
  rw [List.all_eq_true]
  intro c hc
  have h := (hs c hc).1.2
  have : same c.nm (needed newD).nm = false := by
    unfold same
    rw [ByteArray.toList_eq, ByteArray.toList_eq]
    exact beq_eq_false_iff_ne.2 h
  rw [this]
  rfl

theorem shape_new {L : List ACol} (hok : shapeOk L = true) (hl : L.length < 5) (hs : ∀ c ∈ L, c.small) : shapeOk (L ++ [needed newD]) = true := by
  simp only [shapeOk, Bool.and_eq_true, decide_eq_true_eq] at hok ⊢
  obtain ⟨h1, h2⟩ := (upto_iff L L.length (Nat.le_refl _)).1 hok.1
  have hlen : (L ++ [needed newD]).length = L.length + 1 := by simp
  rw [hlen]
  refine ⟨(upto_iff _ _ (by rw [hlen]; exact Nat.le_refl _)).2 ⟨fun i c hi hc => ?_, fun i c hi hc => ?_⟩, by omega, by omega⟩
  · by_cases h : i < L.length
    · rw [List.getElem?_append_left h] at hc
      exact h1 i c h hc
    · have : i = L.length := by omega
      subst this
      simp at hc
      subst hc
      exact new_ok
  · by_cases h : i < L.length
    · rw [List.getElem?_append_left h] at hc
      rw [List.take_append_of_le_length (by omega)]
      exact h2 i c h hc
    · have : i = L.length := by omega
      subst this
      simp at hc
      subst hc
      rw [List.take_left]
      exact lacks_new hs

theorem parts_row {L : List ACol} {V : List AVal} (h : rowOk L V = true) : shapeOk L = true ∧ V.length = L.length ∧ ∀ (i : Nat) (c : ACol) (v : AVal), L[i]? = some c → V[i]? = some v → oneOk c v = true := by
  simp only [rowOk, Bool.and_eq_true, decide_eq_true_eq] at h
  refine ⟨h.1, h.2.1, fun i c v hc hv => ?_⟩
  have h2 := h.2.2
  unfold rowTo at h2
  rw [List.all_eq_true] at h2
  have := h2 i (List.mem_range.2 (List.getElem?_eq_some_iff.1 hc).1)
  simpa [hc, hv] using this

theorem row_new {L : List ACol} {V : List AVal} (h : rowOk L V = true) (hl : L.length < 5) (hs : ∀ c ∈ L, c.small) : rowOk (L ++ [needed newD]) (V ++ [⟨newD.k, newD.n, newD.s⟩]) = true := by
  obtain ⟨h1, h2, h3⟩ := parts_row h
  simp only [rowOk, Bool.and_eq_true, decide_eq_true_eq]
  refine ⟨shape_new h1 hl hs, by simp [h2], ?_⟩
  unfold rowTo
  rw [List.all_eq_true]
  intro i hi
  have hi' : i < L.length + 1 := by simpa using hi
  by_cases hlt : i < L.length
  · rw [List.getElem?_append_left hlt, List.getElem?_append_left (by omega), List.getElem?_eq_getElem hlt, List.getElem?_eq_getElem (by omega)]
    exact h3 i _ _ (List.getElem?_eq_getElem hlt) (List.getElem?_eq_getElem (by omega))
  · have e : i = L.length := by omega
    subst e
    rw [List.getElem?_append_right (Nat.le_refl _), List.getElem?_append_right (by omega), h2, Nat.sub_self]
    show oneOk (needed newD) ⟨newD.k, newD.n, newD.s⟩ = true
    decide +kernel

theorem fit_small {L : List ACol} (h : ∀ c ∈ L, c.small) : ∀ c ∈ L, c.fit := fun c hc => by
  have := h c hc
  unfold ACol.small at this
  unfold ACol.fit maxLen
  omega
theorem fitv_small {V : List AVal} (h : ∀ v ∈ V, v.small) : ∀ v ∈ V, v.fit := fun v hv => by
  have := h v hv
  unfold AVal.small at this
  unfold AVal.fit maxLen
  omega
theorem fit_new {L : List ACol} (h : ∀ c ∈ L, c.fit) : ∀ c ∈ L ++ [needed newD], c.fit := fun c hc => by
  rcases List.mem_append.1 hc with h' | h'
  · exact h c h'
  · rw [List.mem_singleton] at h'
    subst h'
    exact ⟨by show 3 ≤ maxLen; decide, by show 0 ≤ maxLen; decide⟩
theorem fitv_new {V : List AVal} (h : ∀ v ∈ V, v.fit) : ∀ v ∈ V ++ [⟨newD.k, newD.n, newD.s⟩], v.fit := fun v hv => by
  rcases List.mem_append.1 hv with h' | h'
  · exact h v h'
  · rw [List.mem_singleton] at h'
    subst h'
    show 0 ≤ maxLen
    decide

/-- RowOk of the columns and values with one more. -/
theorem row_more (b1 c1 b2 c2 : Nat) (L : List ACol) (V : List AVal) (c : ACol) (v : AVal) (w : World) (hL : ColsAt w (some ⟨b1, 0, none⟩) (L ++ [c])) (hV : ValsAt w (some ⟨b2, 0, none⟩) (V ++ [v])) (hf : ∀ d ∈ L ++ [c], d.fit) (hg : ∀ d ∈ V ++ [v], d.fit) (hm : L.length ≤ 50) (hm2 : V.length ≤ 50) :
    Calls Try.prog 5 #[.slice (some ⟨b1, 0, none⟩) (L.length + 1) c1, .slice (some ⟨b2, 0, none⟩) (V.length + 1) c2] w fun e w' => e = .returned (.bool (rowOk (L ++ [c]) (V ++ [v]))) ∧ Below w.heap.size w w' := by
  have e1 : (L ++ [c]).length = L.length + 1 := by simp
  have e2 : (V ++ [v]).length = V.length + 1 := by simp
  have := impl_row (some ⟨b1, 0, none⟩) (some ⟨b2, 0, none⟩) c1 c2 (L ++ [c]) (V ++ [v]) w hL hV hf hg (by rw [e1]; unfold maxLen; omega) (by rw [e2]; unfold maxLen; omega)
  rw [e1, e2] at this
  exact this

end Go.Proofs.Ytddcmibggdighaa
