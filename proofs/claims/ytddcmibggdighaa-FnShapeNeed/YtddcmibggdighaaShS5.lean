/- What the map of names says: how many there are, and where each stands. -/
import Derived.Test.YtddcmibggdighaaShS4
namespace Go.Proofs.Ytddcmibggdighaa
open Go.RowKit Go.WideMaps Go.Maps

theorem same_iff (a b : ByteArray) : same a b = true ↔ kn a = kn b := by
  unfold same kn
  rw [ByteArray.toList_eq, ByteArray.toList_eq]
  simp
theorem same_self (a : ByteArray) : same a a = true := by simp [same]
theorem key_lit (s : ByteArray) : WideAt.IsKeyLit (kn s) := trivial

theorem map_isMap (L : List ACol) (k : Nat) : Tidy (mapTo L k) := by
  induction k with
  | zero => exact tidy_empty
  | succ k ih =>
    unfold mapTo
    split
    · exact ih.put (key_lit _) _
    · exact ih

theorem map_has (L : List ACol) (nm : ByteArray) (k : Nat) (hk : k ≤ L.length) : Maps.has (mapTo L k) (kn nm) = !lacks (L.take k) nm := by
  induction k with
  | zero => rfl
  | succ k ih =>
    have hlt : k < L.length := by omega
    rw [mapTo_next L k _ (List.getElem?_eq_getElem hlt)]
    have hl : lacks (L.take (k + 1)) nm = (lacks (L.take k) nm && !same L[k].nm nm) := by
      unfold lacks
      rw [List.take_succ_eq_append_getElem hlt, List.all_append]
      simp
    rw [hl]
    cases hs : same L[k].nm nm
    · rw [has_put_other (fun h => by rw [Bool.eq_false_iff] at hs; exact hs ((same_iff _ _).2 h.symm)), ih (by omega)]
      simp
    · rw [(same_iff _ _).1 hs, has_put_same (map_isMap L k).isMap (key_lit _)]
      simp

/-- Each of the first k columns is the first of its name. -/
def firsts (L : List ACol) (k : Nat) : Prop := ∀ i c, i < k → L[i]? = some c → lacks (L.take i) c.nm = true

theorem map_size (L : List ACol) (k : Nat) (hk : k ≤ L.length) : Maps.size (mapTo L k) ≤ k ∧ (Maps.size (mapTo L k) = k ↔ firsts L k) := by
  induction k with
  | zero => exact ⟨Nat.le_refl _, fun _ i c hi => absurd hi (Nat.not_lt_zero _), fun _ => rfl⟩
  | succ k ih =>
    have hlt : k < L.length := by omega
    obtain ⟨h1, h2⟩ := ih (by omega)
    have hg := List.getElem?_eq_getElem hlt
    rw [mapTo_next L k _ hg, size_put (map_isMap L k), map_has L _ k (by omega)]
    cases hl : lacks (L.take k) L[k].nm
    · refine ⟨by simp; omega, fun h => by simp at h; omega, fun h => ?_⟩
      have := h k _ (Nat.lt_succ_self k) hg
      rw [hl] at this
      cases this
    · refine ⟨by simp; omega, fun h i c hi hc => ?_, fun h => ?_⟩
      · have hk' : Maps.size (mapTo L k) = k := by simp at h; omega
        by_cases hik : i = k
        · subst hik
          rw [hg] at hc
          cases hc
          exact hl
        · exact h2.1 hk' i c (by omega) hc
      · have := h2.2 fun i c hi hc => h i c (by omega) hc
        simp
        omega

theorem map_at (L : List ACol) (nm : ByteArray) (z : DataW Unit) (k : Nat) (hk : k ≤ L.length) (hd : firsts L k) (i : Nat) (c : ACol) (hi : i < k) (hc : L[i]? = some c) (hs : same c.nm nm = true) : (mapTo L k).atKey (kn nm) z = .lit (.int .i64 i) := by
  induction k with
  | zero => exact absurd hi (Nat.not_lt_zero _)
  | succ k ih =>
    have hlt : k < L.length := by omega
    have hg := List.getElem?_eq_getElem hlt
    rw [mapTo_next L k _ hg]
    by_cases hik : i = k
    · subst hik
      rw [hg] at hc
      cases hc
      rw [(same_iff _ _).1 hs]
      exact atKey_put_same (map_isMap L i).isMap (key_lit _) _ _
    · have hne : kn nm ≠ kn L[k].nm := fun h => by
        have hl := hd k _ (Nat.lt_succ_self k) hg
        unfold lacks at hl
        rw [List.all_eq_true] at hl
        obtain ⟨hi', rfl⟩ := List.getElem?_eq_some_iff.1 hc
        have := hl L[i] (by rw [List.mem_take_iff_getElem]; exact ⟨i, by omega, rfl⟩)
        rw [(same_iff _ _).2 (((same_iff _ _).1 hs).trans h)] at this
        cases this
      rw [atKey_put_other hne]
      exact ih (by omega) (fun i c hi hc => hd i c (by omega) hc) (by omega)

theorem place_iff (L : List ACol) (i : Nat) (c : ACol) (hc : L[i]? = some c) : placeOf L c.nm = i ↔ lacks (L.take i) c.nm = true := by
  refine ⟨fun h => ?_, fun h => place_hit L c.nm i c hc h (same_self _)⟩
  unfold placeOf at h
  cases hf : L.findIdx? (fun d => same d.nm c.nm) with
  | none => rw [hf] at h; simp at h
  | some j =>
    rw [hf] at h
    have hji : j = i := by simp at h; omega
    subst hji
    rw [List.findIdx?_eq_some_iff_getElem] at hf
    obtain ⟨hj, _, hb⟩ := hf
    unfold lacks
    rw [List.all_eq_true]
    intro x hx
    rw [List.mem_take_iff_getElem] at hx
    obtain ⟨m, hm, rfl⟩ := hx
    have := hb m (by omega)
    simpa using this

/-- All columns of the first k are right. -/
def allOk (L : List ACol) (k : Nat) : Prop := ∀ i c, i < k → L[i]? = some c → c.ok = true

theorem upto_iff (L : List ACol) (k : Nat) (hk : k ≤ L.length) : upto L k = true ↔ allOk L k ∧ firsts L k := by
  unfold upto
  rw [List.all_eq_true]
  constructor
  · intro h
    constructor
    · intro i c hi hc
      have := h i (List.mem_range.2 hi)
      rw [hc] at this
      simp at this
      exact this.1
    · intro i c hi hc
      have := h i (List.mem_range.2 hi)
      rw [hc] at this
      simp at this
      exact (place_iff L i c hc).1 this.2
  · rintro ⟨h1, h2⟩ i hi
    have hi' := List.mem_range.1 hi
    have hc := List.getElem?_eq_getElem (l := L) (i := i) (by omega)
    rw [hc]
    simp [h1 i _ hi' hc, (place_iff L i _ hc).2 (h2 i _ hi' hc)]

theorem shape_size (L : List ACol) (h1 : 1 ≤ L.length) (h5 : L.length ≤ 5) (ha : allOk L L.length) : shapeOk L = ((Maps.size (mapTo L L.length) : Int) == (L.length : Int)) := by
  rw [Bool.eq_iff_iff]
  have hm := map_size L L.length (Nat.le_refl _)
  have hu := upto_iff L L.length (Nat.le_refl _)
  simp only [shapeOk, Bool.and_eq_true, decide_eq_true_eq, beq_iff_eq]
  constructor
  · rintro ⟨h, _⟩
    exact_mod_cast hm.2.2 (hu.1 h).2
  · intro h
    exact ⟨hu.2 ⟨ha, hm.2.1 (by exact_mod_cast h)⟩, h1, h5⟩
theorem shape_bad (L : List ACol) (i : Nat) (c : ACol) (hc : L[i]? = some c) (h : c.ok = false) : shapeOk L = false := upto_bad L i c hc (Or.inl h)
theorem shape_long (L : List ACol) (h : ¬ (1 ≤ L.length ∧ L.length ≤ 5)) : shapeOk L = false := by
  rw [Bool.eq_false_iff]
  simp only [shapeOk, ne_eq, Bool.and_eq_true, decide_eq_true_eq, not_and]
  intro _ h1 h2
  exact h ⟨h1, h2⟩
theorem shape_firsts (L : List ACol) (h : shapeOk L = true) : firsts L L.length ∧ 1 ≤ L.length ∧ L.length ≤ 5 := by
  simp only [shapeOk, Bool.and_eq_true, decide_eq_true_eq] at h
  exact ⟨((upto_iff L L.length (Nat.le_refl _)).1 h.1).2, h.2⟩

end Go.Proofs.Ytddcmibggdighaa
