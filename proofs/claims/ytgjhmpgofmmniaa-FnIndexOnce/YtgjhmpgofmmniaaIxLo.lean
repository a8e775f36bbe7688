/- No value twice: each value has one entry. -/
import Derived.Test.YtgjhmpgofmmniaaIxO1
import Derived.Test.YtgjhmpgofmmniaaIxU0
namespace Go.Proofs.Ytgjhmpgofmmniaa
open Go.RowKit

theorem eqV_comm (a b : AEnt) : eqV a b = eqV b a := by
  rw [Bool.eq_iff_iff, eqV_iff, eqV_iff]
  exact ⟨fun h => ⟨h.1.symm, h.2.1.symm, h.2.2.symm⟩, fun h => ⟨h.1.symm, h.2.1.symm, h.2.2.symm⟩⟩
/-- What stands between two of one value has that value. -/
theorem eqV_mid {a b c : AEnt} (h1 : lessE a b = true) (h2 : lessE b c = true) (he : eqV a c = true) : eqV a b = true := by
  obtain ⟨e1, e2, e3⟩ := eqV_ext he
  cases hab : eqV a b
  · have hbc : eqV b c = false := by
      cases h : eqV b c
      · rfl
      · obtain ⟨f1, f2, f3⟩ := (eqV_iff b c).1 h
        have : eqV a b = true := (eqV_iff a b).2 ⟨by rw [e1, f1], by rw [e2, f2], by rw [e3, f3]⟩
        rw [hab] at this
        cases this
    have h3 : lessE b a = true := by
      unfold lessE at h2 ⊢
      rw [hbc] at h2
      rw [eqV_comm b a, hab, e1, e2, e3]
      exact h2
    rw [lessE_asym a b h1] at h3
    cases h3
  · rfl
theorem once_pair {M : List AEnt} (hA : Asc M) {i j : Nat} {c d : AEnt} (hij : i < j) (hc : M[i]? = some c) (hd : M[j]? = some d) (he : eqV c d = true) (hk : c.k ≠ 0) : onceB M = false := by
  have hj := (List.getElem?_eq_some_iff.1 hd).1
  obtain ⟨b, hb⟩ : ∃ b, M[i + 1]? = some b := ⟨_, List.getElem?_eq_getElem (by omega)⟩
  have hcb : eqV c b = true := by
    by_cases h : i + 1 = j
    · rw [h, hd] at hb
      rw [← Option.some.inj hb]
      exact he
    · exact eqV_mid (hA i _ _ hc hb) (hA.lt (by omega) hb hd) he
  refine once_bad hc hb ?_
  unfold twice
  rw [eqV_comm, hcb, ← (eqV_ext hcb).1]
  simp [hk]

theorem once_all {M : List AEnt} (hA : Asc M) : onceB M = M.all fun c => (c.k == 0) || ((spanIn c c M).length == 1) := by
  cases hO : onceB M
  · have h : ∃ (i : Nat) (c d : AEnt), M[i]? = some c ∧ M[i + 1]? = some d ∧ twice c d = true := by
      unfold onceB at hO
      rw [List.all_eq_false] at hO
      obtain ⟨i, hi, hf⟩ := hO
      have hi := List.mem_range.1 hi
      rw [List.getElem?_eq_getElem hi] at hf
      cases hd : M[i + 1]? with
      | none => rw [hd] at hf; exact absurd rfl hf
      | some d =>
        rw [hd] at hf
        refine ⟨i, _, d, List.getElem?_eq_getElem hi, hd, ?_⟩
        simpa using hf
    obtain ⟨i, c, d, hc, hd, ht⟩ := h
    symm
    rw [List.all_eq_false]
    refine ⟨c, List.mem_of_getElem? hc, ?_⟩
    obtain ⟨hi, rfl⟩ := List.getElem?_eq_some_iff.1 hc
    obtain ⟨hi1, rfl⟩ := List.getElem?_eq_some_iff.1 hd
    unfold twice at ht
    rw [Bool.and_eq_true, Bool.not_eq_true'] at ht
    rw [← (eqV_ext ht.2).1, ht.1, Bool.false_or]
    have hM : M = M.take i ++ M[i] :: M[i + 1] :: M.drop (i + 1 + 1) := by
      rw [← List.drop_eq_getElem_cons hi1, ← List.drop_eq_getElem_cons hi, List.take_append_drop]
    have hl : 2 ≤ (spanIn M[i] M[i] M).length := by
      unfold spanIn
      rw [List.length_map]
      generalize M.drop (i + 1 + 1) = B at hM
      generalize M.take i = A at hM
      generalize hx : M[i] = x at hM ht
      generalize hy : M[i + 1] = y at hM ht
      rw [hM, List.filter_append, List.filter_cons, List.filter_cons, inSpan_self, inSpan_self, eqV_refl, ht.2]
      simp only [if_true, List.length_append, List.length_cons]
      omega
    intro h
    have := (beq_iff_eq).1 h
    omega
  · symm
    rw [List.all_eq_true]
    intro c hc
    obtain ⟨i, hi, rfl⟩ := List.mem_iff_getElem.1 hc
    cases hk : M[i].k == 0
    · rw [Bool.false_or, beq_iff_eq]
      have hk : M[i].k ≠ 0 := by simpa using hk
      have hci : M[i]? = some M[i] := List.getElem?_eq_getElem hi
      have hM : M = M.take i ++ M[i] :: M.drop (i + 1) := by
        rw [← List.drop_eq_getElem_cons hi, List.take_append_drop]
      have h1 : (M.take i).filter (inSpan M[i] M[i]) = [] := by
        rw [List.filter_eq_nil_iff]
        intro d hd he
        obtain ⟨t, ht, rfl⟩ := List.mem_iff_getElem.1 hd
        rw [List.length_take] at ht
        rw [inSpan_self] at he
        rw [List.getElem_take] at he
        have hdt : M[t]? = some M[t] := List.getElem?_eq_getElem (by omega)
        have := once_pair hA (by omega) hdt hci he (by rw [(eqV_ext he).1]; exact hk)
        rw [hO] at this
        cases this
      have h2 : (M.drop (i + 1)).filter (inSpan M[i] M[i]) = [] := by
        rw [List.filter_eq_nil_iff]
        intro d hd he
        obtain ⟨t, ht, rfl⟩ := List.mem_iff_getElem.1 hd
        rw [List.length_drop] at ht
        rw [inSpan_self, eqV_comm] at he
        rw [List.getElem_drop] at he
        have hdt : M[i + 1 + t]? = some M[i + 1 + t] := List.getElem?_eq_getElem (by omega)
        have := once_pair hA (by omega) hci hdt he hk
        rw [hO] at this
        cases this
      unfold spanIn
      rw [List.length_map]
      generalize M.drop (i + 1) = B at hM h2
      generalize M.take i = A at hM h1
      generalize M[i] = x at hM h1 h2
      rw [hM, List.filter_append, List.filter_cons, h1, h2, inSpan_self, eqV_refl]
      rfl
    · rfl

end Go.Proofs.Ytgjhmpgofmmniaa
