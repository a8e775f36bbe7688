/- What lies between two places of a list in order. -/
import Derived.Test.YtobblnlefhkanaaIxT2
import Derived.Test.YtobblnlefhkanaaIxB2
namespace Go.Proofs.Ytobblnlefhkanaa
open Go.RowKit

theorem band {p q : AEnt → Bool} : ∀ L : List AEnt, L.Pairwise (fun c d => (p d = true → p c = true) ∧ (q d = true → q c = true)) → (L.drop (L.takeWhile p).length).takeWhile q = L.filter (fun c => !p c && q c) := by
  intro L
  induction L with
  | nil => intro _; rfl
  | cons c L ih =>
    intro h
    obtain ⟨h1, h2⟩ := List.pairwise_cons.1 h
    have ih := ih h2
    cases hp : p c
    · have hn : L.takeWhile p = [] := by
        cases L with
        | nil => rfl
        | cons d L =>
          have hd : p d = false := by
            cases hd : p d
            · rfl
            · have := (h1 d (List.mem_cons_self ..)).1 hd
              rw [hp] at this
              cases this
          rw [List.takeWhile_cons, hd]
          rfl
      rw [hn] at ih
      simp only [List.takeWhile_cons, hp, List.filter_cons, Bool.not_false, Bool.true_and]
      cases hq : q c
      · have hf : L.filter (fun c => !p c && q c) = [] := by
          rw [List.filter_eq_nil_iff]
          intro d hd
          cases hqd : q d
          · simp
          · have := (h1 d hd).2 hqd
            rw [hq] at this
            cases this
        simp [hf, hq]
      · simp only [if_true, Bool.false_eq_true, if_false, List.length_nil, List.drop_zero, List.takeWhile_cons, hq] at ih ⊢
        rw [ih]
    · simp only [List.takeWhile_cons, hp, if_true, List.length_cons, List.drop_succ_cons, List.filter_cons, Bool.not_true, Bool.false_and, Bool.false_eq_true, if_false]
      exact ih

theorem cmpE_le (c y : AEnt) : decide (cmpE c y ≤ 0) = !lessE y c := by
  rw [cmpE_eq]
  cases h : lessE c y
  · cases h2 : eqE c y
    · cases h3 : lessE y c
      · have := lessE_tri c y h h3
        rw [this, eqE_refl] at h2
        cases h2
      · rfl
    · rw [eqE_ext h2, lessE_irr]
      rfl
  · rw [lessE_asym c y h]
    rfl

theorem lessV_same (k n : Int) (s : ByteArray) : lessV k n s k n s = false := by
  rw [less_eq]
  simp [bad, bl_irr]
theorem less_lo {c lo : AEnt} (h : 1 ≤ c.id) : lessE c ⟨lo.k, lo.n, lo.s, 1⟩ = lessV c.k c.n c.s lo.k lo.n lo.s := by
  unfold lessE
  cases he : eqV c ⟨lo.k, lo.n, lo.s, 1⟩
  · rfl
  · obtain ⟨h1, h2, h3⟩ := eqV_ext he
    simp only at h1 h2 h3
    rw [h1, h2, h3, lessV_same, if_pos rfl]
    exact decide_eq_false (by simp only; omega)
theorem less_hi {c hi : AEnt} (h : c.id ≤ 60) : lessE ⟨hi.k, hi.n, hi.s, 60⟩ c = lessV hi.k hi.n hi.s c.k c.n c.s := by
  unfold lessE
  cases he : eqV ⟨hi.k, hi.n, hi.s, 60⟩ c
  · rfl
  · obtain ⟨h1, h2, h3⟩ := eqV_ext he
    simp only at h1 h2 h3
    rw [h1, h2, h3, lessV_same, if_pos rfl]
    exact decide_eq_false (by simp only; omega)

/-- What the iterator yields between a value's least entry and another one's greatest. -/
theorem span_eq {M : List AEnt} (h : indexOk M = true) (lo hi : AEnt) :
    ((M.drop (posE M ⟨lo.k, lo.n, lo.s, 1⟩)).takeWhile fun c => decide (cmpE c ⟨hi.k, hi.n, hi.s, 60⟩ ≤ 0)) = M.filter (inSpan lo hi) := by
  simp only [indexOk, Bool.and_eq_true, decide_eq_true_eq, List.all_eq_true] at h
  have hA := (ascB_iff M).1 h.2.2
  have hp : M.Pairwise (fun c d => (lessE d ⟨lo.k, lo.n, lo.s, 1⟩ = true → lessE c ⟨lo.k, lo.n, lo.s, 1⟩ = true) ∧ (decide (cmpE d ⟨hi.k, hi.n, hi.s, 60⟩ ≤ 0) = true → decide (cmpE c ⟨hi.k, hi.n, hi.s, 60⟩ ≤ 0) = true)) := by
    rw [List.pairwise_iff_getElem]
    intro i j hi' hj hij
    have hl : lessE M[i] M[j] = true := hA.lt hij (List.getElem?_eq_getElem hi') (List.getElem?_eq_getElem hj)
    refine ⟨fun h1 => lessE_trans _ _ _ hl h1, fun h1 => ?_⟩
    rw [cmpE_le] at h1 ⊢
    cases h2 : lessE ⟨hi.k, hi.n, hi.s, 60⟩ M[i]
    · rfl
    · rw [lessE_trans _ _ _ h2 hl] at h1
      cases h1
  have hb := band M hp
  unfold posE
  rw [hb]
  refine List.filter_congr fun c hc => ?_
  have hok := h.2.1 c hc
  simp only [AEnt.ok, Bool.and_eq_true, decide_eq_true_eq] at hok
  rw [cmpE_le, less_lo hok.2.1, less_hi hok.2.2]
  rfl

/-- Between a value and itself lies what has that value. -/
theorem inSpan_self (v c : AEnt) : inSpan v v c = eqV c v := by
  unfold inSpan
  rw [less_eq, less_eq]
  cases he : eqV c v
  · by_cases h1 : c.k = v.k
    · by_cases h2 : c.n = v.n
      · have h3 : c.s.toList ≠ v.s.toList := fun e => by
          have := (eqV_iff c v).2 ⟨h1, h2, e⟩
          rw [he] at this
          cases this
        simp only [h1, h2, if_true, bad]
        cases h4 : Op.bytesLess c.s.toList v.s.toList
        · cases h5 : Op.bytesLess v.s.toList c.s.toList
          · exact absurd (bl_tri _ _ h4 h5) h3
          · rfl
        · rfl
      · have h2' : ¬ v.n = c.n := fun e => h2 e.symm
        simp only [h1, h2, h2', if_true, if_false]
        by_cases h4 : c.n < v.n
        · simp [h4]
        · have : v.n < c.n := by omega
          simp [this]
    · have h1' : ¬ v.k = c.k := fun e => h1 e.symm
      simp only [h1, h1', if_false]
      by_cases h4 : c.k < v.k
      · simp [h4]
      · have : v.k < c.k := by omega
        simp [this]
  · obtain ⟨h1, h2, h3⟩ := eqV_ext he
    simp [h1, h2, h3, bad, bl_irr]

end Go.Proofs.Ytobblnlefhkanaa
