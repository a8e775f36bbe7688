/- The order of values: plain facts; two values held against each other, over the seat's translation. -/
import Derived.Test.YtedlfdneepachaaLess2
import Derived.Test.YtedlfdneepachaaOk6
import Derived.Test.YtedlfdneepachaaEq1
import Derived.Sort.Walk0
namespace Go.Proofs.Ytedlfdneepachaa
open Go.RowKit

theorem bl_irr (a : List UInt8) : Op.bytesLess a a = false := by
  rw [bytesLess_eq, decide_eq_false_iff_not]; exact List.lt_irrefl a
theorem bl_asym (a b : List UInt8) (h : Op.bytesLess a b = true) : Op.bytesLess b a = false := by
  rw [bytesLess_eq, decide_eq_true_eq] at h
  rw [bytesLess_eq, decide_eq_false_iff_not]; exact List.lt_asymm h
theorem bl_trans (a b c : List UInt8) (h : Op.bytesLess a b = true) (k : Op.bytesLess b c = true) : Op.bytesLess a c = true := by
  rw [bytesLess_eq, decide_eq_true_eq] at h k ⊢
  exact List.lt_trans h k
theorem bl_tri (a b : List UInt8) (h : Op.bytesLess a b = false) (k : Op.bytesLess b a = false) : a = b := by
  rw [bytesLess_eq, decide_eq_false_iff_not] at h k
  exact List.le_antisymm (List.not_lt.1 k) (List.not_lt.1 h)

theorem lessV_trans (k1 n1 : Int) (s1 : ByteArray) (k2 n2 : Int) (s2 : ByteArray) (k3 n3 : Int) (s3 : ByteArray) (h : lessV k1 n1 s1 k2 n2 s2 = true) (k : lessV k2 n2 s2 k3 n3 s3 = true) : lessV k1 n1 s1 k3 n3 s3 = true := by
  rw [less_eq] at *
  unfold bad at *
  by_cases a : k1 = k2
  · subst a
    by_cases b : k1 = k3
    · subst b
      simp only [if_true] at *
      by_cases c : n1 = n2
      · subst c
        by_cases d : n1 = n3
        · subst d
          simp only [if_true] at *
          exact bl_trans _ _ _ h k
        · simp only [if_neg d] at *; exact k
      · simp only [if_neg c, decide_eq_true_eq] at h
        by_cases d : n2 = n3
        · subst d; simp only [if_neg c, decide_eq_true_eq]; exact h
        · simp only [if_neg d, decide_eq_true_eq] at k
          rw [if_neg (by omega), decide_eq_true_eq]; omega
    · simp only [if_neg b] at *; exact k
  · simp only [if_neg a, decide_eq_true_eq] at h
    by_cases b : k2 = k3
    · subst b; simp only [if_neg a, decide_eq_true_eq]; exact h
    · simp only [if_neg b, decide_eq_true_eq] at k
      rw [if_neg (by omega), decide_eq_true_eq]; omega

theorem lessV_both (k1 n1 : Int) (s1 : ByteArray) (k2 n2 : Int) (s2 : ByteArray) :
    (lessV k1 n1 s1 k2 n2 s2 && lessV k2 n2 s2 k1 n1 s1) = false ∧ (lessV k1 n1 s1 k2 n2 s2 || lessV k2 n2 s2 k1 n1 s1) = !(eqV k1 n1 s1 k2 n2 s2) := by
  rw [less_eq, less_eq]
  unfold bad eqV
  by_cases a : k1 = k2
  · subst a
    by_cases b : n1 = n2
    · subst b
      simp only [if_true]
      cases h : Op.bytesLess s1.toList s2.toList
      · cases k : Op.bytesLess s2.toList s1.toList
        · have e := bl_tri _ _ h k
          simp [e]
        · have : ¬ s1.toList = s2.toList := fun e => by rw [e, bl_irr] at k; cases k
          simp [this]
      · have k := bl_asym _ _ h
        have : ¬ s1.toList = s2.toList := fun e => by rw [e, bl_irr] at h; cases h
        simp [k, this]
    · have b' : ¬ n2 = n1 := fun e => b e.symm
      simp only [if_true, if_neg b, if_neg b']
      by_cases c : n1 < n2
      · have d : ¬ n2 < n1 := by omega
        simp [c, d, b]
      · have d : n2 < n1 := by omega
        simp [c, d, b]
  · have a' : ¬ k2 = k1 := fun e => a e.symm
    simp only [if_neg a, if_neg a']
    by_cases c : k1 < k2
    · have d : ¬ k2 < k1 := by omega
      simp [c, d, a]
    · have d : k2 < k1 := by omega
      simp [c, d, a]

/-- Nothing comes ahead of every other value that is right. -/
theorem least (k n : Int) (s : ByteArray) (h : valOk k n s = true) (hn : eqV k n s 0 0 ⟨#[]⟩ = false) : lessV 0 0 ⟨#[]⟩ k n s = true := by
  rw [less_eq]
  unfold valOk at h
  by_cases a : k = 0
  · subst a
    rw [if_pos rfl, Bool.and_eq_true] at h
    unfold eqV at hn
    have e : (⟨#[]⟩ : ByteArray).toList = [] := by rw [ByteArray.toList_eq]
    rw [e, h.1, h.2] at hn
    cases hn
  · by_cases b : k = 1
    · subst b; rfl
    · by_cases c : k = 2
      · subst c; rfl
      · rw [if_neg a, if_neg b, if_neg c] at h; cases h

end Go.Proofs.Ytedlfdneepachaa
