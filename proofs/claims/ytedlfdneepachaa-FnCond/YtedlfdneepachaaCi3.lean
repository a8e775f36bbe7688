/- What FnCond asks of values, and its walk, over the seat's translation. -/
import Derived.Test.YtedlfdneepachaaCi2
import Derived.Test.YtedlfdneepachaaLaw1
import Derived.Test.YtedlfdneepachaaRwS4
namespace Go.Proofs.Ytedlfdneepachaa
open Go.RowKit

def cnt (k n : Int) (s : ByteArray) (v : AVal) (j : Nat) : Nat := ((List.range j).map fun i : Nat => (hasV ((i : Int) + 1) k n s v.k v.n v.s).toNat).sum

theorem cnt_next (k n : Int) (s : ByteArray) (v : AVal) (j : Nat) : cnt k n s v (j + 1) = cnt k n s v j + (hasV ((j : Int) + 1) k n s v.k v.n v.s).toNat := by
  unfold cnt
  rw [List.range_succ, List.map_append, List.sum_append]
  simp
theorem cnt_le (k n : Int) (s : ByteArray) (v : AVal) (j : Nat) : cnt k n s v j ≤ j := by
  induction j with
  | zero => simp [cnt]
  | succ j ih =>
    rw [cnt_next]
    have : (hasV ((j : Int) + 1) k n s v.k v.n v.s).toNat ≤ 1 := by cases hasV ((j : Int) + 1) k n s v.k v.n v.s <;> decide
    omega
theorem cnt_three (k n : Int) (s : ByteArray) (v : AVal) (hk : ¬ k = 0) : cnt k n s v 3 = if v.k = 0 then 0 else 1 := by
  have e : cnt k n s v 3 = (hasV 1 k n s v.k v.n v.s).toNat + (hasV 2 k n s v.k v.n v.s).toNat + (hasV 3 k n s v.k v.n v.s).toNat := by
    rw [cnt_next, cnt_next, cnt_next]
    simp [cnt]
  rw [e]
  by_cases h0 : v.k = 0
  · have h1 : eqV v.k v.n v.s k n s = false := by
      unfold eqV
      have : (v.k == k) = false := by simp; omega
      rw [this]
      rfl
    rw [h0] at h1
    simp [hasV, h0, h1]
  · obtain ⟨h1, h2⟩ := lessV_both v.k v.n v.s k n s
    have h3 : (v.k != 0) = true := by simp [h0]
    simp only [hasV, h3, if_neg h0, Bool.true_and]
    cases a : lessV v.k v.n v.s k n s <;> cases b : lessV k n s v.k v.n v.s <;> cases c : eqV v.k v.n v.s k n s <;> simp_all

theorem cond_parts {L : List ACol} {V : List AVal} {nm : ByteArray} {how k n : Int} {s : ByteArray} (hR : rowOk L V = true) (hC : condOk L nm how k n s = true) (hk : ¬ k = 0) :
    ∃ p : Nat, placeOf L nm = p ∧ p < L.length ∧ ∃ v, V[p]? = some v ∧ p < V.length ∧ V.length = L.length ∧ shapeOk L = true ∧ ∀ h : Int, 1 ≤ h → h ≤ 3 → condHas L nm h k n s V = hasV h k n s v.k v.n v.s := by
  have hlen : V.length = L.length := by
    simp only [rowOk, Bool.and_eq_true, decide_eq_true_eq] at hR
    exact hR.2.1
  simp only [condOk, Bool.and_eq_true, decide_eq_true_eq, Bool.or_eq_true, beq_iff_eq] at hC
  obtain ⟨h1, h2, h3, h4, h5⟩ := hC
  obtain ⟨p, hp, hlt⟩ := place_lt L nm h2
  have hkk : k = kindOf L nm := by
    rcases h5 with h | h
    · exact h
    · exact absurd h.1 hk
  refine ⟨p, hp, hlt, V[p]'(by omega), List.getElem?_eq_getElem (by omega), by omega, hlen, h1, fun h ha hb => ?_⟩
  have hc : condOk L nm h k n s = true := by
    simp only [condOk, Bool.and_eq_true, decide_eq_true_eq, Bool.or_eq_true, beq_iff_eq]
    exact ⟨h1, h2, h3, ⟨ha, hb⟩, Or.inl hkk⟩
  unfold condHas
  rw [hc, hp, Int.toNat_natCast, List.getElem?_eq_getElem (by omega : p < V.length)]
  simp [hlen]

end Go.Proofs.Ytedlfdneepachaa
