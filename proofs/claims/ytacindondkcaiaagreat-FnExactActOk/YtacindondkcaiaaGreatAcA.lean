/- What is left of a size, over the seat's translation. -/
import Derived.Test.YtacindondkcaiaaGreatAcA0
import Derived.Test.YtacindondkcaiaaGreatShS2
import Derived.Test.YtacindondkcaiaaGreatShL
namespace Go.Proofs.YtacindondkcaiaaGreat
open Go.RowKit

/-- What is left of l: -1, or not less than nought, and then P. -/
def Rest (l z : Int) (P : Prop) : Prop := z = -1 ∨ (0 ≤ z ∧ z ≤ l ∧ P)
theorem rest_of {l : Int} {k : Nat} {P : Prop} (h : (k : Int) ≤ l → P) : Rest l (left l k) P := by
  by_cases hk : (k : Int) ≤ l
  · rw [left_pos hk]; exact Or.inr ⟨by omega, by omega, h hk⟩
  · rw [left_neg hk]; exact Or.inl rfl

end Go.Proofs.YtacindondkcaiaaGreat
