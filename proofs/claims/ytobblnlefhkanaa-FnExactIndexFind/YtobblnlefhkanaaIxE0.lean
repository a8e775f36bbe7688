/- An entry at two places. -/
import Derived.Test.YtobblnlefhkanaaIxA
namespace Go.Proofs.Ytobblnlefhkanaa
open Go.RowKit

/-- An entry lies at two places in W, and W lies over w. -/
abbrev TwoEnts (w : World) (b1 o1 b2 o2 : Nat) (c d : AEnt) (W : World) : Prop := Cells4 W b1 o1 c ∧ Cells4 W b2 o2 d ∧ b1 < W.heap.size ∧ b2 < W.heap.size ∧ Below w.heap.size w W

theorem twoe_next {w : World} {b1 o1 b2 o2 : Nat} {c d : AEnt} {W W' : World} (h : TwoEnts w b1 o1 b2 o2 c d W) (hb : Below W.heap.size W W') : TwoEnts w b1 o1 b2 o2 c d W' := by
  obtain ⟨h1, h2, h3, h4, h5⟩ := h
  have hz := hb.size
  exact ⟨cells4_next h1 h3 hb, cells4_next h2 h4 hb, by omega, by omega, h5.trans (hb.mono h5.size)⟩

theorem twoe_drew {w : World} {b1 o1 b2 o2 : Nat} {c d : AEnt} {W : World} (h : TwoEnts w b1 o1 b2 o2 c d W) : TwoEnts w b1 o1 b2 o2 c d W.drew := twoe_next h (Below.refl _ _).drew

end Go.Proofs.Ytobblnlefhkanaa
