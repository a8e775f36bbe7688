/- A condition that came in, read: its five cells. Over the seat's translation. -/
import Derived.Test.YtmlclmilchfihaaColOpen
namespace Go.Proofs.Ytmlclmilchfihaa
open Go.ChangeShapes Go.WideShapes Go.ChangeAt Go.RowKit Go.Joins

theorem Try.cells26 : Try.prog.cellsOf 26 = 5 := by kernel_rfl

set_option maxRecDepth 100000 in
theorem cond_cells {H : Type} {enc : TypeId × Value → H} {w : World} {base : Nat} {spare : Nat → Bool} {held : Bool} {fuel : Nat} {cs : List Value} {x : DataW H × List MemPlace}
    (h : DataW.trod enc Try.prog w base spare held fuel 26 cs = some x) :
    ∃ (nm : ByteArray) (how k n : Int) (s : ByteArray), cs = [.string nm, .int .i64 how, .int .i64 k, .int .i64 n, .string s] ∧ nm.size ≤ maxLen ∧ s.size ≤ maxLen := by
  obtain ⟨y0, y1, y2, m, _, hl, h0, h1, h2⟩ := Go.Deep.trod_struct3 Try.underlying26 h
  rw [Try.cells26] at hl
  match cs, hl with
  | [a, b, c, d, e], _ =>
    simp only [Try.cells9, Try.cells3, Try.cells24, List.drop, List.take] at h0 h1 h2
    obtain ⟨z0, z1, z2, m', _, _, g0, g1, g2⟩ := Go.Deep.trod_struct3 Try.underlying24 h2
    simp only [Try.cells9, Try.cells3, List.drop, List.take] at g0 g1 g2
    obtain ⟨nm, e0, _, hnm⟩ := DataW.trod_string Try.underlying9 h0
    obtain ⟨how, e1, _, _⟩ := DataW.trod_int Try.underlying3 h1
    obtain ⟨k, e4, _, _⟩ := DataW.trod_int Try.underlying3 g0
    obtain ⟨n, e5, _, _⟩ := DataW.trod_int Try.underlying3 g1
    obtain ⟨s, e6, _, hs⟩ := DataW.trod_string Try.underlying9 g2
    simp at e0 e1 e4 e5 e6
    subst e0 e1 e4 e5 e6
    exact ⟨_, _, _, _, _, rfl, hnm, hs⟩

theorem open_cond {H : Type} {enc : TypeId × Value → H} {w : World} {base : Nat} {spare : Nat → Bool} {held : Bool} {r : Reach} {b0 : Nat} {v : Value} {d : DataW H} {p : List MemPlace}
    (hv : Value.okWide Try.prog w r b0 26 v) (h : DataW.Trod enc Try.prog w base spare held 26 v d p) :
    ∃ (nm : ByteArray) (how k n : Int) (s : ByteArray), v = .agg #[.string nm, .int .i64 how, .int .i64 k, .int .i64 n, .string s] ∧ nm.size ≤ maxLen ∧ s.size ≤ maxLen := by
  obtain ⟨cs, rfl, _⟩ := okWide_struct Try.underlying26 hv
  obtain ⟨fuel, hf⟩ := h
  obtain ⟨nm, how, k, n, s, hcs, h1, h2⟩ := cond_cells hf
  refine ⟨nm, how, k, n, s, ?_, h1, h2⟩
  congr 1
  apply Array.ext'
  simpa [Value.cells] using hcs

end Go.Proofs.Ytmlclmilchfihaa
