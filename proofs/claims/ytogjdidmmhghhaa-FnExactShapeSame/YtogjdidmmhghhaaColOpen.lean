/- A column that came in, read: its seven cells. Over the seat's translation. -/
import Derived.Test.YtogjdidmmhghhaaRows
import Derived.ProofKit
import Derived.OpenShut
import Derived.ShutString
import Derived.ChangeOld
import Derived.Lib.SmallJoins
namespace Go.Proofs.Ytogjdidmmhghhaa
open Go.ChangeShapes Go.WideShapes Go.ChangeAt Go.RowKit Go.Joins

theorem Try.cells32 : Try.prog.cellsOf 32 = 3 := by kernel_rfl
theorem Try.cells34 : Try.prog.cellsOf 34 = 7 := by kernel_rfl
theorem Try.cells9 : Try.prog.cellsOf 9 = 1 := by kernel_rfl
theorem Try.cells3 : Try.prog.cellsOf 3 = 1 := by kernel_rfl
theorem Try.cells4 : Try.prog.cellsOf 4 = 1 := by kernel_rfl

theorem list7 {α : Type} {cs : List α} (h : cs.length = 7) : ∃ a b c d e f g, cs = [a, b, c, d, e, f, g] := by
  match cs, h with
  | [a, b, c, d, e, f, g], _ => exact ⟨a, b, c, d, e, f, g, rfl⟩

theorem trod_struct5 {H : Type} {enc : TypeId × Value → H} {P : Program} {w : World} {base : Nat} {spare : Nat → Bool} {held : Bool} {t : TypeId} {f0 f1 f2 f3 f4 : Field} {fuel : Nat} {cs : List Value} {x : DataW H × List MemPlace}
    (ht : P.underlying t = some (.struct #[f0, f1, f2, f3, f4])) (h : DataW.trod enc P w base spare held fuel t cs = some x) :
    ∃ y0 y1 y2 y3 y4 n, cs.length = P.cellsOf t ∧ DataW.trod enc P w base spare held n f0.type ((cs.drop f0.offset).take (P.cellsOf f0.type)) = some y0 ∧
      DataW.trod enc P w base spare held n f1.type ((cs.drop f1.offset).take (P.cellsOf f1.type)) = some y1 ∧ DataW.trod enc P w base spare held n f2.type ((cs.drop f2.offset).take (P.cellsOf f2.type)) = some y2 ∧
      DataW.trod enc P w base spare held n f3.type ((cs.drop f3.offset).take (P.cellsOf f3.type)) = some y3 ∧ DataW.trod enc P w base spare held n f4.type ((cs.drop f4.offset).take (P.cellsOf f4.type)) = some y4 := by
  obtain ⟨xs, n, _, rfl, hl, hlen, hf⟩ := DataW.trod_struct ht h
  match xs, hlen with
  | [y0, y1, y2, y3, y4], _ => exact ⟨y0, y1, y2, y3, y4, n, hl, by simpa using hf 0 f0 rfl, by simpa using hf 1 f1 rfl, by simpa using hf 2 f2 rfl, by simpa using hf 3 f3 rfl, by simpa using hf 4 f4 rfl⟩

set_option maxRecDepth 100000 in
theorem col_cells {H : Type} {enc : TypeId × Value → H} {w : World} {base : Nat} {spare : Nat → Bool} {held : Bool} {fuel : Nat} {cs : List Value} {x : DataW H × List MemPlace}
    (h : DataW.trod enc Try.prog w base spare held fuel 34 cs = some x) :
    ∃ (nm : ByteArray) (kd : Int) (nd oc : Bool) (k n : Int) (s : ByteArray), cs = [.string nm, .int .i64 kd, .bool nd, .bool oc, .int .i64 k, .int .i64 n, .string s] ∧ nm.size ≤ maxLen ∧ s.size ≤ maxLen := by
  obtain ⟨y0, y1, y2, y3, y4, m, hl, h0, h1, h2, h3, h4⟩ := trod_struct5 Try.underlying34 h
  rw [Try.cells34] at hl
  obtain ⟨a, b, c, d, e, f, g, rfl⟩ := list7 hl
  simp only [Try.cells9, Try.cells3, Try.cells4, Try.cells32, List.drop, List.take] at h0 h1 h2 h3 h4
  obtain ⟨z0, z1, z2, m', _, _, g0, g1, g2⟩ := Go.Deep.trod_struct3 Try.underlying32 h4
  simp only [Try.cells9, Try.cells3, List.drop, List.take] at g0 g1 g2
  obtain ⟨nm, e0, _, hnm⟩ := DataW.trod_string Try.underlying9 h0
  obtain ⟨kd, e1, _, _⟩ := DataW.trod_int Try.underlying3 h1
  obtain ⟨nd, e2, _⟩ := DataW.trod_bool Try.underlying4 h2
  obtain ⟨oc, e3, _⟩ := DataW.trod_bool Try.underlying4 h3
  obtain ⟨k, e4, _, _⟩ := DataW.trod_int Try.underlying3 g0
  obtain ⟨n, e5, _, _⟩ := DataW.trod_int Try.underlying3 g1
  obtain ⟨s, e6, _, hs⟩ := DataW.trod_string Try.underlying9 g2
  simp at e0 e1 e2 e3 e4 e5 e6
  subst e0 e1 e2 e3 e4 e5 e6
  exact ⟨_, _, _, _, _, _, _, rfl, hnm, hs⟩

set_option maxRecDepth 100000 in
theorem open_col {H : Type} {enc : TypeId × Value → H} {w : World} {base : Nat} {spare : Nat → Bool} {held : Bool} {r : Reach} {b0 : Nat} {v : Value} {d : DataW H} {p : List MemPlace}
    (hv : Value.okWide Try.prog w r b0 34 v) (h : DataW.Trod enc Try.prog w base spare held 34 v d p) :
    ∃ (nm : ByteArray) (kd : Int) (nd oc : Bool) (k n : Int) (s : ByteArray), v = .agg #[.string nm, .int .i64 kd, .bool nd, .bool oc, .int .i64 k, .int .i64 n, .string s] ∧ nm.size ≤ maxLen ∧ s.size ≤ maxLen := by
  obtain ⟨cs, rfl, _⟩ := okWide_struct Try.underlying34 hv
  obtain ⟨fuel, hf⟩ := h
  obtain ⟨nm, kd, nd, oc, k, n, s, hcs, h1, h2⟩ := col_cells hf
  refine ⟨nm, kd, nd, oc, k, n, s, ?_, h1, h2⟩
  congr 1
  apply Array.ext'
  simpa [Value.cells] using hcs

end Go.Proofs.Ytogjdidmmhghhaa
