/- Tables that came in, read. Over the seat's translation. -/
import Derived.Test.YteckjdoiimifaaaShOpen
import Derived.Test.YteckjdoiimifaaaRwOpen
import Derived.Test.YteckjdoiimifaaaTsA
import Derived.Deep.Slices
namespace Go.Proofs.Yteckjdoiimifaaa
open Go.ChangeShapes Go.WideShapes Go.ChangeAt Go.RowKit Go.Joins

theorem Try.cells107 : Try.prog.cellsOf 107 = 10 := by kernel_rfl
theorem Try.cells111 : Try.prog.cellsOf 111 = 3 := by kernel_rfl
theorem Try.cells39 : Try.prog.cellsOf 39 = 4 := by kernel_rfl
theorem Try.cells109 : Try.prog.cellsOf 109 = 1 := by kernel_rfl
theorem Try.cells22 : Try.prog.cellsOf 22 = 1 := by kernel_rfl
theorem Try.cells36 : Try.prog.cellsOf 36 = 1 := by kernel_rfl
theorem Try.cells37 : Try.prog.cellsOf 37 = 1 := by kernel_rfl

theorem list10 {α : Type} {cs : List α} (h : cs.length = 10) : ∃ a b c d e f g i j k, cs = [a, b, c, d, e, f, g, i, j, k] := by
  match cs, h with
  | [a, b, c, d, e, f, g, i, j, k], _ => exact ⟨a, b, c, d, e, f, g, i, j, k, rfl⟩

theorem trod_struct4 {H : Type} {enc : TypeId × Value → H} {P : Program} {w : World} {base : Nat} {spare : Nat → Bool} {held : Bool} {t : TypeId} {f0 f1 f2 f3 : Field} {fuel : Nat} {cs : List Value} {x : DataW H × List MemPlace}
    (ht : P.underlying t = some (.struct #[f0, f1, f2, f3])) (h : DataW.trod enc P w base spare held fuel t cs = some x) :
    ∃ y0 y1 y2 y3 n, cs.length = P.cellsOf t ∧ DataW.trod enc P w base spare held n f0.type ((cs.drop f0.offset).take (P.cellsOf f0.type)) = some y0 ∧
      DataW.trod enc P w base spare held n f1.type ((cs.drop f1.offset).take (P.cellsOf f1.type)) = some y1 ∧ DataW.trod enc P w base spare held n f2.type ((cs.drop f2.offset).take (P.cellsOf f2.type)) = some y2 ∧
      DataW.trod enc P w base spare held n f3.type ((cs.drop f3.offset).take (P.cellsOf f3.type)) = some y3 := by
  obtain ⟨xs, n, _, rfl, hl, hlen, hf⟩ := DataW.trod_struct ht h
  match xs, hlen with
  | [y0, y1, y2, y3], _ => exact ⟨y0, y1, y2, y3, n, hl, by simpa using hf 0 f0 rfl, by simpa using hf 1 f1 rfl, by simpa using hf 2 f2 rfl, by simpa using hf 3 f3 rfl⟩

set_option maxRecDepth 100000 in
theorem chg_cells {H : Type} {enc : TypeId × Value → H} {w : World} {base : Nat} {spare : Nat → Bool} {held : Bool} {fuel : Nat} {cs : List Value} {x : DataW H × List MemPlace}
    (h : DataW.trod enc Try.prog w base spare held fuel 107 cs = some x) : ∃ c : AChg, cs = c.cells ∧ c.fit := by
  obtain ⟨y0, y1, y2, y3, m, hl, h0, h1, h2, h3⟩ := trod_struct4 Try.underlying107 h
  rw [Try.cells107] at hl
  obtain ⟨a, b, c, d, e, f, g, i, j, k, rfl⟩ := list10 hl
  simp only [Try.cells9, Try.cells3, Try.cells59, List.drop, List.take] at h0 h1 h2 h3
  obtain ⟨kd, e0, _, _⟩ := DataW.trod_int Try.underlying3 h0
  obtain ⟨nm, e1, _, hnm⟩ := DataW.trod_string Try.underlying9 h1
  obtain ⟨nw, e2, _, hnw⟩ := DataW.trod_string Try.underlying9 h2
  obtain ⟨cn, ck, nd, oc, kk, n, s, e3, hcn, hs⟩ := col_cells h3
  simp at e0 e1 e2 e3
  obtain ⟨rfl, rfl, rfl, rfl, rfl, rfl, rfl⟩ := e3
  subst e0 e1 e2
  exact ⟨⟨kd, nm, nw, ⟨cn, ck, nd, oc, kk, n, s⟩⟩, rfl, hnm, hnw, hcn, hs⟩

/-- Values that came in, off the one cell of their slice. -/
theorem vals_cells {H : Type} {enc : TypeId × Value → H} {W : World} {base : Nat} {held : Bool} {fuel : Nat} {v : Value} {x : DataW H × List MemPlace}
    (h : DataW.trod enc Try.prog W base (fun _ => true) held fuel 109 [v] = some x) :
    ∃ (a : Option Addr) (cap : Nat) (L : List AVal), v = .slice a L.length cap ∧ ValsAt W a L ∧ (∀ c ∈ L, c.fit) ∧ L.length ≤ maxLen := by
  rcases Go.Deep.open_slice Try.underlying109 h with ⟨hcs, _⟩ | ⟨x, len, cap, m, n, D, Pl, hcs, _⟩
  · simp at hcs
    subst hcs
    exact open_vals (v := .slice none 0 0) ⟨fuel, h⟩ rfl
  · simp at hcs
    subst hcs
    exact open_vals (v := .slice (some x) len cap) ⟨fuel, h⟩ rfl

theorem open_chgs {H : Type} {enc : TypeId × Value → H} {W : World} {base : Nat} {held : Bool} {v : Value} {d : DataW H} {p : List MemPlace}
    (h : DataW.Trod enc Try.prog W base (fun _ => true) held 36 v d p) (h1 : v.cells.toList = [v]) :
    ∃ (a : Option Addr) (cap : Nat) (L : List AChg), v = .slice a L.length cap ∧ ChgsAt W a L ∧ (∀ c ∈ L, c.fit) ∧ L.length ≤ maxLen := by
  obtain ⟨fuel, hf⟩ := h
  rw [h1] at hf
  rcases Go.Deep.open_slice Try.underlying36 hf with ⟨hcs, _⟩ | ⟨x, len, cap, m, n, D, Pl, hcs, _, hlc, hm, hmm, _, hx⟩
  · simp at hcs
    exact ⟨none, 0, [], hcs, Or.inl rfl, fun c hc => by simp at hc, Nat.zero_le _⟩
  · simp at hcs
    rw [Try.cells107] at hx
    have hlm : len ≤ m := by rw [hmm]; simpa using hlc
    have hq : ∀ i, i < len → ∃ c : AChg, W.cells? base (x.add (i * 10)) 10 = some c.cells ∧ c.fit := fun i hi => by
      obtain ⟨cs, hc, ht⟩ := hx i (by omega)
      obtain ⟨c, rfl, hft⟩ := chg_cells ht
      exact ⟨c, hc, hft⟩
    have : Inhabited AChg := ⟨⟨0, ⟨#[]⟩, ⟨#[]⟩, ⟨⟨#[]⟩, 0, false, false, 0, 0, ⟨#[]⟩⟩⟩⟩
    obtain ⟨F, hF⟩ := Go.Deep.choose_lt hq
    refine ⟨some x, cap, (List.range len).map F, by simpa using hcs, ?_, ?_, by simp; omega⟩
    · by_cases h0 : len = 0
      · left; simp [h0]
      · right
        obtain ⟨b, o, spot⟩ := x
        have hcell : ∀ i, i < len → ∀ j v, (F i).cells[j]? = some v → W.cell? (((⟨b, o, spot⟩ : Addr).add (i * 10)).add j) = some v := fun i hi j v hv => by
          obtain ⟨_, hl, hc⟩ := World.cells?_some (hF i hi).1
          have hj : j < 10 := by rw [← hl]; exact (List.getElem?_eq_some_iff.1 hv).1
          rw [hc j hj]; exact hv
        have hc0 := hcell 0 (by omega) 0 _ rfl
        have hspot : spot = none := by simpa [Addr.add] using World.cell?_spot hc0
        subst hspot
        refine ⟨b, o, rfl, ?_, fun i c hc j v hv => ?_⟩
        · have := World.block_lt_of_cell? W _ hc0
          simpa [Addr.add] using this
        · obtain ⟨hi, rfl⟩ := List.getElem?_eq_some_iff.1 hc
          simp only [List.length_map, List.length_range] at hi
          have := hcell i hi j v (by simpa using hv)
          rwa [Addr.add_mid, Addr.add_mid] at this
    · intro c hc
      obtain ⟨i, hi, rfl⟩ := List.mem_map.1 hc
      exact (hF i (List.mem_range.1 hi)).2

set_option maxRecDepth 100000 in
theorem row_cells {H : Type} {enc : TypeId × Value → H} {W : World} {base : Nat} {held : Bool} {fuel : Nat} {cs : List Value} {x : DataW H × List MemPlace}
    (h : DataW.trod enc Try.prog W base (fun _ => true) held fuel 111 cs = some x) : ∃ (r : ARow) (a : Option Addr) (cap : Nat), cs = r.cells a cap ∧ ValsAt W a r.vals ∧ r.fit := by
  obtain ⟨y0, y1, y2, m, _, hl, h0, h1, h2⟩ := Go.Deep.trod_struct3 Try.underlying111 h
  rw [Try.cells111] at hl
  match cs, hl with
  | [a, b, c], _ =>
    simp only [Try.cells3, Try.cells109, List.drop, List.take] at h0 h1 h2
    obtain ⟨id, e0, _, _⟩ := DataW.trod_int Try.underlying3 h0
    obtain ⟨ver, e1, _, _⟩ := DataW.trod_int Try.underlying3 h1
    obtain ⟨ra, rc, L, e2, hL, hf, hm⟩ := vals_cells h2
    simp at e0 e1
    subst e0 e1 e2
    exact ⟨⟨id, ver, L⟩, ra, rc, rfl, hL, hf, hm⟩

/-- A row with where its values lie. -/
structure PRow where
  r : ARow
  a : Option Addr
  cap : Nat

theorem open_rows {H : Type} {enc : TypeId × Value → H} {W : World} {base : Nat} {held : Bool} {v : Value} {d : DataW H} {p : List MemPlace}
    (h : DataW.Trod enc Try.prog W base (fun _ => true) held 37 v d p) (h1 : v.cells.toList = [v]) :
    ∃ (a : Option Addr) (cap : Nat) (L : List ARow), v = .slice a L.length cap ∧ RowsAt W a L ∧ (∀ c ∈ L, c.fit) ∧ L.length ≤ maxLen := by
  obtain ⟨fuel, hf⟩ := h
  rw [h1] at hf
  rcases Go.Deep.open_slice Try.underlying37 hf with ⟨hcs, _⟩ | ⟨x, len, cap, m, n, D, Pl, hcs, _, hlc, hm, hmm, _, hx⟩
  · simp at hcs
    exact ⟨none, 0, [], hcs, Or.inl rfl, fun c hc => by simp at hc, Nat.zero_le _⟩
  · simp at hcs
    rw [Try.cells111] at hx
    have hlm : len ≤ m := by rw [hmm]; simpa using hlc
    have hq : ∀ i, i < len → ∃ c : PRow, W.cells? base (x.add (i * 3)) 3 = some (c.r.cells c.a c.cap) ∧ ValsAt W c.a c.r.vals ∧ c.r.fit := fun i hi => by
      obtain ⟨cs, hc, ht⟩ := hx i (by omega)
      obtain ⟨r, ra, rc, rfl, hv, hft⟩ := row_cells ht
      exact ⟨⟨r, ra, rc⟩, hc, hv, hft⟩
    have : Inhabited PRow := ⟨⟨⟨0, 0, []⟩, none, 0⟩⟩
    obtain ⟨F, hF⟩ := Go.Deep.choose_lt hq
    refine ⟨some x, cap, (List.range len).map (fun i => (F i).r), by simpa using hcs, ?_, ?_, by simp; omega⟩
    · by_cases h0 : len = 0
      · left; simp [h0]
      · right
        obtain ⟨b, o, spot⟩ := x
        have hcell : ∀ i, i < len → ∀ j v, ((F i).r.cells (F i).a (F i).cap)[j]? = some v → W.cell? (((⟨b, o, spot⟩ : Addr).add (i * 3)).add j) = some v := fun i hi j v hv => by
          obtain ⟨_, hl, hc⟩ := World.cells?_some (hF i hi).1
          have hj : j < 3 := by rw [← hl]; exact (List.getElem?_eq_some_iff.1 hv).1
          rw [hc j hj]; exact hv
        have hc0 := hcell 0 (by omega) 0 _ rfl
        have hspot : spot = none := by simpa [Addr.add] using World.cell?_spot hc0
        subst hspot
        refine ⟨b, o, rfl, ?_, fun i c hc => ?_⟩
        · have := World.block_lt_of_cell? W _ hc0
          simpa [Addr.add] using this
        · obtain ⟨hi, rfl⟩ := List.getElem?_eq_some_iff.1 hc
          simp only [List.length_map, List.length_range] at hi
          simp only [List.getElem_map, List.getElem_range]
          refine ⟨(F i).a, (F i).cap, fun j v hv => ?_, (hF i hi).2.1⟩
          have := hcell i hi j v hv
          rwa [Addr.add_mid, Addr.add_mid] at this
    · intro c hc
      obtain ⟨i, hi, rfl⟩ := List.mem_map.1 hc
      exact (hF i (List.mem_range.1 hi)).2.2

theorem slice_cell {P : Program} {H : Type} {enc : TypeId × Value → H} {W : World} {base : Nat} {held : Bool} {fuel : Nat} {t e : TypeId} {v : Value} {x : DataW H × List MemPlace} (ht : P.underlying t = some (.slice e))
    (h : DataW.trod enc P W base (fun _ => true) held fuel t [v] = some x) : v.cells.toList = [v] := by
  rcases Go.Deep.open_slice ht h with ⟨hcs, _⟩ | ⟨x, len, cap, m, n, D, Pl, hcs, _⟩
  · simp at hcs
    subst hcs
    rfl
  · simp at hcs
    subst hcs
    rfl

set_option maxRecDepth 100000 in
theorem open_table {H : Type} {enc : TypeId × Value → H} {w : World} {base : Nat} {held : Bool} {r : Reach} {b0 : Nat} {v : Value} {d : DataW H} {p : List MemPlace}
    (hv : Value.okWide Try.prog w r b0 39 v) (h : DataW.Trod enc Try.prog w base (fun _ => true) held 39 v d p) :
    ∃ (t : ATab) (a0 a1 a2 : Option Addr) (c0 c1 c2 : Nat), v = .agg #[.slice a0 t.cols.length c0, .slice a1 t.chgs.length c1, .slice a2 t.rows.length c2, .int .i64 t.nx] ∧ TabAt w a0 a1 a2 t ∧ t.fit := by
  obtain ⟨cs, rfl, _⟩ := okWide_struct Try.underlying39 hv
  obtain ⟨fuel, hf⟩ := h
  obtain ⟨y0, y1, y2, y3, m, hl, h0, h1, h2, h3⟩ := trod_struct4 Try.underlying39 hf
  rw [Try.cells39] at hl
  have hcs : ∃ a b c e, cs.toList = [a, b, c, e] := by
    have : cs.toList.length = 4 := by simpa [Value.cells] using hl
    match cs.toList, this with
    | [a, b, c, e], _ => exact ⟨a, b, c, e, rfl⟩
  obtain ⟨a, b, c, e, hcs⟩ := hcs
  have hcl : (Value.agg cs).cells.toList = [a, b, c, e] := by simpa [Value.cells] using hcs
  rw [hcl] at h0 h1 h2 h3
  simp only [Try.cells3, Try.cells22, Try.cells36, Try.cells37, List.drop, List.take] at h0 h1 h2 h3
  have k0 := slice_cell Try.underlying22 h0
  have k1 := slice_cell Try.underlying36 h1
  have k2 := slice_cell Try.underlying37 h2
  obtain ⟨a0, c0, L0, rfl, hL0, hf0, hm0⟩ := open_cols (v := a) ⟨m, by rw [k0]; exact h0⟩ k0
  obtain ⟨a1, c1, L1, rfl, hL1, hf1, hm1⟩ := open_chgs (v := b) ⟨m, by rw [k1]; exact h1⟩ k1
  obtain ⟨a2, c2, L2, rfl, hL2, hf2, hm2⟩ := open_rows (v := c) ⟨m, by rw [k2]; exact h2⟩ k2
  obtain ⟨nx, e3, _, _⟩ := DataW.trod_int Try.underlying3 h3
  simp at e3
  subst e3
  refine ⟨⟨L0, L1, L2, nx⟩, a0, a1, a2, c0, c1, c2, ?_, ⟨hL0, hL1, hL2⟩, hf0, hm0, hf1, hm1, hf2, hm2⟩
  congr 1
  apply Array.ext'
  simpa using hcs

end Go.Proofs.Yteckjdoiimifaaa
