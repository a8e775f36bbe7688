/- Bases that came in, read. Over the seat's translation. -/
import Derived.Test.YteckjdoiimifaaaTsOpen
import Derived.Test.YteckjdoiimifaaaBsA
namespace Go.Proofs.Yteckjdoiimifaaa
open Go.ChangeShapes Go.WideShapes Go.ChangeAt Go.RowKit Go.Joins

theorem Try.cells119 : Try.prog.cellsOf 119 = 4 := by kernel_rfl
theorem Try.cells117 : Try.prog.cellsOf 117 = 5 := by kernel_rfl
theorem Try.cells46 : Try.prog.cellsOf 46 = 2 := by kernel_rfl
theorem Try.cells43 : Try.prog.cellsOf 43 = 1 := by kernel_rfl
theorem Try.cells44 : Try.prog.cellsOf 44 = 1 := by kernel_rfl

set_option maxRecDepth 100000 in
theorem lnk_cells {H : Type} {enc : TypeId × Value → H} {w : World} {base : Nat} {spare : Nat → Bool} {held : Bool} {fuel : Nat} {cs : List Value} {x : DataW H × List MemPlace}
    (h : DataW.trod enc Try.prog w base spare held fuel 119 cs = some x) : ∃ c : ALnk, cs = c.cells ∧ c.fit := by
  obtain ⟨y0, y1, y2, y3, m, hl, h0, h1, h2, h3⟩ := trod_struct4 Try.underlying119 h
  rw [Try.cells119] at hl
  match cs, hl with
  | [a, b, c, d], _ =>
    simp only [Try.cells9, Try.cells3, List.drop, List.take] at h0 h1 h2 h3
    obtain ⟨fr, e0, _, hfr⟩ := DataW.trod_string Try.underlying9 h0
    obtain ⟨co, e1, _, hco⟩ := DataW.trod_string Try.underlying9 h1
    obtain ⟨tt, e2, _, htt⟩ := DataW.trod_string Try.underlying9 h2
    obtain ⟨hw, e3, _, _⟩ := DataW.trod_int Try.underlying3 h3
    simp at e0 e1 e2 e3
    subst e0 e1 e2 e3
    exact ⟨⟨fr, co, tt, hw⟩, rfl, hfr, hco, htt⟩

theorem open_lnks {H : Type} {enc : TypeId × Value → H} {W : World} {base : Nat} {held : Bool} {v : Value} {d : DataW H} {p : List MemPlace}
    (h : DataW.Trod enc Try.prog W base (fun _ => true) held 44 v d p) (h1 : v.cells.toList = [v]) :
    ∃ (a : Option Addr) (cap : Nat) (L : List ALnk), v = .slice a L.length cap ∧ LnksAt W a L ∧ (∀ c ∈ L, c.fit) ∧ L.length ≤ maxLen := by
  obtain ⟨fuel, hf⟩ := h
  rw [h1] at hf
  rcases Go.Deep.open_slice Try.underlying44 hf with ⟨hcs, _⟩ | ⟨x, len, cap, m, n, D, Pl, hcs, _, hlc, hm, hmm, _, hx⟩
  · simp at hcs
    exact ⟨none, 0, [], hcs, Or.inl rfl, fun c hc => by simp at hc, Nat.zero_le _⟩
  · simp at hcs
    rw [Try.cells119] at hx
    have hlm : len ≤ m := by rw [hmm]; simpa using hlc
    have hq : ∀ i, i < len → ∃ c : ALnk, W.cells? base (x.add (i * 4)) 4 = some c.cells ∧ c.fit := fun i hi => by
      obtain ⟨cs, hc, ht⟩ := hx i (by omega)
      obtain ⟨c, rfl, hft⟩ := lnk_cells ht
      exact ⟨c, hc, hft⟩
    have : Inhabited ALnk := ⟨⟨⟨#[]⟩, ⟨#[]⟩, ⟨#[]⟩, 0⟩⟩
    obtain ⟨F, hF⟩ := Go.Deep.choose_lt hq
    refine ⟨some x, cap, (List.range len).map F, by simpa using hcs, ?_, ?_, by simp; omega⟩
    · by_cases h0 : len = 0
      · left; simp [h0]
      · right
        obtain ⟨b, o, spot⟩ := x
        have hcell : ∀ i, i < len → ∀ j v, (F i).cells[j]? = some v → W.cell? (((⟨b, o, spot⟩ : Addr).add (i * 4)).add j) = some v := fun i hi j v hv => by
          obtain ⟨_, hl, hc⟩ := World.cells?_some (hF i hi).1
          have hj : j < 4 := by rw [← hl]; exact (List.getElem?_eq_some_iff.1 hv).1
          rw [hc j hj]; exact hv
        have hc0 := hcell 0 (by omega) 0 _ rfl
        have hspot : spot = none := by simpa [Addr.add] using World.cell?_spot hc0
        subst hspot
        refine ⟨b, o, rfl, ?_, fun i c hc j v hv => ?_⟩
        · have := World.block_lt_of_cell? W _ hc0
          simpa [Addr.add] using this
        · obtain ⟨hi, rfl⟩ := List.getElem?_eq_some_iff.1 hc
          simp only [List.length_map, List.length_range] at hi
          have := hcell i hi j v (by simpa using hv)
          rwa [Addr.add_mid, Addr.add_mid] at this
    · intro c hc
      obtain ⟨i, hi, rfl⟩ := List.mem_map.1 hc
      exact (hF i (List.mem_range.1 hi)).2

/-- A table with where its lists lie. -/
structure QTab where
  t : ATab
  p : PTab

set_option maxRecDepth 100000 in
theorem tab_cells {H : Type} {enc : TypeId × Value → H} {W : World} {base : Nat} {held : Bool} {fuel : Nat} {a b c e : Value} {x : DataW H × List MemPlace}
    (h : DataW.trod enc Try.prog W base (fun _ => true) held fuel 39 [a, b, c, e] = some x) :
    ∃ q : QTab, a = .slice q.p.a0 q.t.cols.length q.p.c0 ∧ b = .slice q.p.a1 q.t.chgs.length q.p.c1 ∧ c = .slice q.p.a2 q.t.rows.length q.p.c2 ∧ e = .int .i64 q.t.nx ∧ TabAt W q.p.a0 q.p.a1 q.p.a2 q.t ∧ q.t.fit := by
  obtain ⟨y0, y1, y2, y3, m, _, h0, h1, h2, h3⟩ := trod_struct4 Try.underlying39 h
  simp only [Try.cells3, Try.cells22, Try.cells36, Try.cells37, List.drop, List.take] at h0 h1 h2 h3
  have k0 := slice_cell Try.underlying22 h0
  have k1 := slice_cell Try.underlying36 h1
  have k2 := slice_cell Try.underlying37 h2
  obtain ⟨a0, c0, L0, rfl, hL0, hf0, hm0⟩ := open_cols (v := a) ⟨m, by rw [k0]; exact h0⟩ k0
  obtain ⟨a1, c1, L1, rfl, hL1, hf1, hm1⟩ := open_chgs (v := b) ⟨m, by rw [k1]; exact h1⟩ k1
  obtain ⟨a2, c2, L2, rfl, hL2, hf2, hm2⟩ := open_rows (v := c) ⟨m, by rw [k2]; exact h2⟩ k2
  obtain ⟨nx, e3, _, _⟩ := DataW.trod_int Try.underlying3 h3
  simp at e3
  subst e3
  exact ⟨⟨⟨L0, L1, L2, nx⟩, ⟨a0, a1, a2, c0, c1, c2⟩⟩, rfl, rfl, rfl, rfl, ⟨hL0, hL1, hL2⟩, hf0, hm0, hf1, hm1, hf2, hm2⟩

set_option maxRecDepth 100000 in
theorem nam_cells {H : Type} {enc : TypeId × Value → H} {W : World} {base : Nat} {held : Bool} {fuel : Nat} {cs : List Value} {x : DataW H × List MemPlace}
    (h : DataW.trod enc Try.prog W base (fun _ => true) held fuel 117 cs = some x) : ∃ (r : ANam) (p : PTab), cs = r.cells p ∧ TabAt W p.a0 p.a1 p.a2 r.t ∧ r.fit := by
  obtain ⟨y0, y1, m, _, hl, h0, h1⟩ := trod_struct2 Try.underlying117 h
  rw [Try.cells117] at hl
  match cs, hl with
  | [a, b, c, d, e], _ =>
    simp only [Try.cells9, Try.cells39, List.drop, List.take] at h0 h1
    obtain ⟨nm, e0, _, hnm⟩ := DataW.trod_string Try.underlying9 h0
    obtain ⟨q, rfl, rfl, rfl, rfl, hT, hf⟩ := tab_cells h1
    simp at e0
    subst e0
    exact ⟨⟨nm, q.t⟩, q.p, rfl, hT, hnm, hf⟩

/-- A table with its name, with where its lists lie. -/
structure QNam where
  r : ANam
  p : PTab

theorem open_nams {H : Type} {enc : TypeId × Value → H} {W : World} {base : Nat} {held : Bool} {v : Value} {d : DataW H} {p : List MemPlace}
    (h : DataW.Trod enc Try.prog W base (fun _ => true) held 43 v d p) (h1 : v.cells.toList = [v]) :
    ∃ (a : Option Addr) (cap : Nat) (L : List ANam), v = .slice a L.length cap ∧ NamsAt W a L ∧ (∀ c ∈ L, c.fit) ∧ L.length ≤ maxLen := by
  obtain ⟨fuel, hf⟩ := h
  rw [h1] at hf
  rcases Go.Deep.open_slice Try.underlying43 hf with ⟨hcs, _⟩ | ⟨x, len, cap, m, n, D, Pl, hcs, _, hlc, hm, hmm, _, hx⟩
  · simp at hcs
    exact ⟨none, 0, [], hcs, Or.inl rfl, fun c hc => by simp at hc, Nat.zero_le _⟩
  · simp at hcs
    rw [Try.cells117] at hx
    have hlm : len ≤ m := by rw [hmm]; simpa using hlc
    have hq : ∀ i, i < len → ∃ c : QNam, W.cells? base (x.add (i * 5)) 5 = some (c.r.cells c.p) ∧ TabAt W c.p.a0 c.p.a1 c.p.a2 c.r.t ∧ c.r.fit := fun i hi => by
      obtain ⟨cs, hc, ht⟩ := hx i (by omega)
      obtain ⟨r, q, rfl, hv, hft⟩ := nam_cells ht
      exact ⟨⟨r, q⟩, hc, hv, hft⟩
    have : Inhabited QNam := ⟨⟨⟨⟨#[]⟩, ⟨[], [], [], 0⟩⟩, ⟨none, none, none, 0, 0, 0⟩⟩⟩
    obtain ⟨F, hF⟩ := Go.Deep.choose_lt hq
    refine ⟨some x, cap, (List.range len).map (fun i => (F i).r), by simpa using hcs, ?_, ?_, by simp; omega⟩
    · by_cases h0 : len = 0
      · left; simp [h0]
      · right
        obtain ⟨b, o, spot⟩ := x
        have hcell : ∀ i, i < len → ∀ j v, ((F i).r.cells (F i).p)[j]? = some v → W.cell? (((⟨b, o, spot⟩ : Addr).add (i * 5)).add j) = some v := fun i hi j v hv => by
          obtain ⟨_, hl, hc⟩ := World.cells?_some (hF i hi).1
          have hj : j < 5 := by rw [← hl]; exact (List.getElem?_eq_some_iff.1 hv).1
          rw [hc j hj]; exact hv
        have hc0 := hcell 0 (by omega) 0 _ rfl
        have hspot : spot = none := by simpa [Addr.add] using World.cell?_spot hc0
        subst hspot
        refine ⟨b, o, rfl, ?_, fun i c hc => ?_⟩
        · have := World.block_lt_of_cell? W _ hc0
          simpa [Addr.add] using this
        · obtain ⟨hi, rfl⟩ := List.getElem?_eq_some_iff.1 hc
          simp only [List.length_map, List.length_range] at hi
          simp only [List.getElem_map, List.getElem_range]
          refine ⟨(F i).p, fun j v hv => ?_, (hF i hi).2.1⟩
          have := hcell i hi j v hv
          rwa [Addr.add_mid, Addr.add_mid] at this
    · intro c hc
      obtain ⟨i, hi, rfl⟩ := List.mem_map.1 hc
      exact (hF i (List.mem_range.1 hi)).2.2

set_option maxRecDepth 100000 in
theorem open_base {H : Type} {enc : TypeId × Value → H} {w : World} {base : Nat} {held : Bool} {r : Reach} {b0 : Nat} {v : Value} {d : DataW H} {p : List MemPlace}
    (hv : Value.okWide Try.prog w r b0 46 v) (h : DataW.Trod enc Try.prog w base (fun _ => true) held 46 v d p) :
    ∃ (x : ABas) (a0 a1 : Option Addr) (c0 c1 : Nat), v = .agg #[.slice a0 x.tabs.length c0, .slice a1 x.lnks.length c1] ∧ BasAt w a0 a1 x ∧ x.fit := by
  obtain ⟨cs, rfl, _⟩ := okWide_struct Try.underlying46 hv
  obtain ⟨fuel, hf⟩ := h
  obtain ⟨y0, y1, m, _, hl, h0, h1⟩ := trod_struct2 Try.underlying46 hf
  rw [Try.cells46] at hl
  have hcs : ∃ a b, cs.toList = [a, b] := by
    have : cs.toList.length = 2 := by simpa [Value.cells] using hl
    match cs.toList, this with
    | [a, b], _ => exact ⟨a, b, rfl⟩
  obtain ⟨a, b, hcs⟩ := hcs
  have hcl : (Value.agg cs).cells.toList = [a, b] := by simpa [Value.cells] using hcs
  rw [hcl] at h0 h1
  simp only [Try.cells43, Try.cells44, List.drop, List.take] at h0 h1
  have k0 := slice_cell Try.underlying43 h0
  have k1 := slice_cell Try.underlying44 h1
  obtain ⟨a0, c0, L0, rfl, hL0, hf0, hm0⟩ := open_nams (v := a) ⟨m, by rw [k0]; exact h0⟩ k0
  obtain ⟨a1, c1, L1, rfl, hL1, hf1, hm1⟩ := open_lnks (v := b) ⟨m, by rw [k1]; exact h1⟩ k1
  refine ⟨⟨L0, L1⟩, a0, a1, c0, c1, ?_, ⟨hL0, hL1⟩, hf0, hm0, hf1, hm1⟩
  congr 1
  apply Array.ext'
  simpa using hcs

end Go.Proofs.Yteckjdoiimifaaa
