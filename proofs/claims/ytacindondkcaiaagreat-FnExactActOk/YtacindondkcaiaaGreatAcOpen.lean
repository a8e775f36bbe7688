/- What is done that came in, read. Over the seat's translation. -/
import Derived.Test.YtacindondkcaiaaGreatShOpen
import Derived.Test.YtacindondkcaiaaGreatAcA0
namespace Go.Proofs.YtacindondkcaiaaGreat
open Go.ChangeShapes Go.WideShapes Go.ChangeAt Go.RowKit Go.Joins

theorem Tryz.cells29 : Tryz.prog.cellsOf 29 = 10 := by kernel_rfl
theorem Tryz.cells31 : Tryz.prog.cellsOf 31 = 4 := by kernel_rfl
theorem Tryz.cells72 : Tryz.prog.cellsOf 72 = 4 := by kernel_rfl
theorem Tryz.cells33 : Tryz.prog.cellsOf 33 = 19 := by kernel_rfl
theorem Tryz.cells22 : Tryz.prog.cellsOf 22 = 1 := by kernel_rfl
theorem Tryz.cells23 : Tryz.prog.cellsOf 23 = 1 := by kernel_rfl

theorem list10 {α : Type} {cs : List α} (h : cs.length = 10) : ∃ a b c d e f g i j k, cs = [a, b, c, d, e, f, g, i, j, k] := by
  match cs, h with
  | [a, b, c, d, e, f, g, i, j, k], _ => exact ⟨a, b, c, d, e, f, g, i, j, k, rfl⟩

theorem trod_struct4 {H : Type} {enc : TypeId × Value → H} {P : Program} {w : World} {base : Nat} {spare : Nat → Bool} {held : Bool} {t : TypeId} {f0 f1 f2 f3 : Field} {fuel : Nat} {cs : List Value} {x : DataW H × List MemPlace}
    (ht : P.underlying t = some (.struct #[f0, f1, f2, f3])) (h : DataW.trod enc P w base spare held fuel t cs = some x) :
    ∃ y0 y1 y2 y3 n, cs.length = P.cellsOf t ∧ DataW.trod enc P w base spare held n f0.type ((cs.drop f0.offset).take (P.cellsOf f0.type)) = some y0 ∧
      DataW.trod enc P w base spare held n f1.type ((cs.drop f1.offset).take (P.cellsOf f1.type)) = some y1 ∧ DataW.trod enc P w base spare held n f2.type ((cs.drop f2.offset).take (P.cellsOf f2.type)) = some y2 ∧
      DataW.trod enc P w base spare held n f3.type ((cs.drop f3.offset).take (P.cellsOf f3.type)) = some y3 := by
  obtain ⟨xs, n, _, rfl, hl, hlen, hf⟩ := DataW.trod_struct ht h
  match xs, hlen with
  | [y0, y1, y2, y3], _ => exact ⟨y0, y1, y2, y3, n, hl, by simpa using hf 0 f0 rfl, by simpa using hf 1 f1 rfl, by simpa using hf 2 f2 rfl, by simpa using hf 3 f3 rfl⟩

set_option maxRecDepth 100000 in
theorem chg_cells {H : Type} {enc : TypeId × Value → H} {w : World} {base : Nat} {spare : Nat → Bool} {held : Bool} {fuel : Nat} {cs : List Value} {x : DataW H × List MemPlace}
    (h : DataW.trod enc Tryz.prog w base spare held fuel 29 cs = some x) : ∃ c : AChg, cs = c.cells ∧ c.fit := by
  obtain ⟨y0, y1, y2, y3, m, hl, h0, h1, h2, h3⟩ := trod_struct4 Tryz.underlying29 h
  rw [Tryz.cells29] at hl
  obtain ⟨a, b, c, d, e, f, g, i, j, k, rfl⟩ := list10 hl
  simp only [Tryz.cells9, Tryz.cells3, Tryz.cells27, List.drop, List.take] at h0 h1 h2 h3
  obtain ⟨kd, e0, _, _⟩ := DataW.trod_int Tryz.underlying3 h0
  obtain ⟨nm, e1, _, hnm⟩ := DataW.trod_string Tryz.underlying9 h1
  obtain ⟨nw, e2, _, hnw⟩ := DataW.trod_string Tryz.underlying9 h2
  obtain ⟨cn, ck, nd, oc, kk, n, s, e3, hcn, hs⟩ := col_cells h3
  simp at e0 e1 e2 e3
  obtain ⟨rfl, rfl, rfl, rfl, rfl, rfl, rfl⟩ := e3
  subst e0 e1 e2
  exact ⟨⟨kd, nm, nw, ⟨cn, ck, nd, oc, kk, n, s⟩⟩, rfl, hnm, hnw, hcn, hs⟩

set_option maxRecDepth 100000 in
theorem lnk_cells {H : Type} {enc : TypeId × Value → H} {w : World} {base : Nat} {spare : Nat → Bool} {held : Bool} {fuel : Nat} {cs : List Value} {x : DataW H × List MemPlace}
    (h : DataW.trod enc Tryz.prog w base spare held fuel 31 cs = some x) : ∃ c : ALnk, cs = c.cells ∧ c.fit := by
  obtain ⟨y0, y1, y2, y3, m, hl, h0, h1, h2, h3⟩ := trod_struct4 Tryz.underlying31 h
  rw [Tryz.cells31] at hl
  match cs, hl with
  | [a, b, c, d], _ =>
    simp only [Tryz.cells9, Tryz.cells3, List.drop, List.take] at h0 h1 h2 h3
    obtain ⟨fr, e0, _, hfr⟩ := DataW.trod_string Tryz.underlying9 h0
    obtain ⟨co, e1, _, hco⟩ := DataW.trod_string Tryz.underlying9 h1
    obtain ⟨tt, e2, _, htt⟩ := DataW.trod_string Tryz.underlying9 h2
    obtain ⟨hw, e3, _, _⟩ := DataW.trod_int Tryz.underlying3 h3
    simp at e0 e1 e2 e3
    subst e0 e1 e2 e3
    exact ⟨⟨fr, co, tt, hw⟩, rfl, hfr, hco, htt⟩

set_option maxRecDepth 100000 in
theorem val_cells {H : Type} {enc : TypeId × Value → H} {w : World} {base : Nat} {spare : Nat → Bool} {held : Bool} {fuel : Nat} {cs : List Value} {x : DataW H × List MemPlace}
    (h : DataW.trod enc Tryz.prog w base spare held fuel 25 cs = some x) :
    ∃ (k n : Int) (s : ByteArray), cs = [.int .i64 k, .int .i64 n, .string s] ∧ s.size ≤ maxLen := by
  obtain ⟨z0, z1, z2, m', _, hl, g0, g1, g2⟩ := Go.Deep.trod_struct3 Tryz.underlying25 h
  rw [Tryz.cells25] at hl
  match cs, hl with
  | [a, b, c], _ =>
    simp only [Tryz.cells9, Tryz.cells3, List.drop, List.take] at g0 g1 g2
    obtain ⟨k, e4, _, _⟩ := DataW.trod_int Tryz.underlying3 g0
    obtain ⟨n, e5, _, _⟩ := DataW.trod_int Tryz.underlying3 g1
    obtain ⟨s, e6, _, hs⟩ := DataW.trod_string Tryz.underlying9 g2
    simp at e4 e5 e6
    subst e4 e5 e6
    exact ⟨_, _, _, rfl, hs⟩

set_option maxRecDepth 100000 in
theorem set_cells {H : Type} {enc : TypeId × Value → H} {w : World} {base : Nat} {spare : Nat → Bool} {held : Bool} {fuel : Nat} {cs : List Value} {x : DataW H × List MemPlace}
    (h : DataW.trod enc Tryz.prog w base spare held fuel 72 cs = some x) : ∃ c : ASet, cs = c.cells ∧ c.fit := by
  obtain ⟨y0, y1, m, _, hl, h0, h1⟩ := trod_struct2 Tryz.underlying72 h
  rw [Tryz.cells72] at hl
  match cs, hl with
  | [a, b, c, d], _ =>
    simp only [Tryz.cells9, Tryz.cells25, List.drop, List.take] at h0 h1
    obtain ⟨nm, e0, _, hnm⟩ := DataW.trod_string Tryz.underlying9 h0
    obtain ⟨k, n, s, e1, hs⟩ := val_cells h1
    simp at e0 e1
    obtain ⟨rfl, rfl, rfl⟩ := e1
    subst e0
    exact ⟨⟨nm, k, n, s⟩, rfl, hnm, hs⟩

theorem open_sets {H : Type} {enc : TypeId × Value → H} {W : World} {base : Nat} {held : Bool} {v : Value} {d : DataW H} {p : List MemPlace}
    (h : DataW.Trod enc Tryz.prog W base (fun _ => true) held 22 v d p) (h1 : v.cells.toList = [v]) :
    ∃ (a : Option Addr) (cap : Nat) (L : List ASet), v = .slice a L.length cap ∧ SetsAt W a L ∧ (∀ c ∈ L, c.fit) ∧ L.length ≤ maxLen := by
  obtain ⟨fuel, hf⟩ := h
  rw [h1] at hf
  rcases Go.Deep.open_slice Tryz.underlying22 hf with ⟨hcs, _⟩ | ⟨x, len, cap, m, n, D, Pl, hcs, _, hlc, hm, hmm, _, hx⟩
  · simp at hcs
    exact ⟨none, 0, [], hcs, Or.inl rfl, fun c hc => by simp at hc, Nat.zero_le _⟩
  · simp at hcs
    rw [Tryz.cells72] at hx
    have hlm : len ≤ m := by rw [hmm]; simpa using hlc
    have hq : ∀ i, i < len → ∃ c : ASet, W.cells? base (x.add (i * 4)) 4 = some c.cells ∧ c.fit := fun i hi => by
      obtain ⟨cs, hc, ht⟩ := hx i (by omega)
      obtain ⟨c, rfl, hft⟩ := set_cells ht
      exact ⟨c, hc, hft⟩
    have : Inhabited ASet := ⟨⟨⟨#[]⟩, 0, 0, ⟨#[]⟩⟩⟩
    obtain ⟨F, hF⟩ := Go.Deep.choose_lt hq
    refine ⟨some x, cap, (List.range len).map F, by simpa using hcs, ?_, ?_, by simp; omega⟩
    · by_cases h0 : len = 0
      · left; simp [h0]
      · right
        obtain ⟨b, o, spot⟩ := x
        have hcell : ∀ i, i < len → ∀ j v, (F i).cells[j]? = some v → W.cell? (((⟨b, o, spot⟩ : Addr).add (i * 4)).add j) = some v := fun i hi j v hv => by
          obtain ⟨_, hl, hc⟩ := World.cells?_some (hF i hi).1
          have hj : j < 4 := by rw [← hl]; exact (List.getElem?_eq_some_iff.1 hv).1
          rw [hc j hj]; exact hv
        have hc0 := hcell 0 (by omega) 0 _ rfl
        have hspot : spot = none := by simpa [Addr.add] using World.cell?_spot hc0
        subst hspot
        refine ⟨b, o, rfl, ?_, fun i c hc j v hv => ?_⟩
        · have := World.block_lt_of_cell? W _ hc0
          simpa [Addr.add] using this
        · obtain ⟨hi, rfl⟩ := List.getElem?_eq_some_iff.1 hc
          simp only [List.length_map, List.length_range] at hi
          have := hcell i hi j v (by simpa using hv)
          rwa [Addr.add_mid, Addr.add_mid] at this
    · intro c hc
      obtain ⟨i, hi, rfl⟩ := List.mem_map.1 hc
      exact (hF i (List.mem_range.1 hi)).2

theorem slice_cell {P : Program} {H : Type} {enc : TypeId × Value → H} {W : World} {base : Nat} {held : Bool} {fuel : Nat} {t e : TypeId} {v : Value} {x : DataW H × List MemPlace} (ht : P.underlying t = some (.slice e))
    (h : DataW.trod enc P W base (fun _ => true) held fuel t [v] = some x) : v.cells.toList = [v] := by
  rcases Go.Deep.open_slice ht h with ⟨hcs, _⟩ | ⟨x, len, cap, m, n, D, Pl, hcs, _⟩
  · simp at hcs
    subst hcs
    rfl
  · simp at hcs
    subst hcs
    rfl

theorem trod_struct7 {H : Type} {enc : TypeId × Value → H} {P : Program} {w : World} {base : Nat} {spare : Nat → Bool} {held : Bool} {t : TypeId} {f0 f1 f2 f3 f4 f5 f6 : Field} {fuel : Nat} {cs : List Value} {x : DataW H × List MemPlace}
    (ht : P.underlying t = some (.struct #[f0, f1, f2, f3, f4, f5, f6])) (h : DataW.trod enc P w base spare held fuel t cs = some x) :
    ∃ y0 y1 y2 y3 y4 y5 y6 n, cs.length = P.cellsOf t ∧ DataW.trod enc P w base spare held n f0.type ((cs.drop f0.offset).take (P.cellsOf f0.type)) = some y0 ∧ DataW.trod enc P w base spare held n f1.type ((cs.drop f1.offset).take (P.cellsOf f1.type)) = some y1 ∧ DataW.trod enc P w base spare held n f2.type ((cs.drop f2.offset).take (P.cellsOf f2.type)) = some y2 ∧ DataW.trod enc P w base spare held n f3.type ((cs.drop f3.offset).take (P.cellsOf f3.type)) = some y3 ∧ DataW.trod enc P w base spare held n f4.type ((cs.drop f4.offset).take (P.cellsOf f4.type)) = some y4 ∧ DataW.trod enc P w base spare held n f5.type ((cs.drop f5.offset).take (P.cellsOf f5.type)) = some y5 ∧ DataW.trod enc P w base spare held n f6.type ((cs.drop f6.offset).take (P.cellsOf f6.type)) = some y6 := by
  obtain ⟨xs, n, _, rfl, hl, hlen, hf⟩ := DataW.trod_struct ht h
  match xs, hlen with
  | [y0, y1, y2, y3, y4, y5, y6], _ => exact ⟨y0, y1, y2, y3, y4, y5, y6, n, hl, by simpa using hf 0 f0 rfl, by simpa using hf 1 f1 rfl, by simpa using hf 2 f2 rfl, by simpa using hf 3 f3 rfl, by simpa using hf 4 f4 rfl, by simpa using hf 5 f5 rfl, by simpa using hf 6 f6 rfl⟩

theorem list19 {α : Type} {cs : List α} (h : cs.length = 19) : ∃ v0 v1 v2 v3 v4 v5 v6 v7 v8 v9 v10 v11 v12 v13 v14 v15 v16 v17 v18, cs = [v0, v1, v2, v3, v4, v5, v6, v7, v8, v9, v10, v11, v12, v13, v14, v15, v16, v17, v18] := by
  match cs, h with
  | [v0, v1, v2, v3, v4, v5, v6, v7, v8, v9, v10, v11, v12, v13, v14, v15, v16, v17, v18], _ => exact ⟨v0, v1, v2, v3, v4, v5, v6, v7, v8, v9, v10, v11, v12, v13, v14, v15, v16, v17, v18, rfl⟩

set_option maxRecDepth 100000 in
set_option maxHeartbeats 1000000 in
theorem open_act {H : Type} {enc : TypeId × Value → H} {w : World} {base : Nat} {held : Bool} {r : Reach} {b0 : Nat} {v : Value} {d : DataW H} {p : List MemPlace}
    (hv : Value.okWide Tryz.prog w r b0 33 v) (h : DataW.Trod enc Tryz.prog w base (fun _ => true) held 33 v d p) :
    ∃ (x : AAct) (a0 a1 : Option Addr) (c0 c1 : Nat), v = .agg #[.int .i64 x.kd, .string x.nm, .int .i64 x.id, .slice a0 x.sets.length c0, .slice a1 x.cols.length c1, .int .i64 x.g.kd, .string x.g.nm, .string x.g.nw, .string x.g.c.nm, .int .i64 x.g.c.kd, .bool x.g.c.nd, .bool x.g.c.oc, .int .i64 x.g.c.k, .int .i64 x.g.c.n, .string x.g.c.s, .string x.l.fr, .string x.l.co, .string x.l.tt, .int .i64 x.l.hw] ∧ ActAt w a0 a1 x ∧ x.fit := by
  obtain ⟨cs, rfl, _⟩ := okWide_struct Tryz.underlying33 hv
  obtain ⟨fuel, hf⟩ := h
  obtain ⟨y0, y1, y2, y3, y4, y5, y6, m, hl, h0, h1, h2, h3, h4, h5, h6⟩ := trod_struct7 Tryz.underlying33 hf
  rw [Tryz.cells33] at hl
  obtain ⟨v0, v1, v2, v3, v4, v5, v6, v7, v8, v9, v10, v11, v12, v13, v14, v15, v16, v17, v18, hcl⟩ := list19 hl
  rw [hcl] at h0 h1 h2 h3 h4 h5 h6
  simp only [Tryz.cells9, Tryz.cells3, Tryz.cells22, Tryz.cells23, Tryz.cells29, Tryz.cells31, List.drop, List.take] at h0 h1 h2 h3 h4 h5 h6
  have k3 := slice_cell Tryz.underlying22 h3
  have k4 := slice_cell Tryz.underlying23 h4
  obtain ⟨kd, e0, _, _⟩ := DataW.trod_int Tryz.underlying3 h0
  obtain ⟨nm, e1, _, hnm⟩ := DataW.trod_string Tryz.underlying9 h1
  obtain ⟨id, e2, _, _⟩ := DataW.trod_int Tryz.underlying3 h2
  obtain ⟨a0, c0, L0, e3, hL0, hf0, hm0⟩ := open_sets (v := v3) ⟨m, by rw [k3]; exact h3⟩ k3
  obtain ⟨a1, c1, L1, e4, hL1, hf1, hm1⟩ := open_cols (v := v4) ⟨m, by rw [k4]; exact h4⟩ k4
  obtain ⟨g, e5, hg⟩ := chg_cells h5
  obtain ⟨l, e6, hk⟩ := lnk_cells h6
  simp only [List.cons.injEq, and_true] at e0 e1 e2
  simp only [AChg.cells, ALnk.cells, List.cons.injEq, and_true] at e5 e6
  obtain ⟨g0, g1, g2, g3, g4, g5, g6, g7, g8, g9⟩ := e5
  obtain ⟨l0, l1, l2, l3⟩ := e6
  refine ⟨⟨kd, nm, id, L0, L1, g, l⟩, a0, a1, c0, c1, ?_, ⟨hL0, hL1⟩, hnm, ⟨hf0, hm0⟩, ⟨hf1, hm1⟩, hg, hk⟩
  congr 1
  apply Array.ext'
  have hcs : cs.toList = [v0, v1, v2, v3, v4, v5, v6, v7, v8, v9, v10, v11, v12, v13, v14, v15, v16, v17, v18] := by simpa [Value.cells] using hcl
  rw [hcs, e0, e1, e2, e3, e4, g0, g1, g2, g3, g4, g5, g6, g7, g8, g9, l0, l1, l2, l3]

end Go.Proofs.YtacindondkcaiaaGreat
