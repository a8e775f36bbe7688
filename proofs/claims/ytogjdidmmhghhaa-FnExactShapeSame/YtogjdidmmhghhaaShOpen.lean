/- Columns that came in, read. Over the seat's translation. -/
import Derived.Test.YtogjdidmmhghhaaColOpen
import Derived.Test.YtogjdidmmhghhaaShA
import Derived.Deep.Slices
namespace Go.Proofs.Ytogjdidmmhghhaa
open Go.ChangeShapes Go.WideShapes Go.ChangeAt Go.RowKit Go.Joins

theorem open_cols {H : Type} {enc : TypeId × Value → H} {W : World} {base : Nat} {held : Bool} {v : Value} {d : DataW H} {p : List MemPlace}
    (h : DataW.Trod enc Try.prog W base (fun _ => true) held 22 v d p) (h1 : v.cells.toList = [v]) :
    ∃ (a : Option Addr) (cap : Nat) (L : List ACol), v = .slice a L.length cap ∧ ColsAt W a L ∧ (∀ c ∈ L, c.fit) ∧ L.length ≤ maxLen := by
  obtain ⟨fuel, hf⟩ := h
  rw [h1] at hf
  rcases Go.Deep.open_slice Try.underlying22 hf with ⟨hcs, _⟩ | ⟨x, len, cap, m, n, D, Pl, hcs, _, hlc, hm, hmm, _, hx⟩
  · simp at hcs
    exact ⟨none, 0, [], hcs, Or.inl rfl, fun c hc => by simp at hc, Nat.zero_le _⟩
  · simp at hcs
    rw [Try.cells34] at hx
    have hlm : len ≤ m := by rw [hmm]; simpa using hlc
    have hq : ∀ i, i < len → ∃ c : ACol, W.cells? base (x.add (i * 7)) 7 = some c.cells ∧ c.fit := fun i hi => by
      obtain ⟨cs, hc, ht⟩ := hx i (by omega)
      obtain ⟨nm, kd, nd, oc, k, n, s, rfl, hn, hs⟩ := col_cells ht
      exact ⟨⟨nm, kd, nd, oc, k, n, s⟩, hc, hn, hs⟩
    have : Inhabited ACol := ⟨⟨⟨#[]⟩, 0, false, false, 0, 0, ⟨#[]⟩⟩⟩
    obtain ⟨F, hF⟩ := Go.Deep.choose_lt hq
    refine ⟨some x, cap, (List.range len).map F, by simpa using hcs, ?_, ?_, by simp; omega⟩
    · by_cases h0 : len = 0
      · left; simp [h0]
      · right
        obtain ⟨b, o, spot⟩ := x
        have hcell : ∀ i, i < len → ∀ j v, (F i).cells[j]? = some v → W.cell? (((⟨b, o, spot⟩ : Addr).add (i * 7)).add j) = some v := fun i hi j v hv => by
          obtain ⟨_, hl, hc⟩ := World.cells?_some (hF i hi).1
          have hj : j < 7 := by rw [← hl]; exact (List.getElem?_eq_some_iff.1 hv).1
          rw [hc j hj]; exact hv
        have hc0 := hcell 0 (by omega) 0 _ rfl
        have hspot : spot = none := by simpa [Addr.add] using World.cell?_spot hc0
        subst hspot
        refine ⟨b, o, rfl, ?_, fun i c hc j v hv => ?_⟩
        · have := World.block_lt_of_cell? W _ hc0
          simpa [Addr.add] using this
        · obtain ⟨hi, rfl⟩ := List.getElem?_eq_some_iff.1 hc
          simp only [List.length_map, List.length_range] at hi
          have := hcell i hi j v (by simpa using hv)
          rwa [Addr.add_mid, Addr.add_mid] at this
    · intro c hc
      obtain ⟨i, hi, rfl⟩ := List.mem_map.1 hc
      exact (hF i (List.mem_range.1 hi)).2

end Go.Proofs.Ytogjdidmmhghhaa
