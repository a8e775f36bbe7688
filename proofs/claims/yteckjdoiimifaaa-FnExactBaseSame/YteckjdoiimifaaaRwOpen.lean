/- Values that came in, read. Over the seat's translation. -/
import Derived.Test.YteckjdoiimifaaaColOpen
import Derived.Test.YteckjdoiimifaaaRwA
import Derived.Deep.Slices
namespace Go.Proofs.Yteckjdoiimifaaa
open Go.ChangeShapes Go.WideShapes Go.ChangeAt Go.RowKit Go.Joins

set_option maxRecDepth 100000 in
theorem val_cells {H : Type} {enc : TypeId × Value → H} {w : World} {base : Nat} {spare : Nat → Bool} {held : Bool} {fuel : Nat} {cs : List Value} {x : DataW H × List MemPlace}
    (h : DataW.trod enc Try.prog w base spare held fuel 57 cs = some x) :
    ∃ (k n : Int) (s : ByteArray), cs = [.int .i64 k, .int .i64 n, .string s] ∧ s.size ≤ maxLen := by
  obtain ⟨z0, z1, z2, m', _, hl, g0, g1, g2⟩ := Go.Deep.trod_struct3 Try.underlying57 h
  rw [Try.cells57] at hl
  match cs, hl with
  | [a, b, c], _ =>
    simp only [Try.cells9, Try.cells3, List.drop, List.take] at g0 g1 g2
    obtain ⟨k, e4, _, _⟩ := DataW.trod_int Try.underlying3 g0
    obtain ⟨n, e5, _, _⟩ := DataW.trod_int Try.underlying3 g1
    obtain ⟨s, e6, _, hs⟩ := DataW.trod_string Try.underlying9 g2
    simp at e4 e5 e6
    subst e4 e5 e6
    exact ⟨_, _, _, rfl, hs⟩

theorem open_vals {H : Type} {enc : TypeId × Value → H} {W : World} {base : Nat} {held : Bool} {v : Value} {d : DataW H} {p : List MemPlace}
    (h : DataW.Trod enc Try.prog W base (fun _ => true) held 109 v d p) (h1 : v.cells.toList = [v]) :
    ∃ (a : Option Addr) (cap : Nat) (L : List AVal), v = .slice a L.length cap ∧ ValsAt W a L ∧ (∀ c ∈ L, c.fit) ∧ L.length ≤ maxLen := by
  obtain ⟨fuel, hf⟩ := h
  rw [h1] at hf
  rcases Go.Deep.open_slice Try.underlying109 hf with ⟨hcs, _⟩ | ⟨x, len, cap, m, n, D, Pl, hcs, _, hlc, hm, hmm, _, hx⟩
  · simp at hcs
    exact ⟨none, 0, [], hcs, Or.inl rfl, fun c hc => by simp at hc, Nat.zero_le _⟩
  · simp at hcs
    rw [Try.cells57] at hx
    have hlm : len ≤ m := by rw [hmm]; simpa using hlc
    have hq : ∀ i, i < len → ∃ c : AVal, W.cells? base (x.add (i * 3)) 3 = some c.cells ∧ c.fit := fun i hi => by
      obtain ⟨cs, hc, ht⟩ := hx i (by omega)
      obtain ⟨k, n, s, rfl, hs⟩ := val_cells ht
      exact ⟨⟨k, n, s⟩, hc, hs⟩
    have : Inhabited AVal := ⟨⟨0, 0, ⟨#[]⟩⟩⟩
    obtain ⟨F, hF⟩ := Go.Deep.choose_lt hq
    refine ⟨some x, cap, (List.range len).map F, by simpa using hcs, ?_, ?_, by simp; omega⟩
    · by_cases h0 : len = 0
      · left; simp [h0]
      · right
        obtain ⟨b, o, spot⟩ := x
        have hcell : ∀ i, i < len → ∀ j v, (F i).cells[j]? = some v → W.cell? (((⟨b, o, spot⟩ : Addr).add (i * 3)).add j) = some v := fun i hi j v hv => by
          obtain ⟨_, hl, hc⟩ := World.cells?_some (hF i hi).1
          have hj : j < 3 := by rw [← hl]; exact (List.getElem?_eq_some_iff.1 hv).1
          rw [hc j hj]; exact hv
        have hc0 := hcell 0 (by omega) 0 _ rfl
        have hspot : spot = none := by simpa [Addr.add] using World.cell?_spot hc0
        subst hspot
        refine ⟨b, o, rfl, ?_, fun i c hc j v hv => ?_⟩
        · have := World.block_lt_of_cell? W _ hc0
          simpa [Addr.add] using this
        · obtain ⟨hi, rfl⟩ := List.getElem?_eq_some_iff.1 hc
          simp only [List.length_map, List.length_range] at hi
          have := hcell i hi j v (by simpa using hv)
          rwa [Addr.add_mid, Addr.add_mid] at this
    · intro c hc
      obtain ⟨i, hi, rfl⟩ := List.mem_map.1 hc
      exact (hF i (List.mem_range.1 hi)).2

end Go.Proofs.Yteckjdoiimifaaa
