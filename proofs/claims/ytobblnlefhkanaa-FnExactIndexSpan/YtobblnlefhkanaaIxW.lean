/- What is carried through the laws of IndexPut and IndexOff, over the seat's translation. -/
import Derived.Test.YtobblnlefhkanaaIxK0
import Derived.Test.YtobblnlefhkanaaIxD1
namespace Go.Proofs.Ytobblnlefhkanaa
open Go.RowKit

/-- The entries L lie in W ahead of block p. -/
def FarE (p : Nat) (a : Option Addr) (L : List AEnt) (W : World) : Prop :=
  L = [] ∨ ∃ b o, a = some ⟨b, o, none⟩ ∧ b < p ∧ ∀ i c, L[i]? = some c → W.rangeAt b (o + i * 4) c.cells
theorem FarE.next {p : Nat} {a : Option Addr} {L : List AEnt} {W W' : World} (h : FarE p a L W) (hb : Below p W W') : FarE p a L W' := by
  rcases h with h | ⟨b, o, e, hlt, hr⟩
  · exact Or.inl h
  · exact Or.inr ⟨b, o, e, hlt, fun i c hc j v hv => by rw [hb.cell (p := ⟨b, _, none⟩) hlt]; exact hr i c hc j v hv⟩
theorem FarE.ents {p : Nat} {a : Option Addr} {L : List AEnt} {W : World} (h : FarE p a L W) (hp : p ≤ W.heap.size) : EntsAt W a L := by
  rcases h with h | ⟨b, o, e, hlt, hr⟩
  · exact Or.inl h
  · exact Or.inr ⟨b, o, e, Nat.lt_of_lt_of_le hlt hp, hr⟩
theorem FarE.of {a : Option Addr} {L : List AEnt} {W : World} (h : EntsAt W a L) : FarE W.heap.size a L W := h
theorem FarE.mono {p q : Nat} {a : Option Addr} {L : List AEnt} {W : World} (h : FarE p a L W) (hp : p ≤ q) : FarE q a L W := by
  rcases h with h | ⟨b, o, e, hlt, hr⟩
  · exact Or.inl h
  · exact Or.inr ⟨b, o, e, Nat.lt_of_lt_of_le hlt hp, hr⟩

/-- What came in: entries, and an entry in its box; all lies ahead of block p. -/
structure InE (w : World) (p : Nat) (a : Option Addr) (L : List AEnt) (x : AEnt) (W : World) : Prop where
  inp : FarE p a L W
  box : W.rangeAt w.heap.size 0 [.int .i64 x.k, .int .i64 x.n, .string x.s, .int .i64 x.id]
  lt : w.heap.size < p
  le : p ≤ W.heap.size
  bel : Below w.heap.size w W
theorem InE.next {w : World} {p : Nat} {a : Option Addr} {L : List AEnt} {x : AEnt} {W W' : World} (h : InE w p a L x W) (hb : Below p W W') : InE w p a L x W' :=
  ⟨h.inp.next hb, fun j v hv => by rw [hb.cell (p := ⟨w.heap.size, _, none⟩) h.lt]; exact h.box j v hv, h.lt, Nat.le_trans h.le hb.size, h.bel.trans (hb.mono (Nat.le_of_lt h.lt))⟩
theorem InE.later {w : World} {p : Nat} {a : Option Addr} {L : List AEnt} {x : AEnt} {W W' : World} (h : InE w p a L x W) (hb : Below W.heap.size W W') : InE w p a L x W' := h.next (hb.mono h.le)
theorem InE.drew {w : World} {p : Nat} {a : Option Addr} {L : List AEnt} {x : AEnt} {W : World} (h : InE w p a L x W) : InE w p a L x W.drew := h.later (Below.refl _ _).drew
theorem InE.up {w : World} {p : Nat} {a : Option Addr} {L : List AEnt} {x : AEnt} {W : World} (h : InE w p a L x W) : InE w W.heap.size a L x W := ⟨h.inp.mono h.le, h.box, Nat.lt_of_lt_of_le h.lt h.le, Nat.le_refl _, h.bel⟩
theorem InE.start {w : World} {a : Option Addr} {L : List AEnt} (x : AEnt) (h : EntsAt w a L) (t : TypeId) : InE w (w.heap.size + 1) a L x (w.alloc (.cells #[.int .i64 x.k, .int .i64 x.n, .string x.s, .int .i64 x.id] t)) :=
  ⟨(h.keep ((Below.refl _ _).alloc (Nat.le_refl _) _)) |> FarE.of |> fun k => by rwa [size_alloc] at k, (Box.start w [.int .i64 x.k, .int .i64 x.n, .string x.s, .int .i64 x.id] t).1, Nat.lt_succ_self _, by simp, (Below.refl _ _).alloc (Nat.le_refl _) _⟩
theorem InE.cells {w : World} {p : Nat} {a : Option Addr} {L : List AEnt} {x : AEnt} {W : World} (h : InE w p a L x W) : W.cell? ⟨w.heap.size, 0, none⟩ = some (.int .i64 x.k) ∧ W.cell? ⟨w.heap.size, 1, none⟩ = some (.int .i64 x.n) ∧ W.cell? ⟨w.heap.size, 2, none⟩ = some (.string x.s) ∧ W.cell? ⟨w.heap.size, 3, none⟩ = some (.int .i64 x.id) :=
  ⟨h.box 0 _ rfl, h.box 1 _ rfl, h.box 2 _ rfl, h.box 3 _ rfl⟩
theorem InE.ents {w : World} {p : Nat} {a : Option Addr} {L : List AEnt} {x : AEnt} {W : World} (h : InE w p a L x W) : EntsAt W a L := h.inp.ents h.le

/-- The same, its box's cells besides. -/
abbrev InC (w : World) (p : Nat) (a : Option Addr) (L : List AEnt) (x : AEnt) (W : World) : Prop :=
  InE w p a L x W ∧ W.cell? ⟨w.heap.size, 0, none⟩ = some (.int .i64 x.k) ∧ W.cell? ⟨w.heap.size, 1, none⟩ = some (.int .i64 x.n) ∧ W.cell? ⟨w.heap.size, 2, none⟩ = some (.string x.s) ∧ W.cell? ⟨w.heap.size, 3, none⟩ = some (.int .i64 x.id)
theorem InE.c {w : World} {p : Nat} {a : Option Addr} {L : List AEnt} {x : AEnt} {W : World} (h : InE w p a L x W) : InC w p a L x W := ⟨h, h.cells⟩
theorem inc_later {w : World} {p : Nat} {a : Option Addr} {L : List AEnt} {x : AEnt} {W W' : World} (h : InC w p a L x W) (hb : Below W.heap.size W W') : InC w p a L x W' := (h.1.later hb).c
theorem inc_drew {w : World} {p : Nat} {a : Option Addr} {L : List AEnt} {x : AEnt} {W : World} (h : InC w p a L x W) : InC w p a L x W.drew := inc_later h (Below.refl _ _).drew

theorem row_any {base : Nat} {v : Value} {L : List AEnt} {W : World} (h : RowE base v L W) : ∃ a c, v = .slice a L.length c ∧ EntsAt W a L := by
  obtain ⟨a, c, h1, -, -, h2⟩ := h.slice
  exact ⟨a, c, h1, h2⟩

theorem RowE.same {base : Nat} {a : Option Addr} {n c : Nat} {L : List AEnt} {W : World} (h : RowE base (.slice a n c) L W) : EntsAt W a L := by
  obtain ⟨a', c', e, h2⟩ := row_any h
  cases e
  exact h2

/-- Besides, what the specification answers. -/
structure SpE (w : World) (p : Nat) (a : Option Addr) (L : List AEnt) (x : AEnt) (aw : Option Addr) (N : List AEnt) (W : World) : Prop where
  ine : InE w p a L x W
  sp : FarE p aw N W
theorem SpE.next {w : World} {p : Nat} {a : Option Addr} {L : List AEnt} {x : AEnt} {aw : Option Addr} {N : List AEnt} {W W' : World} (h : SpE w p a L x aw N W) (hb : Below p W W') : SpE w p a L x aw N W' := ⟨h.ine.next hb, h.sp.next hb⟩
theorem SpE.later {w : World} {p : Nat} {a : Option Addr} {L : List AEnt} {x : AEnt} {aw : Option Addr} {N : List AEnt} {W W' : World} (h : SpE w p a L x aw N W) (hb : Below W.heap.size W W') : SpE w p a L x aw N W' := h.next (hb.mono h.ine.le)
theorem SpE.ents {w : World} {p : Nat} {a : Option Addr} {L : List AEnt} {x : AEnt} {aw : Option Addr} {N : List AEnt} {W : World} (h : SpE w p a L x aw N W) : EntsAt W aw N := h.sp.ents h.ine.le

/-- Besides, the entries made anew at block p. -/
abbrev XE (w : World) (p : Nat) (a : Option Addr) (L : List AEnt) (x : AEnt) (aw : Option Addr) (N : List AEnt) (W : World) : Prop :=
  (SpE w p a L x aw N W ∧ p < W.heap.size ∧ EntsAt W (some ⟨p, 0, none⟩) L ∧ W.there p 0 (L.length * 4)) ∧ W.cell? ⟨w.heap.size, 0, none⟩ = some (.int .i64 x.k) ∧ W.cell? ⟨w.heap.size, 1, none⟩ = some (.int .i64 x.n) ∧ W.cell? ⟨w.heap.size, 2, none⟩ = some (.string x.s) ∧ W.cell? ⟨w.heap.size, 3, none⟩ = some (.int .i64 x.id)
theorem xe_later {w : World} {p : Nat} {a : Option Addr} {L : List AEnt} {x : AEnt} {aw : Option Addr} {N : List AEnt} {W W' : World} (h : XE w p a L x aw N W) (hb : Below W.heap.size W W') : XE w p a L x aw N W' := by
  obtain ⟨⟨h1, h2, h3, h4⟩, _⟩ := h
  have h1' := h1.later hb
  exact ⟨⟨h1', Nat.lt_of_lt_of_le h2 hb.size, h3.keep hb, there_next h4 h2 hb⟩, h1'.ine.cells⟩
theorem xe_drew {w : World} {p : Nat} {a : Option Addr} {L : List AEnt} {x : AEnt} {aw : Option Addr} {N : List AEnt} {W : World} (h : XE w p a L x aw N W) : XE w p a L x aw N W.drew := xe_later h (Below.refl _ _).drew

/-- Block g bears the marks of n entries from 1 on. -/
def MkE (g n : Nat) (W : World) : Prop := g < W.heap.size ∧ ∀ j, j < n → W.rangeAt g (j * 4) (mkEnt (1 + 4 * j)).cells
theorem MkE.next {g n : Nat} {W W' : World} (h : MkE g n W) (hb : Below W.heap.size W W') : MkE g n W' := ⟨Nat.lt_of_lt_of_le h.1 hb.size, fun j hj => range_next (h.2 j hj) h.1 hb⟩
/-- What the specification answers, and marks. -/
abbrev YE (w : World) (p : Nat) (a : Option Addr) (L : List AEnt) (x : AEnt) (aw : Option Addr) (N : List AEnt) (g n : Nat) (W : World) : Prop :=
  (SpE w p a L x aw N W ∧ MkE g n W) ∧ W.cell? ⟨w.heap.size, 0, none⟩ = some (.int .i64 x.k) ∧ W.cell? ⟨w.heap.size, 1, none⟩ = some (.int .i64 x.n) ∧ W.cell? ⟨w.heap.size, 2, none⟩ = some (.string x.s) ∧ W.cell? ⟨w.heap.size, 3, none⟩ = some (.int .i64 x.id)
theorem ye_later {w : World} {p : Nat} {a : Option Addr} {L : List AEnt} {x : AEnt} {aw : Option Addr} {N : List AEnt} {g n : Nat} {W W' : World} (h : YE w p a L x aw N g n W) (hb : Below W.heap.size W W') : YE w p a L x aw N g n W' := by
  obtain ⟨⟨h1, h2⟩, _⟩ := h
  have h1' := h1.later hb
  exact ⟨⟨h1', h2.next hb⟩, h1'.ine.cells⟩
theorem ye_drew {w : World} {p : Nat} {a : Option Addr} {L : List AEnt} {x : AEnt} {aw : Option Addr} {N : List AEnt} {g n : Nat} {W : World} (h : YE w p a L x aw N g n W) : YE w p a L x aw N g n W.drew := ye_later h (Below.refl _ _).drew

/-- A row's block, or any block where there is no entry. -/
theorem RowE.block {base : Nat} {a : Option Addr} {n c : Nat} {L : List AEnt} {W : World} (h : RowE base (.slice a n c) L W) (hb : base < W.heap.size) (hn : n = L.length) : ∃ g, (a = some ⟨g, 0, none⟩ ∨ n = 0) ∧ base ≤ g ∧ g < W.heap.size ∧ W.there g 0 (n * 4) := by
  rcases h with ⟨hv, hL⟩ | ⟨b, cap, hv, h1, h2, _, _, h5⟩
  · subst hL
    subst hn
    exact ⟨base, Or.inr rfl, Nat.le_refl _, hb, fun j hj => by simp at hj⟩
  · cases hv
    exact ⟨b, Or.inl rfl, h1, h2, h5⟩
theorem RowE.turn {base B : Nat} {v : Value} {L : List AEnt} {W W' : World} (h : RowE base v L W) (ht : Turn B W W') (hB : B < base) : RowE base v L W' := by
  rcases h with h | ⟨b, cap, hv, h1, h2, h3, h4, h5⟩
  · exact Or.inl h
  · have hne : b ≠ B := by omega
    refine Or.inr ⟨b, cap, hv, h1, Nat.lt_of_lt_of_le h2 ht.size, h3, ht.ents h4 (Or.inr fun b' o' e => by cases e; exact hne), fun j hj => ?_⟩
    rw [ht.cell h2 hne, ht.frozen h2 hne]
    exact h5 j hj

end Go.Proofs.Ytobblnlefhkanaa
