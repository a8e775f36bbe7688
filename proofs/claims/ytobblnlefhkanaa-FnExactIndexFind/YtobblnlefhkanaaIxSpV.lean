/- What is carried through the law of IndexSpan, over the seat's translation. -/
import Derived.Test.YtobblnlefhkanaaIxT1
import Derived.Test.YtobblnlefhkanaaIxK1
import Derived.Test.YtobblnlefhkanaaIxC
import Derived.Test.YtobblnlefhkanaaIxW
import Derived.Test.YtobblnlefhkanaaIxT2
namespace Go.Proofs.Ytobblnlefhkanaa
open Go.RowKit

/-- What came in: entries, and two values in their boxes; all lies ahead of block p. -/
structure InV (w : World) (p : Nat) (a : Option Addr) (L : List AEnt) (lo hi : AEnt) (W : World) : Prop where
  inp : FarE p a L W
  lo : W.rangeAt w.heap.size 0 [.int .i64 lo.k, .int .i64 lo.n, .string lo.s]
  hi : W.rangeAt (w.heap.size + 1) 0 [.int .i64 hi.k, .int .i64 hi.n, .string hi.s]
  lt : w.heap.size + 1 < p
  le : p ≤ W.heap.size
  bel : Below w.heap.size w W
theorem InV.next {w : World} {p : Nat} {a : Option Addr} {L : List AEnt} {lo hi : AEnt} {W W' : World} (h : InV w p a L lo hi W) (hb : Below p W W') : InV w p a L lo hi W' :=
  ⟨h.inp.next hb, fun j v hv => by rw [hb.cell (p := ⟨w.heap.size, _, none⟩) (by have := h.lt; simp; omega)]; exact h.lo j v hv, fun j v hv => by rw [hb.cell (p := ⟨w.heap.size + 1, _, none⟩) h.lt]; exact h.hi j v hv, h.lt, Nat.le_trans h.le hb.size, h.bel.trans (hb.mono (by have := h.lt; omega))⟩
theorem InV.later {w : World} {p : Nat} {a : Option Addr} {L : List AEnt} {lo hi : AEnt} {W W' : World} (h : InV w p a L lo hi W) (hb : Below W.heap.size W W') : InV w p a L lo hi W' := h.next (hb.mono h.le)
theorem InV.up {w : World} {p : Nat} {a : Option Addr} {L : List AEnt} {lo hi : AEnt} {W : World} (h : InV w p a L lo hi W) : InV w W.heap.size a L lo hi W := ⟨h.inp.mono h.le, h.lo, h.hi, Nat.lt_of_lt_of_le h.lt h.le, Nat.le_refl _, h.bel⟩
theorem InV.ents {w : World} {p : Nat} {a : Option Addr} {L : List AEnt} {lo hi : AEnt} {W : World} (h : InV w p a L lo hi W) : EntsAt W a L := h.inp.ents h.le
theorem InV.start {w : World} {a : Option Addr} {L : List AEnt} (lo hi : AEnt) (h : EntsAt w a L) (t : TypeId) : InV w (w.heap.size + 2) a L lo hi ((w.alloc (.cells #[.int .i64 lo.k, .int .i64 lo.n, .string lo.s] t)).alloc (.cells #[.int .i64 hi.k, .int .i64 hi.n, .string hi.s] t)) := by
  have b1 : Below w.heap.size w (w.alloc (.cells #[.int .i64 lo.k, .int .i64 lo.n, .string lo.s] t)) := (Below.refl _ _).alloc (Nat.le_refl _) _
  have b2 : Below (w.alloc (.cells #[.int .i64 lo.k, .int .i64 lo.n, .string lo.s] t)).heap.size (w.alloc (.cells #[.int .i64 lo.k, .int .i64 lo.n, .string lo.s] t)) ((w.alloc (.cells #[.int .i64 lo.k, .int .i64 lo.n, .string lo.s] t)).alloc (.cells #[.int .i64 hi.k, .int .i64 hi.n, .string hi.s] t)) := (Below.refl _ _).alloc (Nat.le_refl _) _
  have y1 := (Box.start w [.int .i64 lo.k, .int .i64 lo.n, .string lo.s] t).next b2
  have y2 := Box.start (w.alloc (.cells #[.int .i64 lo.k, .int .i64 lo.n, .string lo.s] t)) [.int .i64 hi.k, .int .i64 hi.n, .string hi.s] t
  rw [size_alloc] at y2
  have hb := b1.trans (b2.mono (by simp))
  exact ⟨((FarE.of h).next hb).mono (by omega), y1.1, y2.1, by omega, by simp, hb⟩
/-- The boxes' cells. -/
abbrev CelV (w : World) (lo hi : AEnt) (W : World) : Prop :=
  (W.cell? ⟨w.heap.size, 0, none⟩ = some (.int .i64 lo.k) ∧ W.cell? ⟨w.heap.size, 1, none⟩ = some (.int .i64 lo.n) ∧ W.cell? ⟨w.heap.size, 2, none⟩ = some (.string lo.s)) ∧ W.cell? ⟨w.heap.size + 1, 0, none⟩ = some (.int .i64 hi.k) ∧ W.cell? ⟨w.heap.size + 1, 1, none⟩ = some (.int .i64 hi.n) ∧ W.cell? ⟨w.heap.size + 1, 2, none⟩ = some (.string hi.s)
theorem InV.cells {w : World} {p : Nat} {a : Option Addr} {L : List AEnt} {lo hi : AEnt} {W : World} (h : InV w p a L lo hi W) : CelV w lo hi W := ⟨⟨h.lo 0 _ rfl, h.lo 1 _ rfl, h.lo 2 _ rfl⟩, h.hi 0 _ rfl, h.hi 1 _ rfl, h.hi 2 _ rfl⟩
abbrev InVC (w : World) (p : Nat) (a : Option Addr) (L : List AEnt) (lo hi : AEnt) (W : World) : Prop := InV w p a L lo hi W ∧ CelV w lo hi W
theorem InV.c {w : World} {p : Nat} {a : Option Addr} {L : List AEnt} {lo hi : AEnt} {W : World} (h : InV w p a L lo hi W) : InVC w p a L lo hi W := ⟨h, h.cells⟩
theorem inv_later {w : World} {p : Nat} {a : Option Addr} {L : List AEnt} {lo hi : AEnt} {W W' : World} (h : InVC w p a L lo hi W) (hb : Below W.heap.size W W') : InVC w p a L lo hi W' := (h.1.later hb).c
theorem inv_drew {w : World} {p : Nat} {a : Option Addr} {L : List AEnt} {lo hi : AEnt} {W : World} (h : InVC w p a L lo hi W) : InVC w p a L lo hi W.drew := inv_later h (Below.refl _ _).drew

/-- The ints N lie in W ahead of block p. -/
def FarI (p : Nat) (a : Option Addr) (N : List Int) (W : World) : Prop :=
  N = [] ∨ ∃ b o, a = some ⟨b, o, none⟩ ∧ b < p ∧ ∀ i c, N[i]? = some c → W.cell? ⟨b, o + i, none⟩ = some (.int .i64 c)
theorem FarI.next {p : Nat} {a : Option Addr} {N : List Int} {W W' : World} (h : FarI p a N W) (hb : Below p W W') : FarI p a N W' := by
  rcases h with h | ⟨b, o, e, hlt, hr⟩
  · exact Or.inl h
  · exact Or.inr ⟨b, o, e, hlt, fun i c hc => by rw [hb.cell (p := ⟨b, _, none⟩) hlt]; exact hr i c hc⟩
theorem FarI.ints {p : Nat} {a : Option Addr} {N : List Int} {W : World} (h : FarI p a N W) (hp : p ≤ W.heap.size) : IntsAt W a N := by
  rcases h with h | ⟨b, o, e, hlt, hr⟩
  · exact Or.inl h
  · exact Or.inr ⟨b, o, e, Nat.lt_of_lt_of_le hlt hp, hr⟩
theorem FarI.of {a : Option Addr} {N : List Int} {W : World} (h : IntsAt W a N) : FarI W.heap.size a N W := h

/-- Besides, what the specification answers. -/
structure SpV (w : World) (p : Nat) (a : Option Addr) (L : List AEnt) (lo hi : AEnt) (aw : Option Addr) (N : List Int) (W : World) : Prop where
  inv : InV w p a L lo hi W
  sp : FarI p aw N W
theorem SpV.next {w : World} {p : Nat} {a : Option Addr} {L : List AEnt} {lo hi : AEnt} {aw : Option Addr} {N : List Int} {W W' : World} (h : SpV w p a L lo hi aw N W) (hb : Below p W W') : SpV w p a L lo hi aw N W' := ⟨h.inv.next hb, h.sp.next hb⟩
theorem SpV.later {w : World} {p : Nat} {a : Option Addr} {L : List AEnt} {lo hi : AEnt} {aw : Option Addr} {N : List Int} {W W' : World} (h : SpV w p a L lo hi aw N W) (hb : Below W.heap.size W W') : SpV w p a L lo hi aw N W' := h.next (hb.mono h.inv.le)
theorem SpV.ints {w : World} {p : Nat} {a : Option Addr} {L : List AEnt} {lo hi : AEnt} {aw : Option Addr} {N : List Int} {W : World} (h : SpV w p a L lo hi aw N W) : IntsAt W aw N := h.sp.ints h.inv.le

/-- Besides, the entries made anew at block p. -/
abbrev XV (w : World) (p : Nat) (a : Option Addr) (L : List AEnt) (lo hi : AEnt) (aw : Option Addr) (N : List Int) (W : World) : Prop :=
  (SpV w p a L lo hi aw N W ∧ p < W.heap.size ∧ EntsAt W (some ⟨p, 0, none⟩) L ∧ W.there p 0 (L.length * 4)) ∧ CelV w lo hi W
theorem xv_later {w : World} {p : Nat} {a : Option Addr} {L : List AEnt} {lo hi : AEnt} {aw : Option Addr} {N : List Int} {W W' : World} (h : XV w p a L lo hi aw N W) (hb : Below W.heap.size W W') : XV w p a L lo hi aw N W' := by
  obtain ⟨⟨h1, h2, h3, h4⟩, _⟩ := h
  have h1' := h1.later hb
  exact ⟨⟨h1', Nat.lt_of_lt_of_le h2 hb.size, h3.keep hb, there_next h4 h2 hb⟩, h1'.inv.cells⟩
theorem xv_drew {w : World} {p : Nat} {a : Option Addr} {L : List AEnt} {lo hi : AEnt} {aw : Option Addr} {N : List Int} {W : World} (h : XV w p a L lo hi aw N W) : XV w p a L lo hi aw N W.drew := xv_later h (Below.refl _ _).drew

/-- Block g bears the marks of n ints from 1 on. -/
def MkI (g n : Nat) (W : World) : Prop := g < W.heap.size ∧ ∀ j, j < n → W.cell? ⟨g, j, none⟩ = some (.int .i64 ((1 + j : Nat) : Int))
theorem MkI.next {g n : Nat} {W W' : World} (h : MkI g n W) (hb : Below W.heap.size W W') : MkI g n W' := ⟨Nat.lt_of_lt_of_le h.1 hb.size, fun j hj => by rw [(bcell hb).1 _ _ h.1]; exact h.2 j hj⟩
/-- What the specification answers, and marks. -/
abbrev YV (w : World) (p : Nat) (a : Option Addr) (L : List AEnt) (lo hi : AEnt) (aw : Option Addr) (N : List Int) (g n : Nat) (W : World) : Prop :=
  (SpV w p a L lo hi aw N W ∧ MkI g n W) ∧ CelV w lo hi W
theorem yv_later {w : World} {p : Nat} {a : Option Addr} {L : List AEnt} {lo hi : AEnt} {aw : Option Addr} {N : List Int} {g n : Nat} {W W' : World} (h : YV w p a L lo hi aw N g n W) (hb : Below W.heap.size W W') : YV w p a L lo hi aw N g n W' := by
  obtain ⟨⟨h1, h2⟩, _⟩ := h
  have h1' := h1.later hb
  exact ⟨⟨h1', h2.next hb⟩, h1'.inv.cells⟩
theorem yv_drew {w : World} {p : Nat} {a : Option Addr} {L : List AEnt} {lo hi : AEnt} {aw : Option Addr} {N : List Int} {g n : Nat} {W : World} (h : YV w p a L lo hi aw N g n W) : YV w p a L lo hi aw N g n W.drew := yv_later h (Below.refl _ _).drew

theorem OwnI.same {base : Nat} {a : Option Addr} {n c : Nat} {N : List Int} {W : World} (h : OwnI base (.slice a n c) N W) : IntsAt W a N := by
  obtain ⟨a', c', e, h2⟩ := h.slice
  cases e
  exact h2
/-- A row's block, or any block where there is no int. -/
theorem OwnI.block {base : Nat} {a : Option Addr} {n c : Nat} {N : List Int} {W : World} (h : OwnI base (.slice a n c) N W) (hb : base < W.heap.size) (hn : n = N.length) : ∃ g, (a = some ⟨g, 0, none⟩ ∨ n = 0) ∧ base ≤ g ∧ g < W.heap.size ∧ W.there g 0 n := by
  rcases h.form with ⟨hv, hL⟩ | ⟨b, cap, hv, h1, h2, h3, _, h5⟩
  · subst hL
    subst hn
    exact ⟨base, Or.inr rfl, Nat.le_refl _, hb, fun j hj => by simp at hj⟩
  · obtain ⟨e1, -, -⟩ := Value.slice.inj hv
    subst e1
    subst hn
    exact ⟨b, Or.inl rfl, h1, h2, fun j hj => h5 j (Nat.lt_of_lt_of_le hj h3)⟩
theorem OwnI.turn {base B : Nat} {v : Value} {N : List Int} {W W' : World} (h : OwnI base v N W) (ht : Turn B W W') (hB : B < base) : OwnI base v N W' := by
  refine ⟨h.1, ?_⟩
  rcases h.2 with h | ⟨g, cap, cur, hv, hg, hh, r⟩
  · exact Or.inl h
  · exact Or.inr ⟨g, cap, cur, hv, hg, by rw [ht.block g (Array.getElem?_eq_some_iff.1 hh).1 (by omega)]; exact hh, r⟩

end Go.Proofs.Ytobblnlefhkanaa
