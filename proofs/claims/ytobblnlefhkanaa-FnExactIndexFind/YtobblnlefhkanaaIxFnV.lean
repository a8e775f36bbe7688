/- What is carried through the law of IndexFind, over the seat's translation. -/
import Derived.Test.YtobblnlefhkanaaIxT1
import Derived.Test.YtobblnlefhkanaaIxC
import Derived.Test.YtobblnlefhkanaaIxSpV
namespace Go.Proofs.Ytobblnlefhkanaa
open Go.RowKit

/-- What came in: entries, and a value in its box; all lies ahead of block p. -/
structure InF (w : World) (p : Nat) (a : Option Addr) (L : List AEnt) (lo : AEnt) (W : World) : Prop where
  inp : FarE p a L W
  lo : W.rangeAt w.heap.size 0 [.int .i64 lo.k, .int .i64 lo.n, .string lo.s]
  lt : w.heap.size < p
  le : p ≤ W.heap.size
  bel : Below w.heap.size w W
theorem InF.next {w : World} {p : Nat} {a : Option Addr} {L : List AEnt} {lo : AEnt} {W W' : World} (h : InF w p a L lo W) (hb : Below p W W') : InF w p a L lo W' :=
  ⟨h.inp.next hb, fun j v hv => by rw [hb.cell (p := ⟨w.heap.size, _, none⟩) h.lt]; exact h.lo j v hv, h.lt, Nat.le_trans h.le hb.size, h.bel.trans (hb.mono (by have := h.lt; omega))⟩
theorem InF.later {w : World} {p : Nat} {a : Option Addr} {L : List AEnt} {lo : AEnt} {W W' : World} (h : InF w p a L lo W) (hb : Below W.heap.size W W') : InF w p a L lo W' := h.next (hb.mono h.le)
theorem InF.up {w : World} {p : Nat} {a : Option Addr} {L : List AEnt} {lo : AEnt} {W : World} (h : InF w p a L lo W) : InF w W.heap.size a L lo W := ⟨h.inp.mono h.le, h.lo, Nat.lt_of_lt_of_le h.lt h.le, Nat.le_refl _, h.bel⟩
theorem InF.ents {w : World} {p : Nat} {a : Option Addr} {L : List AEnt} {lo : AEnt} {W : World} (h : InF w p a L lo W) : EntsAt W a L := h.inp.ents h.le
theorem InF.start {w : World} {a : Option Addr} {L : List AEnt} (lo : AEnt) (h : EntsAt w a L) (t : TypeId) : InF w (w.heap.size + 1) a L lo (w.alloc (.cells #[.int .i64 lo.k, .int .i64 lo.n, .string lo.s] t)) := by
  have b1 : Below w.heap.size w (w.alloc (.cells #[.int .i64 lo.k, .int .i64 lo.n, .string lo.s] t)) := (Below.refl _ _).alloc (Nat.le_refl _) _
  exact ⟨((FarE.of h).next b1).mono (by omega), (Box.start w [.int .i64 lo.k, .int .i64 lo.n, .string lo.s] t).1, by omega, by simp, b1⟩
/-- The boxes' cells. -/
abbrev CelF (w : World) (lo : AEnt) (W : World) : Prop :=
  W.cell? ⟨w.heap.size, 0, none⟩ = some (.int .i64 lo.k) ∧ W.cell? ⟨w.heap.size, 1, none⟩ = some (.int .i64 lo.n) ∧ W.cell? ⟨w.heap.size, 2, none⟩ = some (.string lo.s)
theorem InF.cells {w : World} {p : Nat} {a : Option Addr} {L : List AEnt} {lo : AEnt} {W : World} (h : InF w p a L lo W) : CelF w lo W := ⟨h.lo 0 _ rfl, h.lo 1 _ rfl, h.lo 2 _ rfl⟩
abbrev InFC (w : World) (p : Nat) (a : Option Addr) (L : List AEnt) (lo : AEnt) (W : World) : Prop := InF w p a L lo W ∧ CelF w lo W
theorem InF.c {w : World} {p : Nat} {a : Option Addr} {L : List AEnt} {lo : AEnt} {W : World} (h : InF w p a L lo W) : InFC w p a L lo W := ⟨h, h.cells⟩
theorem inf_later {w : World} {p : Nat} {a : Option Addr} {L : List AEnt} {lo : AEnt} {W W' : World} (h : InFC w p a L lo W) (hb : Below W.heap.size W W') : InFC w p a L lo W' := (h.1.later hb).c
theorem inf_drew {w : World} {p : Nat} {a : Option Addr} {L : List AEnt} {lo : AEnt} {W : World} (h : InFC w p a L lo W) : InFC w p a L lo W.drew := inf_later h (Below.refl _ _).drew

/-- Besides, what the specification answers. -/
structure SpF (w : World) (p : Nat) (a : Option Addr) (L : List AEnt) (lo : AEnt) (aw : Option Addr) (N : List Int) (W : World) : Prop where
  inv : InF w p a L lo W
  sp : FarI p aw N W
theorem SpF.next {w : World} {p : Nat} {a : Option Addr} {L : List AEnt} {lo : AEnt} {aw : Option Addr} {N : List Int} {W W' : World} (h : SpF w p a L lo aw N W) (hb : Below p W W') : SpF w p a L lo aw N W' := ⟨h.inv.next hb, h.sp.next hb⟩
theorem SpF.later {w : World} {p : Nat} {a : Option Addr} {L : List AEnt} {lo : AEnt} {aw : Option Addr} {N : List Int} {W W' : World} (h : SpF w p a L lo aw N W) (hb : Below W.heap.size W W') : SpF w p a L lo aw N W' := h.next (hb.mono h.inv.le)
theorem SpF.ints {w : World} {p : Nat} {a : Option Addr} {L : List AEnt} {lo : AEnt} {aw : Option Addr} {N : List Int} {W : World} (h : SpF w p a L lo aw N W) : IntsAt W aw N := h.sp.ints h.inv.le

/-- Besides, the entries made anew at block p. -/
abbrev XF (w : World) (p : Nat) (a : Option Addr) (L : List AEnt) (lo : AEnt) (aw : Option Addr) (N : List Int) (W : World) : Prop :=
  (SpF w p a L lo aw N W ∧ p < W.heap.size ∧ EntsAt W (some ⟨p, 0, none⟩) L ∧ W.there p 0 (L.length * 4)) ∧ CelF w lo W
theorem xf_later {w : World} {p : Nat} {a : Option Addr} {L : List AEnt} {lo : AEnt} {aw : Option Addr} {N : List Int} {W W' : World} (h : XF w p a L lo aw N W) (hb : Below W.heap.size W W') : XF w p a L lo aw N W' := by
  obtain ⟨⟨h1, h2, h3, h4⟩, _⟩ := h
  have h1' := h1.later hb
  exact ⟨⟨h1', Nat.lt_of_lt_of_le h2 hb.size, h3.keep hb, there_next h4 h2 hb⟩, h1'.inv.cells⟩
theorem xf_drew {w : World} {p : Nat} {a : Option Addr} {L : List AEnt} {lo : AEnt} {aw : Option Addr} {N : List Int} {W : World} (h : XF w p a L lo aw N W) : XF w p a L lo aw N W.drew := xf_later h (Below.refl _ _).drew

/-- What the specification answers, and marks. -/
abbrev YF (w : World) (p : Nat) (a : Option Addr) (L : List AEnt) (lo : AEnt) (aw : Option Addr) (N : List Int) (g n : Nat) (W : World) : Prop :=
  (SpF w p a L lo aw N W ∧ MkI g n W) ∧ CelF w lo W
theorem yf_later {w : World} {p : Nat} {a : Option Addr} {L : List AEnt} {lo : AEnt} {aw : Option Addr} {N : List Int} {g n : Nat} {W W' : World} (h : YF w p a L lo aw N g n W) (hb : Below W.heap.size W W') : YF w p a L lo aw N g n W' := by
  obtain ⟨⟨h1, h2⟩, _⟩ := h
  have h1' := h1.later hb
  exact ⟨⟨h1', h2.next hb⟩, h1'.inv.cells⟩
theorem yf_drew {w : World} {p : Nat} {a : Option Addr} {L : List AEnt} {lo : AEnt} {aw : Option Addr} {N : List Int} {g n : Nat} {W : World} (h : YF w p a L lo aw N g n W) : YF w p a L lo aw N g n W.drew := yf_later h (Below.refl _ _).drew

end Go.Proofs.Ytobblnlefhkanaa
