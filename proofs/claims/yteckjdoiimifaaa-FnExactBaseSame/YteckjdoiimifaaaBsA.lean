/- Links, tables with names, and bases: where they lie, and how they are read. Over the seat's translation. -/
import Derived.Test.YteckjdoiimifaaaTsA
namespace Go.Proofs.Yteckjdoiimifaaa
open Go.RowKit

theorem run_ixk {P : Program} (n : Nat) (t e : TypeId) (b o len cap k : Nat) (w : World) (hk : k < len) (ht : P.underlying t = some (.slice e)) (hs : (sizeOf e).run P w = .ok n w) :
    (Instr.indexAt t (.slice (some ⟨b, o, none⟩) len cap) (.int .i64 k)).run P w = .ok (.pointer (some ⟨b, o + k * n, none⟩)) w := by
  have hE : P.elem t = e := by simp [Program.elem, ht]
  rw [run_indexAt_slice w t _ len cap .i64 k (by rw [hE]; exact ht), if_pos ⟨by omega, by omega⟩, hE, hs]
  simp [Addr.add_mid]

/-- A link. -/
structure ALnk where
  fr : ByteArray
  co : ByteArray
  tt : ByteArray
  hw : Int

def ALnk.cells (x : ALnk) : List Value := [.string x.fr, .string x.co, .string x.tt, .int .i64 x.hw]
def ALnk.fit (x : ALnk) : Prop := x.fr.size ≤ maxLen ∧ x.co.size ≤ maxLen ∧ x.tt.size ≤ maxLen

/-- The links L lie in W from where the slice begins. -/
def LnksAt (W : World) (a : Option Addr) (L : List ALnk) : Prop :=
  L = [] ∨ ∃ b o, a = some ⟨b, o, none⟩ ∧ b < W.heap.size ∧ ∀ i c, L[i]? = some c → W.rangeAt b (o + i * 4) c.cells

theorem LnksAt.keep {W W' : World} {a : Option Addr} {L : List ALnk} (h : LnksAt W a L) (hb : Below W.heap.size W W') : LnksAt W' a L := by
  rcases h with h | ⟨b, o, ha, hlt, hr⟩
  · exact Or.inl h
  · refine Or.inr ⟨b, o, ha, Nat.lt_of_lt_of_le hlt hb.size, fun i c hc j v hv => ?_⟩
    rw [(bcell hb).1 _ _ hlt]
    exact hr i c hc j v hv

theorem LnksAt.at {W : World} {a : Option Addr} {L : List ALnk} (h : LnksAt W a L) {k : Nat} (hk : k < L.length) :
    ∃ b o, a = some ⟨b, o, none⟩ ∧ b < W.heap.size ∧ W.rangeAt b (o + k * 4) L[k].cells := by
  rcases h with h | ⟨b, o, ha, hlt, hr⟩
  · subst h; simp at hk
  · exact ⟨b, o, ha, hlt, hr k _ (List.getElem?_eq_getElem hk)⟩

/-- The four cells of a link at an offset. -/
abbrev CellsL (W : World) (b o : Nat) (x : ALnk) : Prop :=
  W.cell? ⟨b, o, none⟩ = some (.string x.fr) ∧ W.cell? ⟨b, o + 1, none⟩ = some (.string x.co) ∧ W.cell? ⟨b, o + 2, none⟩ = some (.string x.tt) ∧ W.cell? ⟨b, o + 3, none⟩ = some (.int .i64 x.hw)
theorem cellsL_of {W : World} {b o : Nat} {c : ALnk} (h : W.rangeAt b o c.cells) : CellsL W b o c := ⟨h 0 _ rfl, h 1 _ rfl, h 2 _ rfl, h 3 _ rfl⟩
theorem cellsL_next {W W' : World} {b o : Nat} {c : ALnk} (h : CellsL W b o c) (hlt : b < W.heap.size) (hb : Below W.heap.size W W') : CellsL W' b o c := by
  have hc := fun x => (bcell hb).1 b x hlt
  unfold CellsL
  simp only [hc]
  exact h

/-- Where the three lists of a table lie. -/
structure PTab where
  a0 : Option Addr
  a1 : Option Addr
  a2 : Option Addr
  c0 : Nat
  c1 : Nat
  c2 : Nat

/-- A table with its name. -/
structure ANam where
  nm : ByteArray
  t : ATab

def ANam.fit (x : ANam) : Prop := x.nm.size ≤ maxLen ∧ x.t.fit
def ANam.cells (x : ANam) (p : PTab) : List Value := [.string x.nm, .slice p.a0 x.t.cols.length p.c0, .slice p.a1 x.t.chgs.length p.c1, .slice p.a2 x.t.rows.length p.c2, .int .i64 x.t.nx]

/-- The tables L lie in W from where the slice begins. -/
def NamsAt (W : World) (a : Option Addr) (L : List ANam) : Prop :=
  L = [] ∨ ∃ b o, a = some ⟨b, o, none⟩ ∧ b < W.heap.size ∧ ∀ i x, L[i]? = some x → ∃ p : PTab, W.rangeAt b (o + i * 5) (x.cells p) ∧ TabAt W p.a0 p.a1 p.a2 x.t

theorem NamsAt.keep {W W' : World} {a : Option Addr} {L : List ANam} (h : NamsAt W a L) (hb : Below W.heap.size W W') : NamsAt W' a L := by
  rcases h with h | ⟨b, o, ha, hlt, hr⟩
  · exact Or.inl h
  · refine Or.inr ⟨b, o, ha, Nat.lt_of_lt_of_le hlt hb.size, fun i c hc => ?_⟩
    obtain ⟨p, h1, h2⟩ := hr i c hc
    refine ⟨p, fun j v hv => ?_, h2.keep hb⟩
    rw [(bcell hb).1 _ _ hlt]
    exact h1 j v hv

theorem NamsAt.at {W : World} {a : Option Addr} {L : List ANam} (h : NamsAt W a L) {k : Nat} (hk : k < L.length) :
    ∃ (b o : Nat) (p : PTab), a = some ⟨b, o, none⟩ ∧ b < W.heap.size ∧ W.rangeAt b (o + k * 5) (L[k].cells p) ∧ TabAt W p.a0 p.a1 p.a2 L[k].t := by
  rcases h with h | ⟨b, o, ha, hlt, hr⟩
  · subst h; simp at hk
  · obtain ⟨p, h1, h2⟩ := hr k _ (List.getElem?_eq_getElem hk)
    exact ⟨b, o, p, ha, hlt, h1, h2⟩

/-- The five cells of a table with its name at an offset. -/
abbrev CellsN (W : World) (b o : Nat) (x : ANam) (p : PTab) : Prop :=
  W.cell? ⟨b, o, none⟩ = some (.string x.nm) ∧ W.cell? ⟨b, o + 1, none⟩ = some (.slice p.a0 x.t.cols.length p.c0) ∧ W.cell? ⟨b, o + 2, none⟩ = some (.slice p.a1 x.t.chgs.length p.c1) ∧ W.cell? ⟨b, o + 3, none⟩ = some (.slice p.a2 x.t.rows.length p.c2) ∧ W.cell? ⟨b, o + 4, none⟩ = some (.int .i64 x.t.nx)
theorem cellsN_of {W : World} {b o : Nat} {x : ANam} {p : PTab} (h : W.rangeAt b o (x.cells p)) : CellsN W b o x p := ⟨h 0 _ rfl, h 1 _ rfl, h 2 _ rfl, h 3 _ rfl, h 4 _ rfl⟩
theorem cellsN_next {W W' : World} {b o : Nat} {x : ANam} {p : PTab} (h : CellsN W b o x p) (hlt : b < W.heap.size) (hb : Below W.heap.size W W') : CellsN W' b o x p := by
  have hc := fun x => (bcell hb).1 b x hlt
  unfold CellsN
  simp only [hc]
  exact h

/-- A base. -/
structure ABas where
  tabs : List ANam
  lnks : List ALnk

def ABas.fit (x : ABas) : Prop := (∀ c ∈ x.tabs, c.fit) ∧ x.tabs.length ≤ maxLen ∧ (∀ c ∈ x.lnks, c.fit) ∧ x.lnks.length ≤ maxLen
/-- So long that it can be made anew. -/
def ABas.near (x : ABas) : Prop := x.tabs.length ≤ 1048576 ∧ (∀ c ∈ x.tabs, c.t.near) ∧ x.lnks.length ≤ 1048576

/-- The base lies in W. -/
def BasAt (W : World) (a0 a1 : Option Addr) (x : ABas) : Prop := NamsAt W a0 x.tabs ∧ LnksAt W a1 x.lnks
theorem BasAt.keep {W W' : World} {a0 a1 : Option Addr} {x : ABas} (h : BasAt W a0 a1 x) (hb : Below W.heap.size W W') : BasAt W' a0 a1 x := ⟨h.1.keep hb, h.2.keep hb⟩

end Go.Proofs.Yteckjdoiimifaaa
