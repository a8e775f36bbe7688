/- Changes, rows and tables: where they lie, and how they are read. Over the seat's translation. -/
import Derived.Test.YteckjdoiimifaaaShS2
import Derived.Test.YteckjdoiimifaaaRwS2
namespace Go.Proofs.Yteckjdoiimifaaa
open Go.RowKit

/-- A change. -/
structure AChg where
  kd : Int
  nm : ByteArray
  nw : ByteArray
  c : ACol

def AChg.cells (x : AChg) : List Value := [.int .i64 x.kd, .string x.nm, .string x.nw, .string x.c.nm, .int .i64 x.c.kd, .bool x.c.nd, .bool x.c.oc, .int .i64 x.c.k, .int .i64 x.c.n, .string x.c.s]
def AChg.fit (x : AChg) : Prop := x.nm.size ≤ maxLen ∧ x.nw.size ≤ maxLen ∧ x.c.fit

/-- The changes L lie in W from where the slice begins. -/
def ChgsAt (W : World) (a : Option Addr) (L : List AChg) : Prop :=
  L = [] ∨ ∃ b o, a = some ⟨b, o, none⟩ ∧ b < W.heap.size ∧ ∀ i c, L[i]? = some c → W.rangeAt b (o + i * 10) c.cells

theorem ChgsAt.keep {W W' : World} {a : Option Addr} {L : List AChg} (h : ChgsAt W a L) (hb : Below W.heap.size W W') : ChgsAt W' a L := by
  rcases h with h | ⟨b, o, ha, hlt, hr⟩
  · exact Or.inl h
  · refine Or.inr ⟨b, o, ha, Nat.lt_of_lt_of_le hlt hb.size, fun i c hc j v hv => ?_⟩
    rw [(bcell hb).1 _ _ hlt]
    exact hr i c hc j v hv

theorem run_ix10 {P : Program} (t e : TypeId) (b o len cap k : Nat) (w : World) (hk : k < len) (ht : P.underlying t = some (.slice e)) (hs : (sizeOf e).run P w = .ok 10 w) :
    (Instr.indexAt t (.slice (some ⟨b, o, none⟩) len cap) (.int .i64 k)).run P w = .ok (.pointer (some ⟨b, o + k * 10, none⟩)) w := by
  have hE : P.elem t = e := by simp [Program.elem, ht]
  rw [run_indexAt_slice w t _ len cap .i64 k (by rw [hE]; exact ht), if_pos ⟨by omega, by omega⟩, hE, hs]
  simp [Addr.add_mid]

theorem ChgsAt.at {W : World} {a : Option Addr} {L : List AChg} (h : ChgsAt W a L) {k : Nat} (hk : k < L.length) :
    ∃ b o, a = some ⟨b, o, none⟩ ∧ b < W.heap.size ∧ W.rangeAt b (o + k * 10) L[k].cells := by
  rcases h with h | ⟨b, o, ha, hlt, hr⟩
  · subst h; simp at hk
  · exact ⟨b, o, ha, hlt, hr k _ (List.getElem?_eq_getElem hk)⟩

/-- The ten cells of a change at an offset. -/
abbrev Cells10 (W : World) (b o : Nat) (x : AChg) : Prop :=
  W.cell? ⟨b, o, none⟩ = some (.int .i64 x.kd) ∧ W.cell? ⟨b, o + 1, none⟩ = some (.string x.nm) ∧ W.cell? ⟨b, o + 2, none⟩ = some (.string x.nw) ∧
    W.cell? ⟨b, o + 3, none⟩ = some (.string x.c.nm) ∧ W.cell? ⟨b, o + 4, none⟩ = some (.int .i64 x.c.kd) ∧ W.cell? ⟨b, o + 5, none⟩ = some (.bool x.c.nd) ∧ W.cell? ⟨b, o + 6, none⟩ = some (.bool x.c.oc) ∧
    W.cell? ⟨b, o + 7, none⟩ = some (.int .i64 x.c.k) ∧ W.cell? ⟨b, o + 8, none⟩ = some (.int .i64 x.c.n) ∧ W.cell? ⟨b, o + 9, none⟩ = some (.string x.c.s)
theorem cells10_of {W : World} {b o : Nat} {c : AChg} (h : W.rangeAt b o c.cells) : Cells10 W b o c :=
  ⟨h 0 _ rfl, h 1 _ rfl, h 2 _ rfl, h 3 _ rfl, h 4 _ rfl, h 5 _ rfl, h 6 _ rfl, h 7 _ rfl, h 8 _ rfl, h 9 _ rfl⟩
theorem cells10_next {W W' : World} {b o : Nat} {c : AChg} (h : Cells10 W b o c) (hlt : b < W.heap.size) (hb : Below W.heap.size W W') : Cells10 W' b o c := by
  have hc := fun x => (bcell hb).1 b x hlt
  unfold Cells10
  simp only [hc]
  exact h

/-- A row. -/
structure ARow where
  id : Int
  ver : Int
  vals : List AVal

def ARow.fit (r : ARow) : Prop := (∀ v ∈ r.vals, v.fit) ∧ r.vals.length ≤ maxLen
def ARow.cells (r : ARow) (a : Option Addr) (cap : Nat) : List Value := [.int .i64 r.id, .int .i64 r.ver, .slice a r.vals.length cap]

/-- The rows R lie in W from where the slice begins. -/
def RowsAt (W : World) (a : Option Addr) (R : List ARow) : Prop :=
  R = [] ∨ ∃ b o, a = some ⟨b, o, none⟩ ∧ b < W.heap.size ∧ ∀ i r, R[i]? = some r → ∃ ra rc, W.rangeAt b (o + i * 3) (r.cells ra rc) ∧ ValsAt W ra r.vals

theorem RowsAt.keep {W W' : World} {a : Option Addr} {L : List ARow} (h : RowsAt W a L) (hb : Below W.heap.size W W') : RowsAt W' a L := by
  rcases h with h | ⟨b, o, ha, hlt, hr⟩
  · exact Or.inl h
  · refine Or.inr ⟨b, o, ha, Nat.lt_of_lt_of_le hlt hb.size, fun i c hc => ?_⟩
    obtain ⟨ra, rc, h1, h2⟩ := hr i c hc
    refine ⟨ra, rc, fun j v hv => ?_, h2.keep hb⟩
    rw [(bcell hb).1 _ _ hlt]
    exact h1 j v hv

theorem RowsAt.at {W : World} {a : Option Addr} {L : List ARow} (h : RowsAt W a L) {k : Nat} (hk : k < L.length) :
    ∃ b o ra rc, a = some ⟨b, o, none⟩ ∧ b < W.heap.size ∧ W.rangeAt b (o + k * 3) (L[k].cells ra rc) ∧ ValsAt W ra L[k].vals := by
  rcases h with h | ⟨b, o, ha, hlt, hr⟩
  · subst h; simp at hk
  · obtain ⟨ra, rc, h1, h2⟩ := hr k _ (List.getElem?_eq_getElem hk)
    exact ⟨b, o, ra, rc, ha, hlt, h1, h2⟩

/-- The three cells of a row at an offset. -/
abbrev CellsR (W : World) (b o : Nat) (r : ARow) (a : Option Addr) (cap : Nat) : Prop :=
  W.cell? ⟨b, o, none⟩ = some (.int .i64 r.id) ∧ W.cell? ⟨b, o + 1, none⟩ = some (.int .i64 r.ver) ∧ W.cell? ⟨b, o + 2, none⟩ = some (.slice a r.vals.length cap)
theorem cellsR_of {W : World} {b o : Nat} {r : ARow} {a : Option Addr} {cap : Nat} (h : W.rangeAt b o (r.cells a cap)) : CellsR W b o r a cap := ⟨h 0 _ rfl, h 1 _ rfl, h 2 _ rfl⟩
theorem cellsR_next {W W' : World} {b o : Nat} {r : ARow} {a : Option Addr} {cap : Nat} (h : CellsR W b o r a cap) (hlt : b < W.heap.size) (hb : Below W.heap.size W W') : CellsR W' b o r a cap := by
  have hc := fun x => (bcell hb).1 b x hlt
  unfold CellsR
  simp only [hc]
  exact h

/-- A table. -/
structure ATab where
  cols : List ACol
  chgs : List AChg
  rows : List ARow
  nx : Int

def ATab.fit (t : ATab) : Prop := (∀ c ∈ t.cols, c.fit) ∧ t.cols.length ≤ maxLen ∧ (∀ c ∈ t.chgs, c.fit) ∧ t.chgs.length ≤ maxLen ∧ (∀ r ∈ t.rows, r.fit) ∧ t.rows.length ≤ maxLen
/-- So long that it can be made anew. -/
def ATab.near (t : ATab) : Prop := t.cols.length ≤ 1048576 ∧ t.chgs.length ≤ 1048576 ∧ t.rows.length ≤ 1048576 ∧ ∀ r ∈ t.rows, r.vals.length ≤ 1048576

/-- The table lies in W. -/
def TabAt (W : World) (a0 a1 a2 : Option Addr) (t : ATab) : Prop := ColsAt W a0 t.cols ∧ ChgsAt W a1 t.chgs ∧ RowsAt W a2 t.rows
theorem TabAt.keep {W W' : World} {a0 a1 a2 : Option Addr} {t : ATab} (h : TabAt W a0 a1 a2 t) (hb : Below W.heap.size W W') : TabAt W' a0 a1 a2 t := ⟨h.1.keep hb, h.2.1.keep hb, h.2.2.keep hb⟩

/-- What is left of l: -1, or not less than nought, and then P. -/
def Rest (l z : Int) (P : Prop) : Prop := z = -1 ∨ (0 ≤ z ∧ z ≤ l ∧ P)
theorem rest_of {l : Int} {k : Nat} {P : Prop} (h : (k : Int) ≤ l → P) : Rest l (left l k) P := by
  by_cases hk : (k : Int) ≤ l
  · rw [left_pos hk]; exact Or.inr ⟨by omega, by omega, h hk⟩
  · rw [left_neg hk]; exact Or.inl rfl

end Go.Proofs.Yteckjdoiimifaaa
