/- What is done: where it lies, and how it is read. Over the seat's translation. -/
import Derived.Test.YtacindondkcaiaaGreatShA
namespace Go.Proofs.YtacindondkcaiaaGreat
open Go.RowKit

theorem run_ixk {P : Program} (n : Nat) (t e : TypeId) (b o len cap k : Nat) (w : World) (hk : k < len) (ht : P.underlying t = some (.slice e)) (hs : (sizeOf e).run P w = .ok n w) :
    (Instr.indexAt t (.slice (some ⟨b, o, none⟩) len cap) (.int .i64 k)).run P w = .ok (.pointer (some ⟨b, o + k * n, none⟩)) w := by
  have hE : P.elem t = e := by simp [Program.elem, ht]
  rw [run_indexAt_slice w t _ len cap .i64 k (by rw [hE]; exact ht), if_pos ⟨by omega, by omega⟩, hE, hs]
  simp [Addr.add_mid]

/-- A change. -/
structure AChg where
  kd : Int
  nm : ByteArray
  nw : ByteArray
  c : ACol

def AChg.cells (x : AChg) : List Value := [.int .i64 x.kd, .string x.nm, .string x.nw, .string x.c.nm, .int .i64 x.c.kd, .bool x.c.nd, .bool x.c.oc, .int .i64 x.c.k, .int .i64 x.c.n, .string x.c.s]
def AChg.fit (x : AChg) : Prop := x.nm.size ≤ maxLen ∧ x.nw.size ≤ maxLen ∧ x.c.fit

/-- The ten cells of a change at an offset. -/
abbrev Cells10 (W : World) (b o : Nat) (x : AChg) : Prop :=
  W.cell? ⟨b, o, none⟩ = some (.int .i64 x.kd) ∧ W.cell? ⟨b, o + 1, none⟩ = some (.string x.nm) ∧ W.cell? ⟨b, o + 2, none⟩ = some (.string x.nw) ∧
    W.cell? ⟨b, o + 3, none⟩ = some (.string x.c.nm) ∧ W.cell? ⟨b, o + 4, none⟩ = some (.int .i64 x.c.kd) ∧ W.cell? ⟨b, o + 5, none⟩ = some (.bool x.c.nd) ∧ W.cell? ⟨b, o + 6, none⟩ = some (.bool x.c.oc) ∧
    W.cell? ⟨b, o + 7, none⟩ = some (.int .i64 x.c.k) ∧ W.cell? ⟨b, o + 8, none⟩ = some (.int .i64 x.c.n) ∧ W.cell? ⟨b, o + 9, none⟩ = some (.string x.c.s)
theorem cells10_of {W : World} {b o : Nat} {c : AChg} (h : W.rangeAt b o c.cells) : Cells10 W b o c :=
  ⟨h 0 _ rfl, h 1 _ rfl, h 2 _ rfl, h 3 _ rfl, h 4 _ rfl, h 5 _ rfl, h 6 _ rfl, h 7 _ rfl, h 8 _ rfl, h 9 _ rfl⟩
theorem cells10_next {W W' : World} {b o : Nat} {c : AChg} (h : Cells10 W b o c) (hlt : b < W.heap.size) (hb : Below W.heap.size W W') : Cells10 W' b o c := by
  have hc := fun x => (bcell hb).1 b x hlt
  unfold Cells10
  simp only [hc]
  exact h

/-- A link. -/
structure ALnk where
  fr : ByteArray
  co : ByteArray
  tt : ByteArray
  hw : Int

def ALnk.cells (x : ALnk) : List Value := [.string x.fr, .string x.co, .string x.tt, .int .i64 x.hw]
def ALnk.fit (x : ALnk) : Prop := x.fr.size ≤ maxLen ∧ x.co.size ≤ maxLen ∧ x.tt.size ≤ maxLen

/-- A value told. -/
structure ASet where
  nm : ByteArray
  k : Int
  n : Int
  s : ByteArray

def ASet.cells (x : ASet) : List Value := [.string x.nm, .int .i64 x.k, .int .i64 x.n, .string x.s]
def ASet.fit (x : ASet) : Prop := x.nm.size ≤ maxLen ∧ x.s.size ≤ maxLen

/-- The sets L lie in W from where the slice begins. -/
def SetsAt (W : World) (a : Option Addr) (L : List ASet) : Prop :=
  L = [] ∨ ∃ b o, a = some ⟨b, o, none⟩ ∧ b < W.heap.size ∧ ∀ i c, L[i]? = some c → W.rangeAt b (o + i * 4) c.cells

theorem SetsAt.keep {W W' : World} {a : Option Addr} {L : List ASet} (h : SetsAt W a L) (hb : Below W.heap.size W W') : SetsAt W' a L := by
  rcases h with h | ⟨b, o, ha, hlt, hr⟩
  · exact Or.inl h
  · refine Or.inr ⟨b, o, ha, Nat.lt_of_lt_of_le hlt hb.size, fun i c hc j v hv => ?_⟩
    rw [(bcell hb).1 _ _ hlt]
    exact hr i c hc j v hv

theorem SetsAt.at {W : World} {a : Option Addr} {L : List ASet} (h : SetsAt W a L) {k : Nat} (hk : k < L.length) :
    ∃ b o, a = some ⟨b, o, none⟩ ∧ b < W.heap.size ∧ W.rangeAt b (o + k * 4) L[k].cells := by
  rcases h with h | ⟨b, o, ha, hlt, hr⟩
  · subst h; simp at hk
  · exact ⟨b, o, ha, hlt, hr k _ (List.getElem?_eq_getElem hk)⟩

/-- The four cells of a value told at an offset. -/
abbrev CellsS (W : World) (b o : Nat) (x : ASet) : Prop :=
  W.cell? ⟨b, o, none⟩ = some (.string x.nm) ∧ W.cell? ⟨b, o + 1, none⟩ = some (.int .i64 x.k) ∧ W.cell? ⟨b, o + 2, none⟩ = some (.int .i64 x.n) ∧ W.cell? ⟨b, o + 3, none⟩ = some (.string x.s)
theorem cellsS_of {W : World} {b o : Nat} {c : ASet} (h : W.rangeAt b o c.cells) : CellsS W b o c := ⟨h 0 _ rfl, h 1 _ rfl, h 2 _ rfl, h 3 _ rfl⟩
theorem cellsS_next {W W' : World} {b o : Nat} {c : ASet} (h : CellsS W b o c) (hlt : b < W.heap.size) (hb : Below W.heap.size W W') : CellsS W' b o c := by
  have hc := fun x => (bcell hb).1 b x hlt
  unfold CellsS
  simp only [hc]
  exact h

/-- What is done. -/
structure AAct where
  kd : Int
  nm : ByteArray
  id : Int
  sets : List ASet
  cols : List ACol
  g : AChg
  l : ALnk

def AAct.fit (x : AAct) : Prop := x.nm.size ≤ maxLen ∧ ((∀ c ∈ x.sets, c.fit) ∧ x.sets.length ≤ maxLen) ∧ ((∀ c ∈ x.cols, c.fit) ∧ x.cols.length ≤ maxLen) ∧ x.g.fit ∧ x.l.fit
/-- So long that it can be made anew. -/
def AAct.near (x : AAct) : Prop := x.sets.length ≤ 1048576 ∧ x.cols.length ≤ 1048576

/-- What is done lies in W. -/
def ActAt (W : World) (a0 a1 : Option Addr) (x : AAct) : Prop := SetsAt W a0 x.sets ∧ ColsAt W a1 x.cols
theorem ActAt.keep {W W' : World} {a0 a1 : Option Addr} {x : AAct} (h : ActAt W a0 a1 x) (hb : Below W.heap.size W W') : ActAt W' a0 a1 x := ⟨h.1.keep hb, h.2.keep hb⟩

/-- The box at B holds nineteen values in W. -/
abbrev BoxA (B : Nat) (v0 v1 v2 v3 v4 v5 v6 v7 v8 v9 v10 v11 v12 v13 v14 v15 v16 v17 v18 : Value) (W : World) : Prop :=
  W.cell? ⟨B, 0, none⟩ = some v0 ∧ W.cell? ⟨B, 1, none⟩ = some v1 ∧ W.cell? ⟨B, 2, none⟩ = some v2 ∧ W.cell? ⟨B, 3, none⟩ = some v3 ∧ W.cell? ⟨B, 4, none⟩ = some v4 ∧ W.cell? ⟨B, 5, none⟩ = some v5 ∧ W.cell? ⟨B, 6, none⟩ = some v6 ∧ W.cell? ⟨B, 7, none⟩ = some v7 ∧ W.cell? ⟨B, 8, none⟩ = some v8 ∧ W.cell? ⟨B, 9, none⟩ = some v9 ∧ W.cell? ⟨B, 10, none⟩ = some v10 ∧ W.cell? ⟨B, 11, none⟩ = some v11 ∧ W.cell? ⟨B, 12, none⟩ = some v12 ∧ W.cell? ⟨B, 13, none⟩ = some v13 ∧ W.cell? ⟨B, 14, none⟩ = some v14 ∧ W.cell? ⟨B, 15, none⟩ = some v15 ∧ W.cell? ⟨B, 16, none⟩ = some v16 ∧ W.cell? ⟨B, 17, none⟩ = some v17 ∧ W.cell? ⟨B, 18, none⟩ = some v18
/-- They may be written too. -/
abbrev FreeA (B : Nat) (W : World) : Prop :=
  W.frozen? ⟨B, 0, none⟩ = false ∧ W.frozen? ⟨B, 1, none⟩ = false ∧ W.frozen? ⟨B, 2, none⟩ = false ∧ W.frozen? ⟨B, 3, none⟩ = false ∧ W.frozen? ⟨B, 4, none⟩ = false ∧ W.frozen? ⟨B, 5, none⟩ = false ∧ W.frozen? ⟨B, 6, none⟩ = false ∧ W.frozen? ⟨B, 7, none⟩ = false ∧ W.frozen? ⟨B, 8, none⟩ = false ∧ W.frozen? ⟨B, 9, none⟩ = false ∧ W.frozen? ⟨B, 10, none⟩ = false ∧ W.frozen? ⟨B, 11, none⟩ = false ∧ W.frozen? ⟨B, 12, none⟩ = false ∧ W.frozen? ⟨B, 13, none⟩ = false ∧ W.frozen? ⟨B, 14, none⟩ = false ∧ W.frozen? ⟨B, 15, none⟩ = false ∧ W.frozen? ⟨B, 16, none⟩ = false ∧ W.frozen? ⟨B, 17, none⟩ = false ∧ W.frozen? ⟨B, 18, none⟩ = false

/-- The box at B holds nineteen values in W, told by their places. -/
def BoxF (B : Nat) (f : Nat → Value) (W : World) : Prop := ∀ j, j < 19 → W.cell? ⟨B, j, none⟩ = some (f j)
def FreeF (B : Nat) (W : World) : Prop := ∀ j, j < 19 → W.frozen? ⟨B, j, none⟩ = false
theorem BoxF.all {B : Nat} {f : Nat → Value} {W : World} (h : BoxF B f W) : BoxA B (f 0) (f 1) (f 2) (f 3) (f 4) (f 5) (f 6) (f 7) (f 8) (f 9) (f 10) (f 11) (f 12) (f 13) (f 14) (f 15) (f 16) (f 17) (f 18) W :=
  ⟨h 0 (by omega), h 1 (by omega), h 2 (by omega), h 3 (by omega), h 4 (by omega), h 5 (by omega), h 6 (by omega), h 7 (by omega), h 8 (by omega), h 9 (by omega), h 10 (by omega), h 11 (by omega), h 12 (by omega), h 13 (by omega), h 14 (by omega), h 15 (by omega), h 16 (by omega), h 17 (by omega), h 18 (by omega)⟩
theorem FreeF.all {B : Nat} {W : World} (h : FreeF B W) : FreeA B W :=
  ⟨h 0 (by omega), h 1 (by omega), h 2 (by omega), h 3 (by omega), h 4 (by omega), h 5 (by omega), h 6 (by omega), h 7 (by omega), h 8 (by omega), h 9 (by omega), h 10 (by omega), h 11 (by omega), h 12 (by omega), h 13 (by omega), h 14 (by omega), h 15 (by omega), h 16 (by omega), h 17 (by omega), h 18 (by omega)⟩
theorem BoxF.next {B C : Nat} {f : Nat → Value} {W W' : World} (h : BoxF B f W) (hB : B < C) (hb : Below C W W') : BoxF B f W' := fun j hj => by
  rw [hb.cell (p := ⟨B, j, none⟩) hB]; exact h j hj
theorem FreeF.next {B C : Nat} {W W' : World} (h : FreeF B W) (hB : B < C) (hb : Below C W W') : FreeF B W' := fun j hj => by
  rw [hb.frozen (p := ⟨B, j, none⟩) hB]; exact h j hj
theorem cell_set {W : World} {B b o p : Nat} {v : Value} (hne : b ≠ B) : (W.setCell ⟨B, o, none⟩ v).cell? ⟨b, p, none⟩ = W.cell? ⟨b, p, none⟩ := World.cell?_of_block (w := W) (a := ⟨b, p, none⟩) (Below.heap_setCell W ⟨B, o, none⟩ v b hne)
theorem frozen_set {W : World} {B b o p : Nat} {v : Value} (hne : b ≠ B) : (W.setCell ⟨B, o, none⟩ v).frozen? ⟨b, p, none⟩ = W.frozen? ⟨b, p, none⟩ := World.frozen?_of_block (w := W) (a := ⟨b, p, none⟩) (Below.heap_setCell W ⟨B, o, none⟩ v b hne)
theorem BoxF.set {B C o : Nat} {f : Nat → Value} {v : Value} {W : World} (h : BoxF B f W) (hne : B ≠ C) : BoxF B f (W.setCell ⟨C, o, none⟩ v) := fun j hj => by rw [cell_set hne]; exact h j hj
theorem FreeF.set {B C o : Nat} {v : Value} {W : World} (h : FreeF B W) (hne : B ≠ C) : FreeF B (W.setCell ⟨C, o, none⟩ v) := fun j hj => by rw [frozen_set hne]; exact h j hj
theorem boxf_box (w : World) (f : Nat → Value) (v0 v1 v2 v3 v4 v5 v6 v7 v8 v9 v10 v11 v12 v13 v14 v15 v16 v17 v18 : Value) (t : TypeId) (h : f 0 = v0 ∧ f 1 = v1 ∧ f 2 = v2 ∧ f 3 = v3 ∧ f 4 = v4 ∧ f 5 = v5 ∧ f 6 = v6 ∧ f 7 = v7 ∧ f 8 = v8 ∧ f 9 = v9 ∧ f 10 = v10 ∧ f 11 = v11 ∧ f 12 = v12 ∧ f 13 = v13 ∧ f 14 = v14 ∧ f 15 = v15 ∧ f 16 = v16 ∧ f 17 = v17 ∧ f 18 = v18) : BoxF w.heap.size f (w.alloc (.cells #[v0, v1, v2, v3, v4, v5, v6, v7, v8, v9, v10, v11, v12, v13, v14, v15, v16, v17, v18] t)) := by
  obtain ⟨e0, e1, e2, e3, e4, e5, e6, e7, e8, e9, e10, e11, e12, e13, e14, e15, e16, e17, e18⟩ := h
  intro j hj
  match j, hj with
  | 0, _ => rw [e0]; go_simp
  | 1, _ => rw [e1]; go_simp
  | 2, _ => rw [e2]; go_simp
  | 3, _ => rw [e3]; go_simp
  | 4, _ => rw [e4]; go_simp
  | 5, _ => rw [e5]; go_simp
  | 6, _ => rw [e6]; go_simp
  | 7, _ => rw [e7]; go_simp
  | 8, _ => rw [e8]; go_simp
  | 9, _ => rw [e9]; go_simp
  | 10, _ => rw [e10]; go_simp
  | 11, _ => rw [e11]; go_simp
  | 12, _ => rw [e12]; go_simp
  | 13, _ => rw [e13]; go_simp
  | 14, _ => rw [e14]; go_simp
  | 15, _ => rw [e15]; go_simp
  | 16, _ => rw [e16]; go_simp
  | 17, _ => rw [e17]; go_simp
  | 18, _ => rw [e18]; go_simp
  | j + 19, hj => omega
theorem freef_box (w : World) (v0 v1 v2 v3 v4 v5 v6 v7 v8 v9 v10 v11 v12 v13 v14 v15 v16 v17 v18 : Value) (t : TypeId) : FreeF w.heap.size (w.alloc (.cells #[v0, v1, v2, v3, v4, v5, v6, v7, v8, v9, v10, v11, v12, v13, v14, v15, v16, v17, v18] t)) := by
  intro j _
  have hb : (w.alloc (.cells #[v0, v1, v2, v3, v4, v5, v6, v7, v8, v9, v10, v11, v12, v13, v14, v15, v16, v17, v18] t)).heap[w.heap.size]? = some (.cells #[v0, v1, v2, v3, v4, v5, v6, v7, v8, v9, v10, v11, v12, v13, v14, v15, v16, v17, v18] t) := by
    show (w.heap.push _)[w.heap.size]? = _
    simp
  simp only [World.frozen?, hb]
  simp

/-- The nineteen values of what is done. -/
def actF (x : AAct) (a0 : Option Addr) (c0 : Nat) (a1 : Option Addr) (c1 : Nat) : Nat → Value
  | 0 => .int .i64 x.kd
  | 1 => .string x.nm
  | 2 => .int .i64 x.id
  | 3 => .slice a0 x.sets.length c0
  | 4 => .slice a1 x.cols.length c1
  | 5 => .int .i64 x.g.kd
  | 6 => .string x.g.nm
  | 7 => .string x.g.nw
  | 8 => .string x.g.c.nm
  | 9 => .int .i64 x.g.c.kd
  | 10 => .bool x.g.c.nd
  | 11 => .bool x.g.c.oc
  | 12 => .int .i64 x.g.c.k
  | 13 => .int .i64 x.g.c.n
  | 14 => .string x.g.c.s
  | 15 => .string x.l.fr
  | 16 => .string x.l.co
  | 17 => .string x.l.tt
  | 18 => .int .i64 x.l.hw
  | _ => .bool false

end Go.Proofs.YtacindondkcaiaaGreat
