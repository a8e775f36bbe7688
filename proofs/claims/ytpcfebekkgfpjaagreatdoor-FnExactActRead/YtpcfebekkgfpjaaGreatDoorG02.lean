/- Slices of columns: where they lie, and how they are read. Over the seat's translation. -/
import Derived.Test.YtpcfebekkgfpjaaGreatDoorG01
import Derived.Deep.MidRow
import Derived.Laws.IdiomStrings
import Derived.Deep.RegionHeld3
namespace Go.Proofs.YtpcfebekkgfpjaaGreatDoor
open Go.RowKit

/-- A column. -/
structure ACol where
  nm : ByteArray
  kd : Int
  nd : Bool
  oc : Bool
  k : Int
  n : Int
  s : ByteArray

def ACol.cells (c : ACol) : List Value := [.string c.nm, .int .i64 c.kd, .bool c.nd, .bool c.oc, .int .i64 c.k, .int .i64 c.n, .string c.s]
def ACol.fit (c : ACol) : Prop := c.nm.size ≤ maxLen ∧ c.s.size ≤ maxLen
def ACol.ok (c : ACol) : Bool := colOk c.nm c.kd c.oc c.k c.n c.s
def ACol.sz (c : ACol) : Nat := c.nm.size + c.s.size

/-- The columns L lie in W from where the slice begins. -/
def ColsAt (W : World) (a : Option Addr) (L : List ACol) : Prop :=
  L = [] ∨ ∃ b o, a = some ⟨b, o, none⟩ ∧ b < W.heap.size ∧ ∀ i c, L[i]? = some c → W.rangeAt b (o + i * 7) c.cells

theorem ColsAt.keep {W W' : World} {a : Option Addr} {L : List ACol} (h : ColsAt W a L) (hb : Below W.heap.size W W') : ColsAt W' a L := by
  rcases h with h | ⟨b, o, ha, hlt, hr⟩
  · exact Or.inl h
  · refine Or.inr ⟨b, o, ha, Nat.lt_of_lt_of_le hlt hb.size, fun i c hc j v hv => ?_⟩
    rw [(bcell hb).1 _ _ hlt]
    exact hr i c hc j v hv

theorem run_ix {P : Program} (t e : TypeId) (b o len cap k : Nat) (w : World) (hk : k < len) (ht : P.underlying t = some (.slice e)) (hs : (sizeOf e).run P w = .ok 7 w) :
    (Instr.indexAt t (.slice (some ⟨b, o, none⟩) len cap) (.int .i64 k)).run P w = .ok (.pointer (some ⟨b, o + k * 7, none⟩)) w := by
  have hE : P.elem t = e := by simp [Program.elem, ht]
  rw [run_indexAt_slice w t _ len cap .i64 k (by rw [hE]; exact ht), if_pos ⟨by omega, by omega⟩, hE, hs]
  simp [Addr.add_mid]

theorem ColsAt.at {W : World} {a : Option Addr} {L : List ACol} (h : ColsAt W a L) {k : Nat} (hk : k < L.length) :
    ∃ b o, a = some ⟨b, o, none⟩ ∧ b < W.heap.size ∧ W.rangeAt b (o + k * 7) L[k].cells := by
  rcases h with h | ⟨b, o, ha, hlt, hr⟩
  · subst h; simp at hk
  · exact ⟨b, o, ha, hlt, hr k _ (List.getElem?_eq_getElem hk)⟩

/-- The seven cells of a column at an offset. -/
abbrev Cells7 (W : World) (b o : Nat) (c : ACol) : Prop :=
  W.cell? ⟨b, o, none⟩ = some (.string c.nm) ∧ W.cell? ⟨b, o + 1, none⟩ = some (.int .i64 c.kd) ∧ W.cell? ⟨b, o + 2, none⟩ = some (.bool c.nd) ∧ W.cell? ⟨b, o + 3, none⟩ = some (.bool c.oc) ∧
    W.cell? ⟨b, o + 4, none⟩ = some (.int .i64 c.k) ∧ W.cell? ⟨b, o + 5, none⟩ = some (.int .i64 c.n) ∧ W.cell? ⟨b, o + 6, none⟩ = some (.string c.s)
theorem cells7_of {W : World} {b o : Nat} {c : ACol} (h : W.rangeAt b o c.cells) : Cells7 W b o c :=
  ⟨h 0 _ rfl, h 1 _ rfl, h 2 _ rfl, h 3 _ rfl, h 4 _ rfl, h 5 _ rfl, h 6 _ rfl⟩
theorem range_of {W : World} {b o : Nat} {c : ACol} (h : Cells7 W b o c) : W.rangeAt b o c.cells := by
  obtain ⟨h0, h1, h2, h3, h4, h5, h6⟩ := h
  intro j v hv
  match j with
  | 0 => simp [ACol.cells] at hv; subst hv; exact h0
  | 1 => simp [ACol.cells] at hv; subst hv; exact h1
  | 2 => simp [ACol.cells] at hv; subst hv; exact h2
  | 3 => simp [ACol.cells] at hv; subst hv; exact h3
  | 4 => simp [ACol.cells] at hv; subst hv; exact h4
  | 5 => simp [ACol.cells] at hv; subst hv; exact h5
  | 6 => simp [ACol.cells] at hv; subst hv; exact h6
  | j + 7 => simp [ACol.cells] at hv

theorem cells7_next {W W' : World} {b o : Nat} {c : ACol} (h : Cells7 W b o c) (hlt : b < W.heap.size) (hb : Below W.heap.size W W') : Cells7 W' b o c := by
  have hc := fun x => (bcell hb).1 b x hlt
  unfold Cells7
  simp only [hc]
  exact h

theorem Tryz.info28 : ∃ i, Tryz.prog.info? 28 = some i ∧ i.zero = some (.agg #[.string ⟨#[]⟩, .int .i64 0, .bool false, .bool false, .int .i64 0, .int .i64 0, .string ⟨#[]⟩]) ∧ i.size = 7 ∧ i.bytes ≤ 128 := by
  have h : (Tryz.prog.info? 28).map (fun i => (i.zero, i.size, decide (i.bytes ≤ 128))) = some (some (.agg #[.string ⟨#[]⟩, .int .i64 0, .bool false, .bool false, .int .i64 0, .int .i64 0, .string ⟨#[]⟩]), 7, true) := by kernel_rfl
  obtain ⟨i, hi, he⟩ := Option.map_eq_some_iff.1 h
  simp only [Prod.mk.injEq, decide_eq_true_eq] at he
  exact ⟨i, hi, he.1, he.2.1, he.2.2⟩

end Go.Proofs.YtpcfebekkgfpjaaGreatDoor

/- The contract of laws.markText, beside what is done. Over the seat's translation. -/
namespace Go.Proofs.YtpcfebekkgfpjaaGreatDoor
open Go.RowKit

/-- The decimals of n ahead of a text. -/
def mt (n : Nat) (s : ByteArray) : ByteArray := if n = 0 then s else mt (n / 10) (⟨#[UInt8.ofNat (48 + n % 10)]⟩ ++ s)
termination_by n
def markT (n : Nat) : ByteArray := ⟨#[109]⟩ ++ mt n ⟨#[]⟩

theorem mt_zero (s : ByteArray) : mt 0 s = s := by rw [mt]; simp
theorem mt_next (n : Nat) (s : ByteArray) (h : 0 < n) : mt n s = mt (n / 10) (⟨#[UInt8.ofNat (48 + n % 10)]⟩ ++ s) := by
  rw [mt, if_neg (by omega)]

theorem conv_one (W : World) (m : Nat) : ∃ u : UInt8, u = UInt8.ofNat (48 + m % 10) ∧
    (convert 22 9 (.slice (some ⟨W.heap.size, 0, none⟩) 1 1)).run Tryz.prog (W.alloc (.cells #[.int .u8 (48 + (m : Int) % 10)] 5)) = .ok (.string ⟨#[u]⟩) (W.alloc (.cells #[.int .u8 (48 + (m : Int) % 10)] 5)) := by
  have hb : ((UInt8.ofNat (48 + m % 10)).toNat : Int) = 48 + (m : Int) % 10 := by
    have : (UInt8.ofNat (48 + m % 10)).toNat = 48 + m % 10 := by simp; omega
    omega
  exact ⟨_, rfl, run_convert_bytes_back _ _ _ 5 _ 1 [UInt8.ofNat (48 + m % 10)] Tryz.underlying22 Tryz.underlying5 Tryz.underlying9 (fun j hj => by
    have : j = 0 := by simp at hj; omega
    subst this
    simp only [List.getElem_cons_zero, hb]; simp [Addr.add, go_sem])⟩

set_option maxRecDepth 100000 in
set_option maxHeartbeats 1000000 in
theorem mark_text (n : Nat) (w : World) (h0 : 0 < n) (hn : n ≤ 100000000) :
    Calls Tryz.prog 83 #[.int .i64 n] w fun e w' => e = .returned (.string (markT n)) ∧ Below w.heap.size w w' := by
  go_enter Tryz.func83, Tryz.ntmps83
  go_wp2_with fail
  go_loopw [0, 3] (fun i s wr => ∃ (m : Nat) (t : ByteArray), m + t.size ≤ n ∧ i = .int .i64 m ∧ s = .string t ∧ Hid (mt m t = mt n ⟨#[]⟩ ∧ Below w.heap.size w wr)) (fun i _ _ => (intOf i).toNat)
  case atStart => exact ⟨n, ⟨#[]⟩, Nat.le_refl _, rfl, rfl, rfl, Below.refl _ _⟩
  case round =>
    obtain ⟨m, t, hmt, rfl, rfl, hH⟩ := hrel
    by_cases hm : 0 < m
    · have hm' : (0 : Int) < m := by omega
      obtain ⟨u, hu, hcv⟩ := conv_one wr m
      have hU : Hid (u = UInt8.ofNat (48 + m % 10)) := hu
      have hts : t.size ≤ 100000000 := by omega
      have hmm : m ≤ 100000000 := by omega
      clear hn hu
      go_wp2_with fail
      go_roundw
      case rel =>
        refine ⟨m / 10, ⟨#[u]⟩ ++ t, ?_, ?_, rfl, ?_, hH.out.2.alloc hH.out.2.size _⟩
        · rw [ByteArray.size_append, show (⟨#[u]⟩ : ByteArray).size = 1 from rfl]
          omega
        · go_num
        · rw [hU.out, ← mt_next m t hm]
          exact hH.out.1
      case measure => simp [intOf]; omega
    · have : m = 0 := by omega
      subst this
      go_wp2_with fail
      go_ret
      refine ⟨?_, hH.out.2⟩
      have := hH.out.1
      rw [mt_zero] at this
      subst this
      rfl

/-- Seven cells at an offset, which may be written. -/
abbrev There7 (W : World) (b o : Nat) : Prop :=
  ∃ x0 x1 x2 x3 x4 x5 x6, W.cell? ⟨b, o, none⟩ = some x0 ∧ W.cell? ⟨b, o + 1, none⟩ = some x1 ∧ W.cell? ⟨b, o + 2, none⟩ = some x2 ∧ W.cell? ⟨b, o + 3, none⟩ = some x3 ∧ W.cell? ⟨b, o + 4, none⟩ = some x4 ∧ W.cell? ⟨b, o + 5, none⟩ = some x5 ∧ W.cell? ⟨b, o + 6, none⟩ = some x6 ∧
    W.frozen? ⟨b, o, none⟩ = false ∧ W.frozen? ⟨b, o + 1, none⟩ = false ∧ W.frozen? ⟨b, o + 2, none⟩ = false ∧ W.frozen? ⟨b, o + 3, none⟩ = false ∧ W.frozen? ⟨b, o + 4, none⟩ = false ∧ W.frozen? ⟨b, o + 5, none⟩ = false ∧ W.frozen? ⟨b, o + 6, none⟩ = false
theorem there7_of {W : World} {b n k : Nat} (h : W.there b 0 (n * 7)) (hk : k < n) : There7 W b (k * 7) := by
  have hh : ∀ j, j < 7 → (∃ x, W.cell? ⟨b, k * 7 + j, none⟩ = some x) ∧ W.frozen? ⟨b, k * 7 + j, none⟩ = false := fun j hj => by
    have := h (k * 7 + j) (by omega)
    rw [Nat.zero_add] at this
    exact ⟨Option.isSome_iff_exists.1 this.1, this.2⟩
  obtain ⟨⟨x0, a0⟩, b0⟩ := hh 0 (by omega)
  obtain ⟨⟨x1, a1⟩, b1⟩ := hh 1 (by omega)
  obtain ⟨⟨x2, a2⟩, b2⟩ := hh 2 (by omega)
  obtain ⟨⟨x3, a3⟩, b3⟩ := hh 3 (by omega)
  obtain ⟨⟨x4, a4⟩, b4⟩ := hh 4 (by omega)
  obtain ⟨⟨x5, a5⟩, b5⟩ := hh 5 (by omega)
  obtain ⟨⟨x6, a6⟩, b6⟩ := hh 6 (by omega)
  exact ⟨x0, x1, x2, x3, x4, x5, x6, a0, a1, a2, a3, a4, a5, a6, b0, b1, b2, b3, b4, b5, b6⟩

/-- Four cells at an offset, which may be written. -/
abbrev There4 (W : World) (b o : Nat) : Prop :=
  ∃ x0 x1 x2 x3, W.cell? ⟨b, o, none⟩ = some x0 ∧ W.cell? ⟨b, o + 1, none⟩ = some x1 ∧ W.cell? ⟨b, o + 2, none⟩ = some x2 ∧ W.cell? ⟨b, o + 3, none⟩ = some x3 ∧
    W.frozen? ⟨b, o, none⟩ = false ∧ W.frozen? ⟨b, o + 1, none⟩ = false ∧ W.frozen? ⟨b, o + 2, none⟩ = false ∧ W.frozen? ⟨b, o + 3, none⟩ = false
theorem there4_of {W : World} {b n k : Nat} (h : W.there b 0 (n * 4)) (hk : k < n) : There4 W b (k * 4) := by
  have hh : ∀ j, j < 4 → (∃ x, W.cell? ⟨b, k * 4 + j, none⟩ = some x) ∧ W.frozen? ⟨b, k * 4 + j, none⟩ = false := fun j hj => by
    have := h (k * 4 + j) (by omega)
    rw [Nat.zero_add] at this
    exact ⟨Option.isSome_iff_exists.1 this.1, this.2⟩
  obtain ⟨⟨x0, a0⟩, b0⟩ := hh 0 (by omega)
  obtain ⟨⟨x1, a1⟩, b1⟩ := hh 1 (by omega)
  obtain ⟨⟨x2, a2⟩, b2⟩ := hh 2 (by omega)
  obtain ⟨⟨x3, a3⟩, b3⟩ := hh 3 (by omega)
  exact ⟨x0, x1, x2, x3, a0, a1, a2, a3, b0, b1, b2, b3⟩

end Go.Proofs.YtpcfebekkgfpjaaGreatDoor

/- What is done: where it lies, and how it is read. Over the seat's translation. -/
namespace Go.Proofs.YtpcfebekkgfpjaaGreatDoor
open Go.RowKit

theorem run_ixk {P : Program} (n : Nat) (t e : TypeId) (b o len cap k : Nat) (w : World) (hk : k < len) (ht : P.underlying t = some (.slice e)) (hs : (sizeOf e).run P w = .ok n w) :
    (Instr.indexAt t (.slice (some ⟨b, o, none⟩) len cap) (.int .i64 k)).run P w = .ok (.pointer (some ⟨b, o + k * n, none⟩)) w := by
  have hE : P.elem t = e := by simp [Program.elem, ht]
  rw [run_indexAt_slice w t _ len cap .i64 k (by rw [hE]; exact ht), if_pos ⟨by omega, by omega⟩, hE, hs]
  simp [Addr.add_mid]

/-- A change. -/
structure AChg where
  kd : Int
  nm : ByteArray
  nw : ByteArray
  c : ACol

def AChg.cells (x : AChg) : List Value := [.int .i64 x.kd, .string x.nm, .string x.nw, .string x.c.nm, .int .i64 x.c.kd, .bool x.c.nd, .bool x.c.oc, .int .i64 x.c.k, .int .i64 x.c.n, .string x.c.s]
def AChg.fit (x : AChg) : Prop := x.nm.size ≤ maxLen ∧ x.nw.size ≤ maxLen ∧ x.c.fit

/-- The ten cells of a change at an offset. -/
abbrev Cells10 (W : World) (b o : Nat) (x : AChg) : Prop :=
  W.cell? ⟨b, o, none⟩ = some (.int .i64 x.kd) ∧ W.cell? ⟨b, o + 1, none⟩ = some (.string x.nm) ∧ W.cell? ⟨b, o + 2, none⟩ = some (.string x.nw) ∧
    W.cell? ⟨b, o + 3, none⟩ = some (.string x.c.nm) ∧ W.cell? ⟨b, o + 4, none⟩ = some (.int .i64 x.c.kd) ∧ W.cell? ⟨b, o + 5, none⟩ = some (.bool x.c.nd) ∧ W.cell? ⟨b, o + 6, none⟩ = some (.bool x.c.oc) ∧
    W.cell? ⟨b, o + 7, none⟩ = some (.int .i64 x.c.k) ∧ W.cell? ⟨b, o + 8, none⟩ = some (.int .i64 x.c.n) ∧ W.cell? ⟨b, o + 9, none⟩ = some (.string x.c.s)
theorem cells10_of {W : World} {b o : Nat} {c : AChg} (h : W.rangeAt b o c.cells) : Cells10 W b o c :=
  ⟨h 0 _ rfl, h 1 _ rfl, h 2 _ rfl, h 3 _ rfl, h 4 _ rfl, h 5 _ rfl, h 6 _ rfl, h 7 _ rfl, h 8 _ rfl, h 9 _ rfl⟩
theorem cells10_next {W W' : World} {b o : Nat} {c : AChg} (h : Cells10 W b o c) (hlt : b < W.heap.size) (hb : Below W.heap.size W W') : Cells10 W' b o c := by
  have hc := fun x => (bcell hb).1 b x hlt
  unfold Cells10
  simp only [hc]
  exact h

/-- A link. -/
structure ALnk where
  fr : ByteArray
  co : ByteArray
  tt : ByteArray
  hw : Int

def ALnk.cells (x : ALnk) : List Value := [.string x.fr, .string x.co, .string x.tt, .int .i64 x.hw]
def ALnk.fit (x : ALnk) : Prop := x.fr.size ≤ maxLen ∧ x.co.size ≤ maxLen ∧ x.tt.size ≤ maxLen

/-- A value told. -/
structure ASet where
  nm : ByteArray
  k : Int
  n : Int
  s : ByteArray

def ASet.cells (x : ASet) : List Value := [.string x.nm, .int .i64 x.k, .int .i64 x.n, .string x.s]
def ASet.fit (x : ASet) : Prop := x.nm.size ≤ maxLen ∧ x.s.size ≤ maxLen

/-- The sets L lie in W from where the slice begins. -/
def SetsAt (W : World) (a : Option Addr) (L : List ASet) : Prop :=
  L = [] ∨ ∃ b o, a = some ⟨b, o, none⟩ ∧ b < W.heap.size ∧ ∀ i c, L[i]? = some c → W.rangeAt b (o + i * 4) c.cells

theorem SetsAt.keep {W W' : World} {a : Option Addr} {L : List ASet} (h : SetsAt W a L) (hb : Below W.heap.size W W') : SetsAt W' a L := by
  rcases h with h | ⟨b, o, ha, hlt, hr⟩
  · exact Or.inl h
  · refine Or.inr ⟨b, o, ha, Nat.lt_of_lt_of_le hlt hb.size, fun i c hc j v hv => ?_⟩
    rw [(bcell hb).1 _ _ hlt]
    exact hr i c hc j v hv

theorem SetsAt.at {W : World} {a : Option Addr} {L : List ASet} (h : SetsAt W a L) {k : Nat} (hk : k < L.length) :
    ∃ b o, a = some ⟨b, o, none⟩ ∧ b < W.heap.size ∧ W.rangeAt b (o + k * 4) L[k].cells := by
  rcases h with h | ⟨b, o, ha, hlt, hr⟩
  · subst h; simp at hk
  · exact ⟨b, o, ha, hlt, hr k _ (List.getElem?_eq_getElem hk)⟩

/-- The four cells of a value told at an offset. -/
abbrev CellsS (W : World) (b o : Nat) (x : ASet) : Prop :=
  W.cell? ⟨b, o, none⟩ = some (.string x.nm) ∧ W.cell? ⟨b, o + 1, none⟩ = some (.int .i64 x.k) ∧ W.cell? ⟨b, o + 2, none⟩ = some (.int .i64 x.n) ∧ W.cell? ⟨b, o + 3, none⟩ = some (.string x.s)
theorem cellsS_of {W : World} {b o : Nat} {c : ASet} (h : W.rangeAt b o c.cells) : CellsS W b o c := ⟨h 0 _ rfl, h 1 _ rfl, h 2 _ rfl, h 3 _ rfl⟩
theorem cellsS_next {W W' : World} {b o : Nat} {c : ASet} (h : CellsS W b o c) (hlt : b < W.heap.size) (hb : Below W.heap.size W W') : CellsS W' b o c := by
  have hc := fun x => (bcell hb).1 b x hlt
  unfold CellsS
  simp only [hc]
  exact h

/-- What is done. -/
structure AAct where
  kd : Int
  nm : ByteArray
  id : Int
  sets : List ASet
  cols : List ACol
  g : AChg
  l : ALnk

def AAct.fit (x : AAct) : Prop := x.nm.size ≤ maxLen ∧ ((∀ c ∈ x.sets, c.fit) ∧ x.sets.length ≤ maxLen) ∧ ((∀ c ∈ x.cols, c.fit) ∧ x.cols.length ≤ maxLen) ∧ x.g.fit ∧ x.l.fit
/-- So long that it can be made anew. -/
def AAct.near (x : AAct) : Prop := x.sets.length ≤ 1048576 ∧ x.cols.length ≤ 1048576

/-- What is done lies in W. -/
def ActAt (W : World) (a0 a1 : Option Addr) (x : AAct) : Prop := SetsAt W a0 x.sets ∧ ColsAt W a1 x.cols
theorem ActAt.keep {W W' : World} {a0 a1 : Option Addr} {x : AAct} (h : ActAt W a0 a1 x) (hb : Below W.heap.size W W') : ActAt W' a0 a1 x := ⟨h.1.keep hb, h.2.keep hb⟩

/-- The box at B holds nineteen values in W. -/
abbrev BoxA (B : Nat) (v0 v1 v2 v3 v4 v5 v6 v7 v8 v9 v10 v11 v12 v13 v14 v15 v16 v17 v18 : Value) (W : World) : Prop :=
  W.cell? ⟨B, 0, none⟩ = some v0 ∧ W.cell? ⟨B, 1, none⟩ = some v1 ∧ W.cell? ⟨B, 2, none⟩ = some v2 ∧ W.cell? ⟨B, 3, none⟩ = some v3 ∧ W.cell? ⟨B, 4, none⟩ = some v4 ∧ W.cell? ⟨B, 5, none⟩ = some v5 ∧ W.cell? ⟨B, 6, none⟩ = some v6 ∧ W.cell? ⟨B, 7, none⟩ = some v7 ∧ W.cell? ⟨B, 8, none⟩ = some v8 ∧ W.cell? ⟨B, 9, none⟩ = some v9 ∧ W.cell? ⟨B, 10, none⟩ = some v10 ∧ W.cell? ⟨B, 11, none⟩ = some v11 ∧ W.cell? ⟨B, 12, none⟩ = some v12 ∧ W.cell? ⟨B, 13, none⟩ = some v13 ∧ W.cell? ⟨B, 14, none⟩ = some v14 ∧ W.cell? ⟨B, 15, none⟩ = some v15 ∧ W.cell? ⟨B, 16, none⟩ = some v16 ∧ W.cell? ⟨B, 17, none⟩ = some v17 ∧ W.cell? ⟨B, 18, none⟩ = some v18
/-- They may be written too. -/
abbrev FreeA (B : Nat) (W : World) : Prop :=
  W.frozen? ⟨B, 0, none⟩ = false ∧ W.frozen? ⟨B, 1, none⟩ = false ∧ W.frozen? ⟨B, 2, none⟩ = false ∧ W.frozen? ⟨B, 3, none⟩ = false ∧ W.frozen? ⟨B, 4, none⟩ = false ∧ W.frozen? ⟨B, 5, none⟩ = false ∧ W.frozen? ⟨B, 6, none⟩ = false ∧ W.frozen? ⟨B, 7, none⟩ = false ∧ W.frozen? ⟨B, 8, none⟩ = false ∧ W.frozen? ⟨B, 9, none⟩ = false ∧ W.frozen? ⟨B, 10, none⟩ = false ∧ W.frozen? ⟨B, 11, none⟩ = false ∧ W.frozen? ⟨B, 12, none⟩ = false ∧ W.frozen? ⟨B, 13, none⟩ = false ∧ W.frozen? ⟨B, 14, none⟩ = false ∧ W.frozen? ⟨B, 15, none⟩ = false ∧ W.frozen? ⟨B, 16, none⟩ = false ∧ W.frozen? ⟨B, 17, none⟩ = false ∧ W.frozen? ⟨B, 18, none⟩ = false

/-- The box at B holds nineteen values in W, told by their places. -/
def BoxF (B : Nat) (f : Nat → Value) (W : World) : Prop := ∀ j, j < 19 → W.cell? ⟨B, j, none⟩ = some (f j)
def FreeF (B : Nat) (W : World) : Prop := ∀ j, j < 19 → W.frozen? ⟨B, j, none⟩ = false
theorem BoxF.all {B : Nat} {f : Nat → Value} {W : World} (h : BoxF B f W) : BoxA B (f 0) (f 1) (f 2) (f 3) (f 4) (f 5) (f 6) (f 7) (f 8) (f 9) (f 10) (f 11) (f 12) (f 13) (f 14) (f 15) (f 16) (f 17) (f 18) W :=
  ⟨h 0 (by omega), h 1 (by omega), h 2 (by omega), h 3 (by omega), h 4 (by omega), h 5 (by omega), h 6 (by omega), h 7 (by omega), h 8 (by omega), h 9 (by omega), h 10 (by omega), h 11 (by omega), h 12 (by omega), h 13 (by omega), h 14 (by omega), h 15 (by omega), h 16 (by omega), h 17 (by omega), h 18 (by omega)⟩
theorem FreeF.all {B : Nat} {W : World} (h : FreeF B W) : FreeA B W :=
  ⟨h 0 (by omega), h 1 (by omega), h 2 (by omega), h 3 (by omega), h 4 (by omega), h 5 (by omega), h 6 (by omega), h 7 (by omega), h 8 (by omega), h 9 (by omega), h 10 (by omega), h 11 (by omega), h 12 (by omega), h 13 (by omega), h 14 (by omega), h 15 (by omega), h 16 (by omega), h 17 (by omega), h 18 (by omega)⟩
theorem BoxF.next {B C : Nat} {f : Nat → Value} {W W' : World} (h : BoxF B f W) (hB : B < C) (hb : Below C W W') : BoxF B f W' := fun j hj => by
  rw [hb.cell (p := ⟨B, j, none⟩) hB]; exact h j hj
theorem FreeF.next {B C : Nat} {W W' : World} (h : FreeF B W) (hB : B < C) (hb : Below C W W') : FreeF B W' := fun j hj => by
  rw [hb.frozen (p := ⟨B, j, none⟩) hB]; exact h j hj
theorem cell_set {W : World} {B b o p : Nat} {v : Value} (hne : b ≠ B) : (W.setCell ⟨B, o, none⟩ v).cell? ⟨b, p, none⟩ = W.cell? ⟨b, p, none⟩ := World.cell?_of_block (w := W) (a := ⟨b, p, none⟩) (Below.heap_setCell W ⟨B, o, none⟩ v b hne)
theorem frozen_set {W : World} {B b o p : Nat} {v : Value} (hne : b ≠ B) : (W.setCell ⟨B, o, none⟩ v).frozen? ⟨b, p, none⟩ = W.frozen? ⟨b, p, none⟩ := World.frozen?_of_block (w := W) (a := ⟨b, p, none⟩) (Below.heap_setCell W ⟨B, o, none⟩ v b hne)
theorem BoxF.set {B C o : Nat} {f : Nat → Value} {v : Value} {W : World} (h : BoxF B f W) (hne : B ≠ C) : BoxF B f (W.setCell ⟨C, o, none⟩ v) := fun j hj => by rw [cell_set hne]; exact h j hj
theorem FreeF.set {B C o : Nat} {v : Value} {W : World} (h : FreeF B W) (hne : B ≠ C) : FreeF B (W.setCell ⟨C, o, none⟩ v) := fun j hj => by rw [frozen_set hne]; exact h j hj
theorem boxf_box (w : World) (f : Nat → Value) (v0 v1 v2 v3 v4 v5 v6 v7 v8 v9 v10 v11 v12 v13 v14 v15 v16 v17 v18 : Value) (t : TypeId) (h : f 0 = v0 ∧ f 1 = v1 ∧ f 2 = v2 ∧ f 3 = v3 ∧ f 4 = v4 ∧ f 5 = v5 ∧ f 6 = v6 ∧ f 7 = v7 ∧ f 8 = v8 ∧ f 9 = v9 ∧ f 10 = v10 ∧ f 11 = v11 ∧ f 12 = v12 ∧ f 13 = v13 ∧ f 14 = v14 ∧ f 15 = v15 ∧ f 16 = v16 ∧ f 17 = v17 ∧ f 18 = v18) : BoxF w.heap.size f (w.alloc (.cells #[v0, v1, v2, v3, v4, v5, v6, v7, v8, v9, v10, v11, v12, v13, v14, v15, v16, v17, v18] t)) := by
  obtain ⟨e0, e1, e2, e3, e4, e5, e6, e7, e8, e9, e10, e11, e12, e13, e14, e15, e16, e17, e18⟩ := h
  intro j hj
  match j, hj with
  | 0, _ => rw [e0]; go_simp
  | 1, _ => rw [e1]; go_simp
  | 2, _ => rw [e2]; go_simp
  | 3, _ => rw [e3]; go_simp
  | 4, _ => rw [e4]; go_simp
  | 5, _ => rw [e5]; go_simp
  | 6, _ => rw [e6]; go_simp
  | 7, _ => rw [e7]; go_simp
  | 8, _ => rw [e8]; go_simp
  | 9, _ => rw [e9]; go_simp
  | 10, _ => rw [e10]; go_simp
  | 11, _ => rw [e11]; go_simp
  | 12, _ => rw [e12]; go_simp
  | 13, _ => rw [e13]; go_simp
  | 14, _ => rw [e14]; go_simp
  | 15, _ => rw [e15]; go_simp
  | 16, _ => rw [e16]; go_simp
  | 17, _ => rw [e17]; go_simp
  | 18, _ => rw [e18]; go_simp
  | j + 19, hj => omega
theorem freef_box (w : World) (v0 v1 v2 v3 v4 v5 v6 v7 v8 v9 v10 v11 v12 v13 v14 v15 v16 v17 v18 : Value) (t : TypeId) : FreeF w.heap.size (w.alloc (.cells #[v0, v1, v2, v3, v4, v5, v6, v7, v8, v9, v10, v11, v12, v13, v14, v15, v16, v17, v18] t)) := by
  intro j _
  have hb : (w.alloc (.cells #[v0, v1, v2, v3, v4, v5, v6, v7, v8, v9, v10, v11, v12, v13, v14, v15, v16, v17, v18] t)).heap[w.heap.size]? = some (.cells #[v0, v1, v2, v3, v4, v5, v6, v7, v8, v9, v10, v11, v12, v13, v14, v15, v16, v17, v18] t) := by
    show (w.heap.push _)[w.heap.size]? = _
    simp
  simp only [World.frozen?, hb]
  simp

/-- The nineteen values of what is done. -/
def actF (x : AAct) (a0 : Option Addr) (c0 : Nat) (a1 : Option Addr) (c1 : Nat) : Nat → Value
  | 0 => .int .i64 x.kd
  | 1 => .string x.nm
  | 2 => .int .i64 x.id
  | 3 => .slice a0 x.sets.length c0
  | 4 => .slice a1 x.cols.length c1
  | 5 => .int .i64 x.g.kd
  | 6 => .string x.g.nm
  | 7 => .string x.g.nw
  | 8 => .string x.g.c.nm
  | 9 => .int .i64 x.g.c.kd
  | 10 => .bool x.g.c.nd
  | 11 => .bool x.g.c.oc
  | 12 => .int .i64 x.g.c.k
  | 13 => .int .i64 x.g.c.n
  | 14 => .string x.g.c.s
  | 15 => .string x.l.fr
  | 16 => .string x.l.co
  | 17 => .string x.l.tt
  | 18 => .int .i64 x.l.hw
  | _ => .bool false

end Go.Proofs.YtpcfebekkgfpjaaGreatDoor

/- Contracts of numValue.ok and of noneValue's ok and val, over the seat's translation. -/
namespace Go.Proofs.YtpcfebekkgfpjaaGreatDoor
open Go.RowKit

theorem num_ok (n : Int) (w : World) : Calls Tryz.prog 270 #[.int .i64 n] w fun e w' => e = .returned (.bool (numOk n)) ∧ w' = w := by
  go_enter Tryz.func270, Tryz.ntmps270
  go_wp2
  all_goals
    go_ret
    refine ⟨ret_bool ?_, rfl⟩
    rw [Bool.eq_iff_iff]
    simp only [numOk, Bool.and_eq_true, decide_eq_true_eq, Bool.false_eq_true, false_iff]
    omega

theorem none_ok (w : World) : Calls Tryz.prog 275 #[.agg #[]] w fun e w' => e = .returned (.bool true) ∧ Below w.heap.size w w' := by
  go_enter Tryz.func275, Tryz.ntmps275
  go_wp2
  go_ret
  exact ⟨rfl, (Below.refl _ _).alloc (Nat.le_refl _) _⟩

theorem none_val (w : World) : Calls Tryz.prog 277 #[.agg #[]] w fun e w' => e = .returned (.agg #[.int .i64 0, .int .i64 0, .string ⟨#[]⟩]) ∧ Below w.heap.size w w' := by
  go_enter Tryz.func277, Tryz.ntmps277
  go_wp2
  exact bodyPost_ret (v := .agg #[.int .i64 0, .int .i64 0, .string ⟨#[]⟩]) (by simp [results, Tryz.results277, go_sem]) rfl ⟨rfl, (((Below.refl _ _).alloc (Nat.le_refl _) _).alloc (by simp) _)⟩

end Go.Proofs.YtpcfebekkgfpjaaGreatDoor

/- The methods of the three kinds behind the interface, and the contract of impl.valueOf at a number, over the seat's translation. -/
namespace Go.Proofs.YtpcfebekkgfpjaaGreatDoor
open Go.RowKit

theorem m_num_ok (n : Int) (w : World) : (method 517 187 (.int .i64 n) "loop.example/custumal/impl.ok").run Tryz.prog w = .ok (270, .int .i64 n) w := by kernel_rfl
theorem m_num_val (n : Int) (w : World) : (method 517 187 (.int .i64 n) "loop.example/custumal/impl.val").run Tryz.prog w = .ok (130, .int .i64 n) w := by kernel_rfl
theorem m_text_ok (s : ByteArray) (w : World) : (method 517 185 (.string s) "loop.example/custumal/impl.ok").run Tryz.prog w = .ok (128, .string s) w := by kernel_rfl
theorem m_text_val (s : ByteArray) (w : World) : (method 517 185 (.string s) "loop.example/custumal/impl.val").run Tryz.prog w = .ok (129, .string s) w := by kernel_rfl
theorem m_none_ok (w : World) : (method 517 280 (.agg #[]) "loop.example/custumal/impl.ok").run Tryz.prog w = .ok (275, .agg #[]) w := by kernel_rfl
theorem m_none_val (w : World) : (method 517 280 (.agg #[]) "loop.example/custumal/impl.val").run Tryz.prog w = .ok (277, .agg #[]) w := by kernel_rfl

set_option maxHeartbeats 400000 in
theorem value_num (n : Int) (s : ByteArray) (w : World) :
    Calls Tryz.prog 228 #[.agg #[.int .i64 1, .int .i64 n, .string s]] w fun e w' => e = .returned (.tuple #[.iface 187 (.int .i64 n), .bool (valOk 1 n s)]) ∧ Below w.heap.size w w' := by
  have hm1 := m_num_ok n
  have hm2 := m_num_val n
  have hB := held_box w 1 n s 26
  go_enter Tryz.func228, Tryz.ntmps228
  go_wp2
  cases hn : numOk n
  · clear hB
    first
      | (go_region_with (go_at_call 270; refine (num_ok _ _).mono ?_; rintro e w' ⟨rfl, rfl⟩))
      | fail
    all_goals
      go_wp2
      go_ret2
      refine ⟨?_, ((Below.refl _ _).alloc (Nat.le_refl _) _).drew⟩
      simp [valOk, hn, go_sem]
  · by_cases hse : s.toList = []
    all_goals
      go_region_held3 (fun W => Held1 w w.heap.size 1 n s W) (first | assumption | exact held_drew (by assumption))
        (first
          | (go_at_call 270; refine (num_ok _ _).mono ?_; rintro e w' ⟨rfl, rfl⟩)
          | (go_at_call 130; refine (num_val _ _).mono ?_; rintro e w' ⟨rfl, hb⟩; have hN := held_next (by assumption) hb; clear hb))
      go_wp2
      go_ret2
      have hE := ‹Held1 w w.heap.size 1 n s _›
      refine ⟨?_, hE.2.2.2.2⟩
      simp [valOk, hn, hse]

end Go.Proofs.YtpcfebekkgfpjaaGreatDoor
