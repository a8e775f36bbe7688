/- Slices of columns: where they lie, and how they are read. Over the seat's translation. -/
import Derived.Test.YtddcmibggdighaaColC1
import Derived.Deep.MidRow
namespace Go.Proofs.Ytddcmibggdighaa
open Go.RowKit

/-- A column. -/
structure ACol where
  nm : ByteArray
  kd : Int
  nd : Bool
  oc : Bool
  k : Int
  n : Int
  s : ByteArray

def ACol.cells (c : ACol) : List Value := [.string c.nm, .int .i64 c.kd, .bool c.nd, .bool c.oc, .int .i64 c.k, .int .i64 c.n, .string c.s]
def ACol.fit (c : ACol) : Prop := c.nm.size ≤ maxLen ∧ c.s.size ≤ maxLen
def ACol.ok (c : ACol) : Bool := colOk c.nm c.kd c.oc c.k c.n c.s
def ACol.sz (c : ACol) : Nat := c.nm.size + c.s.size

/-- The columns L lie in W from where the slice begins. -/
def ColsAt (W : World) (a : Option Addr) (L : List ACol) : Prop :=
  L = [] ∨ ∃ b o, a = some ⟨b, o, none⟩ ∧ b < W.heap.size ∧ ∀ i c, L[i]? = some c → W.rangeAt b (o + i * 7) c.cells

theorem ColsAt.keep {W W' : World} {a : Option Addr} {L : List ACol} (h : ColsAt W a L) (hb : Below W.heap.size W W') : ColsAt W' a L := by
  rcases h with h | ⟨b, o, ha, hlt, hr⟩
  · exact Or.inl h
  · refine Or.inr ⟨b, o, ha, Nat.lt_of_lt_of_le hlt hb.size, fun i c hc j v hv => ?_⟩
    rw [(bcell hb).1 _ _ hlt]
    exact hr i c hc j v hv

theorem run_ix {P : Program} (t e : TypeId) (b o len cap k : Nat) (w : World) (hk : k < len) (ht : P.underlying t = some (.slice e)) (hs : (sizeOf e).run P w = .ok 7 w) :
    (Instr.indexAt t (.slice (some ⟨b, o, none⟩) len cap) (.int .i64 k)).run P w = .ok (.pointer (some ⟨b, o + k * 7, none⟩)) w := by
  have hE : P.elem t = e := by simp [Program.elem, ht]
  rw [run_indexAt_slice w t _ len cap .i64 k (by rw [hE]; exact ht), if_pos ⟨by omega, by omega⟩, hE, hs]
  simp [Addr.add_mid]

theorem ColsAt.at {W : World} {a : Option Addr} {L : List ACol} (h : ColsAt W a L) {k : Nat} (hk : k < L.length) :
    ∃ b o, a = some ⟨b, o, none⟩ ∧ b < W.heap.size ∧ W.rangeAt b (o + k * 7) L[k].cells := by
  rcases h with h | ⟨b, o, ha, hlt, hr⟩
  · subst h; simp at hk
  · exact ⟨b, o, ha, hlt, hr k _ (List.getElem?_eq_getElem hk)⟩

/-- The seven cells of a column at an offset. -/
abbrev Cells7 (W : World) (b o : Nat) (c : ACol) : Prop :=
  W.cell? ⟨b, o, none⟩ = some (.string c.nm) ∧ W.cell? ⟨b, o + 1, none⟩ = some (.int .i64 c.kd) ∧ W.cell? ⟨b, o + 2, none⟩ = some (.bool c.nd) ∧ W.cell? ⟨b, o + 3, none⟩ = some (.bool c.oc) ∧
    W.cell? ⟨b, o + 4, none⟩ = some (.int .i64 c.k) ∧ W.cell? ⟨b, o + 5, none⟩ = some (.int .i64 c.n) ∧ W.cell? ⟨b, o + 6, none⟩ = some (.string c.s)
theorem cells7_of {W : World} {b o : Nat} {c : ACol} (h : W.rangeAt b o c.cells) : Cells7 W b o c :=
  ⟨h 0 _ rfl, h 1 _ rfl, h 2 _ rfl, h 3 _ rfl, h 4 _ rfl, h 5 _ rfl, h 6 _ rfl⟩
theorem range_of {W : World} {b o : Nat} {c : ACol} (h : Cells7 W b o c) : W.rangeAt b o c.cells := by
  obtain ⟨h0, h1, h2, h3, h4, h5, h6⟩ := h
  intro j v hv
  match j with
  | 0 => simp [ACol.cells] at hv; subst hv; exact h0
  | 1 => simp [ACol.cells] at hv; subst hv; exact h1
  | 2 => simp [ACol.cells] at hv; subst hv; exact h2
  | 3 => simp [ACol.cells] at hv; subst hv; exact h3
  | 4 => simp [ACol.cells] at hv; subst hv; exact h4
  | 5 => simp [ACol.cells] at hv; subst hv; exact h5
  | 6 => simp [ACol.cells] at hv; subst hv; exact h6
  | j + 7 => simp [ACol.cells] at hv

theorem cells7_next {W W' : World} {b o : Nat} {c : ACol} (h : Cells7 W b o c) (hlt : b < W.heap.size) (hb : Below W.heap.size W W') : Cells7 W' b o c := by
  have hc := fun x => (bcell hb).1 b x hlt
  unfold Cells7
  simp only [hc]
  exact h

theorem Try.info31 : ∃ i, Try.prog.info? 31 = some i ∧ i.zero = some (.agg #[.string ⟨#[]⟩, .int .i64 0, .bool false, .bool false, .int .i64 0, .int .i64 0, .string ⟨#[]⟩]) ∧ i.size = 7 ∧ i.bytes ≤ 128 := by
  have h : (Try.prog.info? 31).map (fun i => (i.zero, i.size, decide (i.bytes ≤ 128))) = some (some (.agg #[.string ⟨#[]⟩, .int .i64 0, .bool false, .bool false, .int .i64 0, .int .i64 0, .string ⟨#[]⟩]), 7, true) := by kernel_rfl
  obtain ⟨i, hi, he⟩ := Option.map_eq_some_iff.1 h
  simp only [Prod.mk.injEq, decide_eq_true_eq] at he
  exact ⟨i, hi, he.1, he.2.1, he.2.2⟩

end Go.Proofs.Ytddcmibggdighaa
