/- Slices of values: where they lie, and how they are read. Over the seat's translation. -/
import Derived.Test.YtddcmibggdighaaShA
namespace Go.Proofs.Ytddcmibggdighaa
open Go.RowKit

/-- A value. -/
structure AVal where
  k : Int
  n : Int
  s : ByteArray

def AVal.cells (v : AVal) : List Value := [.int .i64 v.k, .int .i64 v.n, .string v.s]
def AVal.fit (v : AVal) : Prop := v.s.size ≤ maxLen
def AVal.ok (v : AVal) : Bool := valOk v.k v.n v.s

/-- The values L lie in W from where the slice begins. -/
def ValsAt (W : World) (a : Option Addr) (L : List AVal) : Prop :=
  L = [] ∨ ∃ b o, a = some ⟨b, o, none⟩ ∧ b < W.heap.size ∧ ∀ i c, L[i]? = some c → W.rangeAt b (o + i * 3) c.cells

theorem ValsAt.keep {W W' : World} {a : Option Addr} {L : List AVal} (h : ValsAt W a L) (hb : Below W.heap.size W W') : ValsAt W' a L := by
  rcases h with h | ⟨b, o, ha, hlt, hr⟩
  · exact Or.inl h
  · refine Or.inr ⟨b, o, ha, Nat.lt_of_lt_of_le hlt hb.size, fun i c hc j v hv => ?_⟩
    rw [(bcell hb).1 _ _ hlt]
    exact hr i c hc j v hv

theorem run_ix3 {P : Program} (t e : TypeId) (b o len cap k : Nat) (w : World) (hk : k < len) (ht : P.underlying t = some (.slice e)) (hs : (sizeOf e).run P w = .ok 3 w) :
    (Instr.indexAt t (.slice (some ⟨b, o, none⟩) len cap) (.int .i64 k)).run P w = .ok (.pointer (some ⟨b, o + k * 3, none⟩)) w := by
  have hE : P.elem t = e := by simp [Program.elem, ht]
  rw [run_indexAt_slice w t _ len cap .i64 k (by rw [hE]; exact ht), if_pos ⟨by omega, by omega⟩, hE, hs]
  simp [Addr.add_mid]

theorem ValsAt.at {W : World} {a : Option Addr} {L : List AVal} (h : ValsAt W a L) {k : Nat} (hk : k < L.length) :
    ∃ b o, a = some ⟨b, o, none⟩ ∧ b < W.heap.size ∧ W.rangeAt b (o + k * 3) L[k].cells := by
  rcases h with h | ⟨b, o, ha, hlt, hr⟩
  · subst h; simp at hk
  · exact ⟨b, o, ha, hlt, hr k _ (List.getElem?_eq_getElem hk)⟩

/-- The three cells of a value at an offset. -/
abbrev Cells3 (W : World) (b o : Nat) (c : AVal) : Prop :=
  W.cell? ⟨b, o, none⟩ = some (.int .i64 c.k) ∧ W.cell? ⟨b, o + 1, none⟩ = some (.int .i64 c.n) ∧ W.cell? ⟨b, o + 2, none⟩ = some (.string c.s)
theorem cells3_of {W : World} {b o : Nat} {c : AVal} (h : W.rangeAt b o c.cells) : Cells3 W b o c := ⟨h 0 _ rfl, h 1 _ rfl, h 2 _ rfl⟩
theorem cells3_next {W W' : World} {b o : Nat} {c : AVal} (h : Cells3 W b o c) (hlt : b < W.heap.size) (hb : Below W.heap.size W W') : Cells3 W' b o c := by
  have hc := fun x => (bcell hb).1 b x hlt
  unfold Cells3
  simp only [hc]
  exact h

theorem Try.info29 : ∃ i, Try.prog.info? 29 = some i ∧ i.zero = some (.agg #[.int .i64 0, .int .i64 0, .string ⟨#[]⟩]) ∧ i.size = 3 ∧ i.bytes ≤ 128 := by
  have h : (Try.prog.info? 29).map (fun i => (i.zero, i.size, decide (i.bytes ≤ 128))) = some (some (.agg #[.int .i64 0, .int .i64 0, .string ⟨#[]⟩]), 3, true) := by kernel_rfl
  obtain ⟨i, hi, he⟩ := Option.map_eq_some_iff.1 h
  simp only [Prod.mk.injEq, decide_eq_true_eq] at he
  exact ⟨i, hi, he.1, he.2.1, he.2.2⟩

end Go.Proofs.Ytddcmibggdighaa
