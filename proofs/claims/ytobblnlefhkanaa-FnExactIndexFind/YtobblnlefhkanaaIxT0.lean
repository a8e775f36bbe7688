/- Rows of ints. -/
import Derived.Test.YtobblnlefhkanaaIxK0
import Derived.Test.YtobblnlefhkanaaOver
namespace Go.Proofs.Ytobblnlefhkanaa
open Go.RowKit

/-- The ints L lie in W from where the slice begins. -/
def IntsAt (W : World) (a : Option Addr) (L : List Int) : Prop :=
  L = [] ∨ ∃ b o, a = some ⟨b, o, none⟩ ∧ b < W.heap.size ∧ ∀ i c, L[i]? = some c → W.cell? ⟨b, o + i, none⟩ = some (.int .i64 c)

theorem IntsAt.keep {W W' : World} {a : Option Addr} {L : List Int} (h : IntsAt W a L) (hb : Below W.heap.size W W') : IntsAt W' a L := by
  rcases h with h | ⟨b, o, ha, hlt, hr⟩
  · exact Or.inl h
  · exact Or.inr ⟨b, o, ha, Nat.lt_of_lt_of_le hlt hb.size, fun i c hc => by rw [(bcell hb).1 _ _ hlt]; exact hr i c hc⟩

theorem IntsAt.at {W : World} {a : Option Addr} {L : List Int} (h : IntsAt W a L) {k : Nat} (hk : k < L.length) :
    ∃ b o, a = some ⟨b, o, none⟩ ∧ b < W.heap.size ∧ W.cell? ⟨b, o + k, none⟩ = some (.int .i64 L[k]) := by
  rcases h with h | ⟨b, o, ha, hlt, hr⟩
  · subst h; simp at hk
  · exact ⟨b, o, ha, hlt, hr k _ (List.getElem?_eq_getElem hk)⟩

theorem run_ix1 {P : Program} (t e : TypeId) (b o len cap k : Nat) (w : World) (hk : k < len) (ht : P.underlying t = some (.slice e)) (hs : (sizeOf e).run P w = .ok 1 w) :
    (Instr.indexAt t (.slice (some ⟨b, o, none⟩) len cap) (.int .i64 k)).run P w = .ok (.pointer (some ⟨b, o + k, none⟩)) w := by
  have hE : P.elem t = e := by simp [Program.elem, ht]
  rw [run_indexAt_slice w t _ len cap .i64 k (by rw [hE]; exact ht), if_pos ⟨by omega, by omega⟩, hE, hs]
  simp [Addr.add_mid]

theorem run_ix1o {P : Program} (t e : TypeId) (a : Option Addr) (B len cap k : Nat) (w : World) (ha : a = some ⟨B, 0, none⟩ ∨ len = 0) (hk : k < len) (ht : P.underlying t = some (.slice e)) (hs : (sizeOf e).run P w = .ok 1 w) :
    (Instr.indexAt t (.slice a len cap) (.int .i64 k)).run P w = .ok (.pointer (some ⟨B, k, none⟩)) w := by
  rcases ha with rfl | h
  · have := run_ix1 t e B 0 len cap k w hk ht hs
    rwa [Nat.zero_add] at this
  · omega

/-- Block B holds n ints that may be written; the first i bear marks from k on; nothing else has turned. -/
def MarkedI (w : World) (B n k i : Nat) (W : World) : Prop :=
  Turn B w W ∧ B < W.heap.size ∧ W.there B 0 n ∧ ∀ j, j < i → W.cell? ⟨B, j, none⟩ = some (.int .i64 ((k + j : Nat) : Int))

theorem there1_of {W : World} {B n i : Nat} (h : W.there B 0 n) (hi : i < n) : ∃ v, W.cell? ⟨B, i, none⟩ = some v ∧ W.frozen? ⟨B, i, none⟩ = false := by
  have := h i hi
  rw [Nat.zero_add] at this
  simpa [Option.isSome_iff_exists] using this

theorem MarkedI.set {w : World} {B n k i : Nat} {W : World} (h : MarkedI w B n k i W) (hi : i < n) : MarkedI w B n k (i + 1) (W.setCell ⟨B, i, none⟩ (.int .i64 ((k + i : Nat) : Int))) := by
  obtain ⟨h1, h2, h3, h4⟩ := h
  obtain ⟨v, hv, -⟩ := there1_of h3 hi
  refine ⟨h1.set _ _, by simpa [World.setCell] using h2, World.there_setCells h3 B i [.int .i64 ((k + i : Nat) : Int)], fun j hj => ?_⟩
  by_cases hji : j = i
  · subst hji
    exact World.cell?_setCell_same' _ _ _ (by rw [hv]; rfl)
  · have hne : (⟨B, i, none⟩ : Addr) ≠ ⟨B, j, none⟩ := fun e => hji (by simpa using e.symm)
    exact (World.cell?_setCell_other _ _ _ _ hne).trans (h4 j (by omega))

end Go.Proofs.Ytobblnlefhkanaa
