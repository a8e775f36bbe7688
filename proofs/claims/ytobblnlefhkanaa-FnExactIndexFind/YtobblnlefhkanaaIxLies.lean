/- Entries that lie in a world, carried on. -/
import Derived.Test.YtobblnlefhkanaaIxA
namespace Go.Proofs.Ytobblnlefhkanaa
open Go.RowKit

/-- The entries lie at a in W, and W lies over w. -/
abbrev LiesE (w : World) (a : Option Addr) (L : List AEnt) (W : World) : Prop := EntsAt W a L ∧ Below w.heap.size w W
theorem liese_next {w : World} {a : Option Addr} {L : List AEnt} {W W' : World} (h : LiesE w a L W) (hb : Below W.heap.size W W') : LiesE w a L W' := ⟨h.1.keep hb, h.2.trans (hb.mono h.2.size)⟩
theorem liese_drew {w : World} {a : Option Addr} {L : List AEnt} {W : World} (h : LiesE w a L W) : LiesE w a L W.drew := liese_next h (Below.refl _ _).drew

theorem ents_far {C : Nat} {W W' : World} {b o : Nat} {L : List AEnt} (h : EntsAt W (some ⟨b, o, none⟩) L) (hb : b < C) (hq : Below C W W') : EntsAt W' (some ⟨b, o, none⟩) L := by
  rcases h with h | ⟨b', o', e, hlt, hr⟩
  · exact Or.inl h
  · cases e
    exact Or.inr ⟨b, o, rfl, Nat.lt_of_lt_of_le hlt hq.size, fun i c hc j v hv => by rw [hq.cell (p := ⟨b, _, none⟩) hb]; exact hr i c hc j v hv⟩
theorem liese_far {w : World} {b o : Nat} {L : List AEnt} {W W' : World} (h : LiesE w (some ⟨b, o, none⟩) L W) (hb : b < w.heap.size) (hq : Below w.heap.size W W') : LiesE w (some ⟨b, o, none⟩) L W' := ⟨ents_far h.1 hb hq, h.2.trans hq⟩
theorem ents_take {W : World} {b o : Nat} {L : List AEnt} (h : EntsAt W (some ⟨b, o, none⟩) L) (k : Nat) : EntsAt W (some ⟨b, o, none⟩) (L.take k) := by
  rcases h with h | ⟨b', o', e, hlt, hr⟩
  · subst h; exact Or.inl (by simp)
  · cases e
    exact Or.inr ⟨b, o, rfl, hlt, fun i c hc => hr i c (by
      rw [List.getElem?_take] at hc
      by_cases hi : i < k
      · simpa [hi] using hc
      · simp [hi] at hc)⟩
theorem ents_drop {W : World} {b o : Nat} {L : List AEnt} (h : EntsAt W (some ⟨b, o, none⟩) L) (k : Nat) : EntsAt W (some ⟨b, o + k * 4, none⟩) (L.drop k) := by
  rcases h with h | ⟨b', o', e, hlt, hr⟩
  · subst h; exact Or.inl (by simp)
  · cases e
    refine Or.inr ⟨b, o + k * 4, rfl, hlt, fun i c hc => ?_⟩
    have := hr (k + i) c (by rw [List.getElem?_drop] at hc; exact hc)
    rwa [show o + (k + i) * 4 = o + k * 4 + i * 4 by omega] at this

end Go.Proofs.Ytobblnlefhkanaa
