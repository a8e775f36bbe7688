/- A region that draws its order, whose operations read and whose callees leave all that S asks: one walk, over the class of worlds that meet S. -/
import Derived.Test.YtddcmibggdighaaRows
import Derived.WalkKit
import Derived.Deep.QuietTactic
import Derived.BigQuiet
namespace Go.Proofs.Ytddcmibggdighaa
open Go.RowKit

/-- A world that meets S. -/
structure Over (S : World → Prop) where
  W : World
  ok : S W

theorem wp_region_over {P : Program} {id : Nat} {Q : Exit → Act → World → Prop} {a : Act} {w : World} {l : List Oper} {S : World → Prop} (hm : P.follows .mixedOrders = true) (hB : Region.lexB .any l.toArray = true) (hS : S w.drew)
    (h : wpQuiet P l.toArray (fun w' => ∃ p : Over S, w' = p.W) (fun a' => ∀ w', (∃ p : Over S, w' = p.W) → Q .normal a' w') l a) : (Code.region id l.toArray true).wp P Q a w :=
  wp_region_quiet (C := fun w' => ∃ p : Over S, w' = p.W) hm hB ⟨⟨_, hS⟩, rfl⟩ (by simpa using h)

/-- A callee's contract, met in a world of the class. -/
theorem over_call {P : Program} {f : FuncId} {args : Array Value} {S : World → Prop} {p : Over S} {v : Value} {R : World → Prop} (h : Calls P f args p.W fun e w' => e = .returned v ∧ R w') (hR : ∀ w', R w' → S w') :
    Calls P f args p.W fun e w'' => e = .returned v ∧ ∃ q : Over S, w'' = q.W :=
  h.mono fun _ w' ⟨he, hr⟩ => ⟨he, ⟨w', hR w' hr⟩, rfl⟩

end Go.Proofs.Ytddcmibggdighaa
