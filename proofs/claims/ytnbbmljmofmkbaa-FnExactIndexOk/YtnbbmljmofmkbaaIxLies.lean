/- Entries that lie in a world, carried on. -/
import Derived.Test.YtnbbmljmofmkbaaIxA
namespace Go.Proofs.Ytnbbmljmofmkbaa
open Go.RowKit

/-- The entries lie at a in W, and W lies over w. -/
abbrev LiesE (w : World) (a : Option Addr) (L : List AEnt) (W : World) : Prop := EntsAt W a L ∧ Below w.heap.size w W
theorem liese_next {w : World} {a : Option Addr} {L : List AEnt} {W W' : World} (h : LiesE w a L W) (hb : Below W.heap.size W W') : LiesE w a L W' := ⟨h.1.keep hb, h.2.trans (hb.mono h.2.size)⟩
theorem liese_drew {w : World} {a : Option Addr} {L : List AEnt} {W : World} (h : LiesE w a L W) : LiesE w a L W.drew := liese_next h (Below.refl _ _).drew

end Go.Proofs.Ytnbbmljmofmkbaa
