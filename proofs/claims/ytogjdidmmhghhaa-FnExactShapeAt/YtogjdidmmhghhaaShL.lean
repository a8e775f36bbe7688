/- Columns that lie in a world, carried on. -/
import Derived.Test.YtogjdidmmhghhaaShS2
namespace Go.Proofs.Ytogjdidmmhghhaa
open Go.RowKit

/-- The columns lie at a in W, and W lies over w. -/
def Lies (w : World) (a : Option Addr) (L : List ACol) (W : World) : Prop := ColsAt W a L ∧ Below w.heap.size w W
theorem Lies.next {w : World} {a : Option Addr} {L : List ACol} {W W' : World} (h : Lies w a L W) (hb : Below W.heap.size W W') : Lies w a L W' := ⟨h.1.keep hb, h.2.trans (hb.mono h.2.size)⟩
theorem Made.below {w : World} {n k : Nat} {L : List ACol} {W : World} (h : Made w w.heap.size n k L W) : Below w.heap.size w W := h.1

end Go.Proofs.Ytogjdidmmhghhaa
