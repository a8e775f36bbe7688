/- Two columns held against each other, over the seat's translation. -/
import Derived.Test.YtogjdidmmhghhaaShA
import Derived.Laws.StructEq
namespace Go.Proofs.Ytogjdidmmhghhaa
open Go.RowKit

def eqC (c d : ACol) : Bool := c.nm.toList == d.nm.toList && (c.kd == d.kd && (c.nd == d.nd && (c.oc == d.oc && (c.k == d.k && (c.n == d.n && c.s.toList == d.s.toList)))))

set_option maxHeartbeats 1000000 in
theorem neq_col (c d : ACol) (w : World) :
    (binOp .neq 38 (.agg #[.string c.nm, .int .i64 c.kd, .bool c.nd, .bool c.oc, .int .i64 c.k, .int .i64 c.n, .string c.s]) (.agg #[.string d.nm, .int .i64 d.kd, .bool d.nd, .bool d.oc, .int .i64 d.k, .int .i64 d.n, .string d.s])).run Try.prog w = .ok (.bool (!(eqC c d))) w := by
  unfold eqC
  go_simp
  by_cases a : c.nm.toList = d.nm.toList <;> by_cases b : c.kd = d.kd <;> by_cases e : c.nd = d.nd <;> by_cases f : c.oc = d.oc <;> by_cases g : c.k = d.k <;> by_cases h : c.n = d.n <;> by_cases i : c.s.toList = d.s.toList <;> simp [a, b, e, f, g, h, i]

end Go.Proofs.Ytogjdidmmhghhaa
