/- The contracts of spec.l8Less and spec.IndexOk, over the seat's translation. -/
import Derived.Test.YtobblnlefhkanaaIxM
import Derived.Laws.StructEq
namespace Go.Proofs.Ytobblnlefhkanaa
open Go.RowKit

set_option maxHeartbeats 1000000 in
theorem neq_val (c d : AEnt) (w : World) :
    (binOp .neq 36 (.agg #[.int .i64 c.k, .int .i64 c.n, .string c.s]) (.agg #[.int .i64 d.k, .int .i64 d.n, .string d.s])).run Try.prog w = .ok (.bool (!(eqV c d))) w := by
  unfold eqV
  go_simp
  by_cases a : c.k = d.k <;> by_cases b : c.n = d.n <;> by_cases e : c.s.toList = d.s.toList <;> simp [a, b, e]

set_option maxRecDepth 100000 in
set_option maxHeartbeats 1000000 in
theorem less_entry (x y : AEnt) (w : World) :
    Calls Try.prog 34 #[.agg #[.int .i64 x.k, .int .i64 x.n, .string x.s, .int .i64 x.id], .agg #[.int .i64 y.k, .int .i64 y.n, .string y.s, .int .i64 y.id]] w fun e w' => e = .returned (.bool (lessE x y)) ∧ Below w.heap.size w w' := by
  have hq := neq_val x y
  have hB : Hid (Below w.heap.size w ((w.alloc (.cells #[.int .i64 x.k, .int .i64 x.n, .string x.s, .int .i64 x.id] 38)).alloc (.cells #[.int .i64 y.k, .int .i64 y.n, .string y.s, .int .i64 y.id] 38))) := ((Below.refl _ _).alloc (Nat.le_refl _) _).alloc (by simp) _
  cases he : eqV x y
  · have hl : Hid (lessE x y = lessV x.k x.n x.s y.k y.n y.s) := by unfold lessE; rw [he]; rfl
    go_enter Try.func34, Try.ntmps34
    go_wp2_with fail
    refine (spec_less _ _ _ _ _ _ _).mono ?_
    rintro e w' ⟨rfl, hb⟩
    clear hq he
    go_wp2_with fail
    go_ret
    exact ⟨ret_bool hl.out.symm, hB.out.trans (hb.mono (by simp; omega))⟩
  · have hl : Hid (lessE x y = decide (x.id < y.id)) := by unfold lessE; rw [he]; rfl
    go_enter Try.func34, Try.ntmps34
    go_wp2_with fail
    all_goals
      go_ret
      exact ⟨ret_bool (by rw [hl.out]), hB.out⟩

end Go.Proofs.Ytobblnlefhkanaa
