/- Contracts of laws.toCol and laws.szCol, over the seat's translation. -/
import Derived.Test.YtogjdidmmhghhaaColB
import Derived.Test.YtogjdidmmhghhaaColC2
import Derived.Test.YtogjdidmmhghhaaCv
namespace Go.Proofs.Ytogjdidmmhghhaa
open Go.RowKit

set_option maxHeartbeats 1000000 in
theorem to_col (nm : ByteArray) (kd : Int) (nd oc : Bool) (k n : Int) (s : ByteArray) (w : World) :
    Calls Try.prog 15 #[.agg #[.string nm, .int .i64 kd, .bool nd, .bool oc, .int .i64 k, .int .i64 n, .string s]] w fun e w' => e = .returned (.agg #[.string nm, .int .i64 kd, .bool nd, .bool oc, .int .i64 k, .int .i64 n, .string s]) ∧ Below w.heap.size w w' := by
  go_enter Try.func15, Try.ntmps15
  go_wp2_with fail
  refine (to_val _ _ _ _).mono ?_
  rintro e w' ⟨rfl, hb⟩
  have hO := own7_next (own7_box _ _ _ _ _ _ _ _ _) (by simp) hb
  have hR := own7_next (own7_next (own7_box _ _ _ _ _ _ _ _ _) (by simp) ((Below.refl _ _).alloc (Nat.le_refl _) _)) (by simp) hb
  have hw : Hid (Below w.heap.size w w') := ((((Below.refl w.heap.size w).alloc (Nat.le_refl _) _).alloc (by simp) _).alloc (by simp; omega) _).trans (hb.mono (by simp; omega))
  rw [size_alloc, size_alloc] at hO
  rw [size_alloc] at hR
  clear hb
  go_wp2_with fail
  refine bodyPost_ret (v := .agg #[.string nm, .int .i64 kd, .bool nd, .bool oc, .int .i64 k, .int .i64 n, .string s]) (by simp [results, Try.results15, go_sem, hR]) rfl ⟨rfl, ?_⟩
  repeat' (first | refine Below.setCell ?_ (by simp [Nat.add_assoc]) _ | exact hw.out)

end Go.Proofs.Ytogjdidmmhghhaa
