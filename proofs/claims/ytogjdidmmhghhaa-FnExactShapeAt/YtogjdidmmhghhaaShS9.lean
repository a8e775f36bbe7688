/- Contract of spec.ShapeAt, over the seat's translation. -/
import Derived.Test.YtogjdidmmhghhaaShI9
namespace Go.Proofs.Ytogjdidmmhghhaa
open Go.RowKit Go.WideMaps Go.Maps

set_option maxRecDepth 100000 in
set_option maxHeartbeats 1000000 in
theorem spec_at (a : Option Addr) (cap : Nat) (L : List ACol) (nm : ByteArray) (w : World) (hL : ColsAt w a L) (hf : ∀ c ∈ L, c.fit) (hm : L.length ≤ maxLen) :
    Calls Try.prog 6 #[.slice a L.length cap, .string nm] w fun e w' => e = .returned (.int .i64 (shapeAt L nm)) ∧ Below w.heap.size w w' := by
  cases hs : shapeOk L
  · go_enter Try.func6, Try.ntmps6
    go_wp2_with (go_at_call 13; refine (spec_shape _ _ _ _ hL hf hm).mono ?_; rintro e w' ⟨rfl, hb⟩)
    go_ret
    refine ⟨?_, ‹Below w.heap.size w _›⟩
    simp [shapeAt, hs]
  · go_enter Try.func6, Try.ntmps6
    go_wp2_with (first
      | (go_at_call 13; refine (spec_shape _ _ _ _ hL hf hm).mono ?_; rintro e w' ⟨rfl, hb⟩; have hL2 : Hid (ColsAt w' a L) := hL.keep hb; have hP : Hid (Below w.heap.size w w') := hb; clear hb)
      | (go_at_call 14; refine (l2_at _ _ _ _ _ hL2.out hm).mono ?_; rintro e w'' ⟨rfl, rfl⟩))
    go_ret
    refine ⟨?_, hP.out⟩
    simp [shapeAt, hs]

end Go.Proofs.Ytogjdidmmhghhaa
