/- The contract of impl.IndexFind, over the seat's translation. -/
import Derived.Test.YtobblnlefhkanaaIxU2
namespace Go.Proofs.Ytobblnlefhkanaa
open Go.RowKit

set_option maxRecDepth 100000 in
set_option maxHeartbeats 1000000 in
theorem impl_find (a : Option Addr) (cap : Nat) (L : List AEnt) (x : AEnt) (w : World) (hL : EntsAt w a L) (h0 : a = none → cap = 0) (hf : ∀ c ∈ L, c.fit) (hm : L.length ≤ 1048576) :
    Calls Try.prog 32 #[.slice a L.length cap, .agg #[.int .i64 x.k, .int .i64 x.n, .string x.s]] w
      fun e w' => ∃ v, e = .returned v ∧ OwnI w.heap.size v (spanL x x L) w' ∧ Below w.heap.size w w' := by
  have bA : Below w.heap.size w (w.alloc (.cells #[.int .i64 x.k, .int .i64 x.n, .string x.s] 36)) := (Below.refl _ _).alloc (Nat.le_refl _) _
  have HA : Hid (EntsAt _ a L ∧ Below w.heap.size w _) := ⟨hL.keep bA, bA⟩
  have x0 := (Box.start w [.int .i64 x.k, .int .i64 x.n, .string x.s] 36).three
  clear bA hL
  go_enter Try.func32, Try.ntmps32
  go_wp2_with fail
  refine (impl_span a cap L x x _ HA.out.1 h0 hf hm).mono ?_
  rintro e w1 ⟨v, rfl, hv, hb⟩
  have HF : Hid (OwnI w.heap.size v (spanL x x L) w1 ∧ Below w.heap.size w w1) := ⟨hv.mono (by simp), HA.out.2.trans (hb.mono (by simp))⟩
  clear hv hb HA
  go_wp2_with fail
  go_ret
  exact ⟨_, rfl, HF.out⟩

end Go.Proofs.Ytobblnlefhkanaa
