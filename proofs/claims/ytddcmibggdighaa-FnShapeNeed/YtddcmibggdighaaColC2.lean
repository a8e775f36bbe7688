/- Contracts of impl.fits and impl.ColOk, over the seat's translation. -/
import Derived.Test.YtddcmibggdighaaColC1
import Derived.Test.YtddcmibggdighaaOk6
namespace Go.Proofs.Ytddcmibggdighaa
open Go.RowKit

def fitsOk (kd k n : Int) (s : ByteArray) : Bool := valOk k n s && (k == 0 || k == kd)

theorem size_alloc (w : World) (o : Obj) : (w.alloc o).heap.size = w.heap.size + 1 := by simp

set_option maxHeartbeats 1000000 in
theorem fits_ok (nm : ByteArray) (kd : Int) (nd oc : Bool) (k0 n0 : Int) (s0 : ByteArray) (k n : Int) (s : ByteArray) (w : World) (hs : s.size ≤ maxLen) :
    Calls Try.prog 14 #[.agg #[.string nm, .int .i64 kd, .bool nd, .bool oc, .int .i64 k0, .int .i64 n0, .string s0], .agg #[.int .i64 k, .int .i64 n, .string s]] w
      fun e w' => e = .returned (.bool (fitsOk kd k n s)) ∧ Below w.heap.size w w' := by
  go_enter Try.func14, Try.ntmps14
  go_wp2_with (go_at_call 29; refine (impl_ok _ _ _ _ hs).mono ?_; rintro e w' ⟨rfl, hb⟩; have hN := held7_next (held7_next (held7_box _ _ _ _ _ _ _ _ _) ((Below.refl _ _).alloc (Nat.le_refl _) _)) hb; have hM := held_next (held_box _ _ _ _ _) hb; rw [size_alloc] at hM; clear hb)
  all_goals
    go_ret
    have hE := ‹Held7 _ _ _ _ _ _ _ _ _ _›
    refine ⟨?_, hE.2.2.2.2.2.2.2.2⟩
    simp_all [fitsOk]

set_option maxHeartbeats 1000000 in
theorem impl_col (nm : ByteArray) (kd : Int) (nd oc : Bool) (k n : Int) (s : ByteArray) (w : World) (hnm : nm.size ≤ maxLen) (hs : s.size ≤ maxLen) :
    Calls Try.prog 27 #[.agg #[.string nm, .int .i64 kd, .bool nd, .bool oc, .int .i64 k, .int .i64 n, .string s]] w fun e w' => e = .returned (.bool (colOk nm kd oc k n s)) ∧ Below w.heap.size w w' := by
  go_enter Try.func27, Try.ntmps27
  go_wp2_with (first
    | (go_at_call 35; refine (name_ok _ _ hnm).mono ?_; rintro e w' ⟨rfl, hb⟩; have hN := held7_next (held7_box _ _ _ _ _ _ _ _ _) hb; clear hb)
    | (go_at_call 14; refine (fits_ok _ _ _ _ _ _ _ _ _ _ _ hs).mono ?_; rintro e w' ⟨rfl, hb⟩; have hM := held7_next hN hb; clear hb))
  all_goals
    go_ret
    first
      | (have hE := hM
         refine ⟨?_, hE.2.2.2.2.2.2.2.2⟩
         simp_all [colOk, fitsOk]
         done)
      | (have hE := hN
         refine ⟨?_, hE.2.2.2.2.2.2.2.2⟩
         simp_all [colOk])

end Go.Proofs.Ytddcmibggdighaa
