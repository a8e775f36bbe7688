/- The contract of DrawValAs, over the seat's translation. -/
import Derived.Test.YtmdmlpijekilhaaDoorDraw4
namespace Go.Proofs.YtmdmlpijekilhaaDoor
open Go.RowKit

def ints6 : List Int := [1, 2, 1, 2, 0, 3]

set_option maxHeartbeats 1000000 in
theorem draw_as (x : Option Addr) (len cap : Nat) (w : World) (hlc : len ≤ cap) (hcap : cap ≤ maxLen) (hc : IsCode w.heap.size x len w) :
    Calls Tryd.prog 13 #[.slice x len cap] w fun e w' => ∃ (k n : Int) (s : ByteArray) (c : Int), e = .returned (.tuple #[.agg #[.int .i64 k, .int .i64 n, .string s], .int .i64 c]) ∧ s.size ≤ 5 ∧ Below w.heap.size w w' := by
  have b1 := alloc_below w (.cells #[.int .i64 0, .int .i64 0, .string ⟨#[]⟩] 24)
  have Hc : Hid (IsCode w.heap.size x len (w.alloc (.cells #[.int .i64 0, .int .i64 0, .string ⟨#[]⟩] 24))) := hc.keep b1
  clear hc b1
  go_enter Tryd.func13, Tryd.ntmps13
  go_wp2_with fail
  refine (l10_open w.heap.size (w.heap.size + 1) _ _ _ _ (by simp) (by simp) hlc hcap Hc.out).mono ?_
  rintro e w1 ⟨rfl, hr1, hb1⟩
  have HA1 : Hid (Box3 w.heap.size (.int .i64 0) (.int .i64 0) (.string ⟨#[]⟩) w1) := (box3 w _ _ _ 24).keep hb1
  have Hb1 : Hid (Below w.heap.size w w1) := (alloc_below _ _).trans (hb1.mono (by simp))
  have Hr1 : Hid (Rd w.heap.size (w.heap.size + 1) 0 w1) := hr1
  clear hr1 hb1 Hc
  go_wp2_with fail
  refine (l1_draw w.heap.size (w.heap.size + 1) 0 _ Hr1.out (by omega)).mono ?_
  rintro e w2 ⟨k, n, s, q, rfl, hs, hq, hr2, hu2⟩
  have HA2 : Hid (Box3 w.heap.size (.int .i64 0) (.int .i64 0) (.string ⟨#[]⟩) w2) := HA1.out.upd hu2 (by omega)
  have hz2 : w.heap.size + 1 < w2.heap.size := hr2.2.1
  have Hb2 : Hid (Below w.heap.size w w2) := Hb1.out.trans (hu2.below (by omega) (by have := Hr1.out.2.1; omega))
  have Hr2 : Hid (Rd w.heap.size (w.heap.size + 1) q w2) := hr2
  clear hr2 hu2 HA1 Hb1 Hr1
  go_wp2_with fail
  have HV3 : Hid (Box3 w2.heap.size (.int .i64 k) (.int .i64 n) (.string s) (w2.alloc (.cells #[.int .i64 k, .int .i64 n, .string s] 24))) := box3 w2 _ _ _ _
  have HA3 : Hid (Box3 w.heap.size (.int .i64 0) (.int .i64 0) (.string ⟨#[]⟩) (w2.alloc (.cells #[.int .i64 k, .int .i64 n, .string s] 24))) := HA2.out.keep (alloc_below _ _)
  have Hr3 : Hid (Rd w.heap.size (w.heap.size + 1) q (w2.alloc (.cells #[.int .i64 k, .int .i64 n, .string s] 24))) := Hr2.out.keep (alloc_below _ _)
  have Hb3 : Hid (Below w.heap.size w (w2.alloc (.cells #[.int .i64 k, .int .i64 n, .string s] 24))) := Hb2.out.alloc Hb2.out.size _
  have hz3 : w2.heap.size < (w2.alloc (.cells #[.int .i64 k, .int .i64 n, .string s] 24)).heap.size := by simp
  clear HA2 Hr2 Hb2
  generalize w2.alloc (.cells #[.int .i64 k, .int .i64 n, .string s] 24) = W3 at HV3 HA3 Hr3 Hb3 hz3 ⊢
  have y0 := HV3.out.2.1
  have y1 := HV3.out.2.2.1
  have y2 := HV3.out.2.2.2.1
  go_region_with (go_at_call 32; refine (num_of_any w.heap.size (w.heap.size + 1) q W3.heap.size ints6 _ ?_ ?_ ?_ ?_ ?_ ?_ ?_).mono ?_; (exact rd_on Hr3.out); (omega); (omega); (simp); (decide); (decide); (exact row_ints W3 ints6 3); rintro e w4 ⟨c, rfl, hcm, hr4, hu4⟩; obtain ⟨_, a0, a1, a2, x0, x1, x2⟩ := box_on HA3.out hu4 (by omega); obtain ⟨_, z0, z1, z2, _⟩ := box_on HV3.out hu4 (by omega); have Hb4 : Hid (Below w.heap.size w w4) := below_on Hb3.out hu4 (by omega) (by omega); clear hr4 hu4)
  all_goals
    go_wp2_with fail
    exact bodyPost_ret (v := .tuple #[.agg #[.int .i64 k, .int .i64 n, .string s], .int .i64 c]) (by simp [results, Tryd.results13, go_sem, a0, a1, a2]) rfl ⟨_, _, _, _, rfl, hs, (((Hb4.out.setCell (Nat.le_refl _) _).setCell (Nat.le_refl _) _).setCell (Nat.le_refl _) _)⟩

end Go.Proofs.YtmdmlpijekilhaaDoor
