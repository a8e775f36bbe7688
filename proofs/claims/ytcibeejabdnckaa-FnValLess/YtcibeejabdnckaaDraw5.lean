/- The contract of DrawValLess, over the seat's translation. -/
import Derived.Test.YtcibeejabdnckaaDraw4
namespace Go.Proofs.Ytcibeejabdnckaa
open Go.RowKit

set_option maxHeartbeats 400000 in
theorem draw_less (B : Nat) (x : Option Addr) (len cap : Nat) (w : World) (hB : B ≤ w.heap.size) (hlc : len ≤ cap) (hcap : cap ≤ maxLen) (hc : IsCode B x len w) :
    Calls Try.prog 5 #[.slice x len cap] w fun e w' => ∃ (k n : Int) (s : ByteArray) (k' n' : Int) (s' : ByteArray), e = .returned (.tuple #[.agg #[.int .i64 k, .int .i64 n, .string s], .agg #[.int .i64 k', .int .i64 n', .string s']]) ∧ s.size ≤ 5 ∧ s'.size ≤ 5 ∧ Below w.heap.size w w' := by
  have b1 := alloc_below w (.cells #[.int .i64 0, .int .i64 0, .string ⟨#[]⟩] 24)
  have b2 := alloc_below (w.alloc (.cells #[.int .i64 0, .int .i64 0, .string ⟨#[]⟩] 24)) (.cells #[.int .i64 0, .int .i64 0, .string ⟨#[]⟩] 24)
  have bb : Below w.heap.size w ((w.alloc (.cells #[.int .i64 0, .int .i64 0, .string ⟨#[]⟩] 24)).alloc (.cells #[.int .i64 0, .int .i64 0, .string ⟨#[]⟩] 24)) := b1.trans (b2.mono (by simp))
  have Hc : Hid (IsCode B x len ((w.alloc (.cells #[.int .i64 0, .int .i64 0, .string ⟨#[]⟩] 24)).alloc (.cells #[.int .i64 0, .int .i64 0, .string ⟨#[]⟩] 24))) := hc.keep (bb.mono hB)
  have Hbb : Hid _ := bb
  clear hc b1 b2 bb
  go_enter Try.func5, Try.ntmps5
  go_wp2_with fail
  refine (l10_open B (w.heap.size + 2) _ _ _ _ (by simp) (by simp; omega) hlc hcap Hc.out).mono ?_
  rintro e w1 ⟨rfl, hr1, hb1⟩
  have HA1 : Hid (Box3 w.heap.size (.int .i64 0) (.int .i64 0) (.string ⟨#[]⟩) w1) := ((box3 w _ _ _ 24).keep (alloc_below _ _)).keep hb1
  have HB1 : Hid (Box3 (w.heap.size + 1) (.int .i64 0) (.int .i64 0) (.string ⟨#[]⟩) w1) := (box3b w _ _ _ _ 24).keep hb1
  have Hb1 : Hid (Below w.heap.size w w1) := Hbb.out.trans (hb1.mono (by simp; omega))
  have Hr1 : Hid (Rd B (w.heap.size + 2) 0 w1) := hr1
  clear hr1 hb1 Hbb Hc
  go_wp2_with fail
  refine (l1_draw B (w.heap.size + 2) 0 _ Hr1.out (by omega)).mono ?_
  rintro e w2 ⟨k, n, s, q, rfl, hs, hq, hr2, hu2⟩
  have HA2 : Hid (Box3 w.heap.size (.int .i64 0) (.int .i64 0) (.string ⟨#[]⟩) w2) := HA1.out.upd hu2 (by omega)
  have HB2 : Hid (Box3 (w.heap.size + 1) (.int .i64 0) (.int .i64 0) (.string ⟨#[]⟩) w2) := HB1.out.upd hu2 (by omega)
  have hz2 : w.heap.size + 2 < w2.heap.size := hr2.2.1
  have Hb2 : Hid (Below w.heap.size w w2) := Hb1.out.trans (hu2.below (by omega) (by have := Hr1.out.2.1; omega))
  have Hr2 : Hid (Rd B (w.heap.size + 2) q w2) := hr2
  clear hr2 hu2 HA1 HB1 Hb1 Hr1
  have hneA : w.heap.size ≠ w2.heap.size := by omega
  have hneB : w.heap.size + 1 ≠ w2.heap.size := by omega
  go_wp2_with fail
  have hX := box3 w2 (.int .i64 k) (.int .i64 n) (.string s) 24
  have y0 := hX.2.1
  have y1 := hX.2.2.1
  have y2 := hX.2.2.2.1
  clear hX
  go_region_with (go_at_call 13; refine (l1_draw B (w.heap.size + 2) q _ ?_ (by omega)).mono ?_; (exact rd_on Hr2.out); rintro e w3 ⟨k', n', s', q', rfl, hs', hq', hr3, hu3⟩; obtain ⟨_, a0, a1, a2, x0, x1, x2⟩ := box_on HA2.out hu3 (by omega); obtain ⟨_, c0, c1, c2, f0, f1, f2⟩ := box_on HB2.out hu3 (by omega); obtain ⟨z0, z1, z2⟩ := box_new hu3 (by omega); have Hb3 : Hid (Below w.heap.size w w3) := below_on Hb2.out hu3 (by omega) (by omega); clear hr3 hu3)
  all_goals
    go_wp2_with fail
    exact bodyPost_ret (v := .tuple #[.agg #[.int .i64 k, .int .i64 n, .string s], .agg #[.int .i64 k', .int .i64 n', .string s']]) (by simp [results, Try.results5, go_sem, a0, a1, a2, c0, c1, c2]) rfl ⟨_, _, _, _, _, _, rfl, hs, hs', ((((((Hb3.out.setCell (Nat.le_refl _) _).setCell (Nat.le_refl _) _).setCell (Nat.le_refl _) _).setCell (Nat.le_succ _) _).setCell (Nat.le_succ _) _).setCell (Nat.le_succ _) _)⟩

end Go.Proofs.Ytcibeejabdnckaa
