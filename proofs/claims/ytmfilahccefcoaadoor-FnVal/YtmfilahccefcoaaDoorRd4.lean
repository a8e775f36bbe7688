/- Contracts of spec.ValText at a right number and at a right text, and of spec.l10Num, over the seat's translation. -/
import Derived.Test.YtmfilahccefcoaaDoorRd3
namespace Go.Proofs.YtmfilahccefcoaaDoor
open Go.RowKit

set_option maxHeartbeats 400000 in
theorem text_num (n : Int) (w : World) (hn : numOk n = true) :
    Calls Tryd.prog 8 #[.agg #[.int .i64 1, .int .i64 n, .string ⟨#[]⟩]] w fun e w' => e = .returned (.string ⟨(Lib.itoa n).toArray⟩) ∧ Below w.heap.size w w' := by
  have hv : valOk 1 n ⟨#[]⟩ = true := by simp [valOk, hn]
  have hr : -999 ≤ n ∧ n ≤ 999 := by simpa [numOk] using hn
  have hB := held_box w 1 n ⟨#[]⟩ 24
  go_enter Tryd.func8, Tryd.ntmps8
  go_wp2_with fail
  refine (spec_ok _ _ _ _ (by decide)).mono ?_
  rintro e w1 ⟨rfl, hb⟩
  have h1 := held_next hB hb
  clear hB hb
  go_wp2_with fail
  refine (dec_any _ _ hr.1 hr.2).mono ?_
  rintro e w2 ⟨rfl, hb⟩
  have h2 := held_next h1 hb
  clear h1 hb
  go_wp2_with fail
  go_ret
  exact ⟨rfl, h2.2.2.2.2⟩

set_option maxHeartbeats 400000 in
theorem text_text (s : ByteArray) (w : World) (hs : s.size ≤ maxLen) (ht : textOk s = true) :
    Calls Tryd.prog 8 #[.agg #[.int .i64 2, .int .i64 0, .string s]] w fun e w' => e = .returned (.string ⟨(39 :: (s.data.toList ++ [39])).toArray⟩) ∧ Below w.heap.size w w' := by
  have hv : valOk 2 0 s = true := by simp [valOk, ht]
  have h4 : s.size ≤ 4 := by simp [textOk] at ht; exact ht.2
  have hB := held_box w 2 0 s 24
  go_enter Tryd.func8, Tryd.ntmps8
  go_wp2_with fail
  refine (spec_ok _ _ _ _ hs).mono ?_
  rintro e w1 ⟨rfl, hb⟩
  have h1 := held_next hB hb
  clear hB hb
  go_wp2_with fail
  go_ret
  refine ⟨ret_str ?_, h1.2.2.2.2⟩
  apply ByteArray.ext
  simp

end Go.Proofs.YtmfilahccefcoaaDoor
