/- Contract of impl.valueOf at a text, over the seat's translation. -/
import Derived.Test.YtddcmibggdighaaB3
namespace Go.Proofs.Ytddcmibggdighaa
open Go.RowKit

set_option maxHeartbeats 400000 in
theorem value_text (n : Int) (s : ByteArray) (w : World) (hs : s.size ≤ maxLen) :
    Calls Try.prog 36 #[.agg #[.int .i64 2, .int .i64 n, .string s]] w fun e w' => e = .returned (.tuple #[.iface 92 (.string s), .bool (valOk 2 n s)]) ∧ Below w.heap.size w w' := by
  have hm1 := m_text_ok s
  have hm2 := m_text_val s
  have hB := held_box w 2 n s 29
  go_enter Try.func36, Try.ntmps36
  go_wp2
  cases hn : textOk s
  · clear hB
    first
      | (go_region_with (go_at_call 96; refine (text_ok _ _ hs).mono ?_; rintro e w' ⟨rfl, hb⟩))
      | fail
    all_goals
      go_wp2
      go_ret2
      have hb := ‹Below _ (World.drew _) _›
      refine ⟨?_, (((Below.refl _ _).alloc (Nat.le_refl _) _).drew).trans (hb.mono (by simp))⟩
      simp [valOk, hn, go_sem]
  · by_cases hse : n = 0
    · subst hse
      go_region_held3 (fun W => Held1 w w.heap.size 2 0 s W) (first | assumption | exact held_drew (by assumption))
        (first
          | (go_at_call 96; refine (text_ok _ _ hs).mono ?_; rintro e w' ⟨rfl, hb⟩; have hN := held_next (by assumption) hb; clear hb)
          | (go_at_call 79; refine (text_val _ _).mono ?_; rintro e w' ⟨rfl, hb⟩; have hN := held_next (by assumption) hb; clear hb))
      go_wp2
      go_ret2
      have hE := ‹Held1 w w.heap.size 2 0 s _›
      refine ⟨?_, hE.2.2.2.2⟩
      simp [valOk, hn]
    · have hne : (0 : Int) ≠ n := fun h => hse h.symm
      go_region_held3 (fun W => Held1 w w.heap.size 2 n s W) (first | assumption | exact held_drew (by assumption))
        (first
          | (go_at_call 96; refine (text_ok _ _ hs).mono ?_; rintro e w' ⟨rfl, hb⟩; have hN := held_next (by assumption) hb; clear hb)
          | (go_at_call 79; refine (text_val _ _).mono ?_; rintro e w' ⟨rfl, hb⟩; have hN := held_next (by assumption) hb; clear hb))
      go_wp2
      go_ret2
      have hE := ‹Held1 w w.heap.size 2 n s _›
      refine ⟨?_, hE.2.2.2.2⟩
      simp [valOk, hse]

end Go.Proofs.Ytddcmibggdighaa
