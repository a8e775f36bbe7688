/- Contracts of impl.valueOf at nothing and at what is of no kind, over the seat's translation. -/
import Derived.Test.YtddcmibggdighaaB3
namespace Go.Proofs.Ytddcmibggdighaa
open Go.RowKit

set_option maxHeartbeats 400000 in
theorem value_none (n : Int) (s : ByteArray) (w : World) :
    Calls Try.prog 36 #[.agg #[.int .i64 0, .int .i64 n, .string s]] w fun e w' => e = .returned (.tuple #[.iface 90 (.agg #[]), .bool (valOk 0 n s)]) ∧ Below w.heap.size w w' := by
  have hm1 := m_none_ok
  have hm2 := m_none_val
  have hB := held_box w 0 n s 29
  by_cases hse : n = 0
  · subst hse
    by_cases hl : s.toList = []
    all_goals
      go_enter Try.func36, Try.ntmps36
      go_wp2
      go_region_held3 (fun W => Held1 w w.heap.size 0 0 s W) (first | assumption | exact held_drew (by assumption))
        (first
          | (go_at_call 71; refine (none_ok _).mono ?_; rintro e w' ⟨rfl, hb⟩; have hN := held_next (by assumption) hb; clear hb)
          | (go_at_call 73; refine (none_val _).mono ?_; rintro e w' ⟨rfl, hb⟩; have hN := held_next (by assumption) hb; clear hb))
      go_wp2
      go_ret2
      have hE := ‹Held1 w w.heap.size 0 0 s _›
      refine ⟨?_, hE.2.2.2.2⟩
      simp [valOk, hl]
  · have hne : ¬ (0 : Int) = n := fun h => hse h.symm
    go_enter Try.func36, Try.ntmps36
    go_wp2
    go_region_held3 (fun W => Held1 w w.heap.size 0 n s W) (first | assumption | exact held_drew (by assumption))
      (first
        | (go_at_call 71; refine (none_ok _).mono ?_; rintro e w' ⟨rfl, hb⟩; have hN := held_next (by assumption) hb; clear hb)
        | (go_at_call 73; refine (none_val _).mono ?_; rintro e w' ⟨rfl, hb⟩; have hN := held_next (by assumption) hb; clear hb))
    go_wp2
    go_ret2
    have hE := ‹Held1 w w.heap.size 0 n s _›
    refine ⟨?_, hE.2.2.2.2⟩
    simp [valOk, hse]

set_option maxHeartbeats 400000 in
theorem value_other (k n : Int) (s : ByteArray) (w : World) (h0 : (k == 0) = false) (h1 : (k == 1) = false) (h2 : (k == 2) = false) :
    Calls Try.prog 36 #[.agg #[.int .i64 k, .int .i64 n, .string s]] w fun e w' => e = .returned (.tuple #[.iface 90 (.agg #[]), .bool (valOk k n s)]) ∧ Below w.heap.size w w' := by
  go_enter Try.func36, Try.ntmps36
  go_wp2
  go_ret2
  refine ⟨?_, (Below.refl _ _).alloc (Nat.le_refl _) _⟩
  simp at h0 h1 h2
  simp [valOk, h0, h1, h2]

end Go.Proofs.Ytddcmibggdighaa
