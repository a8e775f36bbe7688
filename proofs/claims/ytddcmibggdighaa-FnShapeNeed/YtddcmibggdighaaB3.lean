/- The methods of the three kinds behind the interface, and the contract of impl.valueOf at a number, over the seat's translation. -/
import Derived.Test.YtddcmibggdighaaA3
import Derived.Test.YtddcmibggdighaaB1
import Derived.Deep.RegionHeld3
namespace Go.Proofs.Ytddcmibggdighaa
open Go.RowKit

theorem m_num_ok (n : Int) (w : World) : (method 238 91 (.int .i64 n) "loop.example/custumal/impl.ok").run Try.prog w = .ok (76, .int .i64 n) w := by kernel_rfl
theorem m_num_val (n : Int) (w : World) : (method 238 91 (.int .i64 n) "loop.example/custumal/impl.val").run Try.prog w = .ok (78, .int .i64 n) w := by kernel_rfl
theorem m_text_ok (s : ByteArray) (w : World) : (method 238 92 (.string s) "loop.example/custumal/impl.ok").run Try.prog w = .ok (96, .string s) w := by kernel_rfl
theorem m_text_val (s : ByteArray) (w : World) : (method 238 92 (.string s) "loop.example/custumal/impl.val").run Try.prog w = .ok (79, .string s) w := by kernel_rfl
theorem m_none_ok (w : World) : (method 238 90 (.agg #[]) "loop.example/custumal/impl.ok").run Try.prog w = .ok (71, .agg #[]) w := by kernel_rfl
theorem m_none_val (w : World) : (method 238 90 (.agg #[]) "loop.example/custumal/impl.val").run Try.prog w = .ok (73, .agg #[]) w := by kernel_rfl

set_option maxHeartbeats 400000 in
theorem value_num (n : Int) (s : ByteArray) (w : World) :
    Calls Try.prog 36 #[.agg #[.int .i64 1, .int .i64 n, .string s]] w fun e w' => e = .returned (.tuple #[.iface 91 (.int .i64 n), .bool (valOk 1 n s)]) ∧ Below w.heap.size w w' := by
  have hm1 := m_num_ok n
  have hm2 := m_num_val n
  have hB := held_box w 1 n s 29
  go_enter Try.func36, Try.ntmps36
  go_wp2
  cases hn : numOk n
  · clear hB
    first
      | (go_region_with (go_at_call 76; refine (num_ok _ _).mono ?_; rintro e w' ⟨rfl, rfl⟩))
      | fail
    all_goals
      go_wp2
      go_ret2
      refine ⟨?_, ((Below.refl _ _).alloc (Nat.le_refl _) _).drew⟩
      simp [valOk, hn, go_sem]
  · by_cases hse : s.toList = []
    all_goals
      go_region_held3 (fun W => Held1 w w.heap.size 1 n s W) (first | assumption | exact held_drew (by assumption))
        (first
          | (go_at_call 76; refine (num_ok _ _).mono ?_; rintro e w' ⟨rfl, rfl⟩)
          | (go_at_call 78; refine (num_val _ _).mono ?_; rintro e w' ⟨rfl, hb⟩; have hN := held_next (by assumption) hb; clear hb))
      go_wp2
      go_ret2
      have hE := ‹Held1 w w.heap.size 1 n s _›
      refine ⟨?_, hE.2.2.2.2⟩
      simp [valOk, hn, hse]

end Go.Proofs.Ytddcmibggdighaa
