/- Contract of laws.eqVal, and the walk of laws.FnExactValRead, over the seat's translation. -/
import Derived.Test.YtmfilahccefcoapDoorRd9
namespace Go.Proofs.YtmfilahccefcoapDoor
open Go.RowKit

theorem eq_val (k n : Int) (s : ByteArray) (w : World) :
    Calls Tryd.prog 6 #[.agg #[.int .i64 k, .int .i64 n, .string s], .agg #[.int .i64 k, .int .i64 n, .string s]] w fun e w' => e = .returned (.bool true) ∧ Below w.heap.size w w' := by
  go_enter Tryd.func6, Tryd.ntmps6
  go_wp2
  go_ret
  exact ⟨rfl, ((Below.refl _ _).alloc (Nat.le_refl _) _).alloc (by simp) _⟩

set_option maxHeartbeats 1000000 in
theorem law_read (t : ByteArray) (w : World) (ht : t.size ≤ maxLen) (htab : Lib.TabIs Tryd.prog w "internal/strconv.uint64pow10" .u64 Lib.pow10Tab) :
    Calls Tryd.prog 3 #[.string t] w fun e w' => e = .returned (.bool true) ∧ Below w.heap.size w w' := by
  obtain ⟨k, n, x, b, hr⟩ : ∃ k n x b, readV t.data.toList = (k, n, x, b) := ⟨_, _, _, _, rfl⟩
  have Hr : Hid _ := hr
  have Htab : Hid _ := htab
  clear hr htab
  have ht' : t.size ≤ 9223372036854775807 := ht
  by_cases hl : (1048576 : Int) < t.size
  · go_enter Tryd.func3, Tryd.ntmps3
    go_wp2_with fail
    go_ret
    exact ⟨rfl, Below.refl _ _⟩
  · go_enter Tryd.func3, Tryd.ntmps3
    go_wp2_with fail
    refine (spec_read _ _ ht _ _ _ _ Hr.out).mono ?_
    rintro e w1 ⟨rfl, hb1⟩
    have Hb1 : Hid (Below w.heap.size w w1) := hb1
    have hz1 := hb1.size
    clear hb1
    go_wp2_with fail
    have hb2 : Below w.heap.size w (w1.alloc (.cells #[.int .i64 k, .int .i64 n, .string ⟨x.toArray⟩] 23)) := Hb1.out.alloc hz1 _
    refine (impl_read _ _ ht (Joins.tab_stays Tab.global Htab.out hb2 (Nat.le_refl _)) _ _ _ _ Hr.out).mono ?_
    rintro e w2 ⟨rfl, hb3⟩
    obtain ⟨hc, hf⟩ := bcell hb3
    have hz : w1.heap.size < w2.heap.size := by have := hb3.size; simp at this; omega
    have Hb3 : Hid (Below w.heap.size w w2) := hb2.trans (hb3.mono (by simp; omega))
    clear hb2 hb3
    go_wp2_with fail
    refine (eq_val _ _ _ _).mono ?_
    rintro e w3 ⟨rfl, hb4⟩
    go_wp2_with fail
    go_ret
    exact ⟨rfl, (Hb3.out.alloc Hb3.out.size _).trans (hb4.mono (by have := Hb3.out.size; simp; omega))⟩

end Go.Proofs.YtmfilahccefcoapDoor
