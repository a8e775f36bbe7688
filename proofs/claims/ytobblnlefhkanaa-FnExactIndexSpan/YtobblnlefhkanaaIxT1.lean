/- Rows of ints: compared, marked, held. Over the seat's translation. -/
import Derived.Test.YtobblnlefhkanaaIxT0
import Derived.Test.YtobblnlefhkanaaIxK1
namespace Go.Proofs.Ytobblnlefhkanaa
open Go.RowKit

set_option maxRecDepth 100000 in
set_option maxHeartbeats 1000000 in
theorem eq_ints (a b : Option Addr) (cap cap' : Nat) (L : List Int) (w : World) (ha : IntsAt w a L) (hb : IntsAt w b L) (hm : L.length ≤ maxLen) :
    Calls Try.prog 28 #[.slice a L.length cap, .slice b L.length cap'] w fun e w' => e = .returned (.bool true) ∧ Below w.heap.size w w' := by
  unfold maxLen at hm
  go_enter Try.func28, Try.ntmps28
  go_wp2_with fail
  go_loopw [5] (fun i wr => ∃ k : Nat, k ≤ L.length ∧ i = .int .i64 k ∧ Hid (Below w.heap.size w wr)) (fun i _ => L.length - (intOf i).toNat)
  case atStart => exact ⟨0, Nat.zero_le _, rfl, Below.refl _ _⟩
  case round =>
    obtain ⟨k, hk, rfl, hH⟩ := hrel
    by_cases hlt : k < L.length
    · obtain ⟨b1, o1, hab1, hbl1, hr1⟩ := (ha.keep hH.out).at hlt
      obtain ⟨b2, o2, hab2, hbl2, hr2⟩ := (hb.keep hH.out).at hlt
      revert hr1 hr2
      generalize L[k] = c
      intro hr1 hr2
      have hix : ∀ wx, (Instr.indexAt 43 (.slice a L.length cap) (.int .i64 k)).run Try.prog wx = .ok (.pointer (some ⟨b1, o1 + k, none⟩)) wx := fun wx => by
        rw [hab1]; exact run_ix1 _ _ _ _ _ _ _ wx hlt Try.underlying43 (Try.sizeOf3 wx)
      have hiy : ∀ wx, (Instr.indexAt 43 (.slice b L.length cap') (.int .i64 k)).run Try.prog wx = .ok (.pointer (some ⟨b2, o2 + k, none⟩)) wx := fun wx => by
        rw [hab2]; exact run_ix1 _ _ _ _ _ _ _ wx hlt Try.underlying43 (Try.sizeOf3 wx)
      clear hab1 hab2 ha hb hbl1 hbl2
      go_wp2_with fail
      go_quiet (fail)
      have hP : Hid (Below w.heap.size w (wr.drewN nq)) := hH.out.trans (quiet_below _ _ _)
      go_wp2_with fail
      go_roundw
      case rel => exact ⟨k + 1, by omega, by go_num, hP⟩
      case measure => simp [intOf]; omega
    · have hkl : k = L.length := by omega
      subst hkl
      go_wp2_with fail
      go_ret
      exact ⟨rfl, hH.out⟩

set_option maxRecDepth 100000 in
set_option maxHeartbeats 1000000 in
theorem mark_ints (a : Option Addr) (B n cap k : Nat) (w : World) (ha : a = some ⟨B, 0, none⟩ ∨ n = 0) (hB : B < w.heap.size) (ht : w.there B 0 n) (hn : k + n ≤ 100000000) :
    Calls Try.prog 29 #[.slice a n cap, .int .i64 k] w fun e w' => e = .returned (.int .i64 ((k + n : Nat) : Int)) ∧ MarkedI w B n k n w' := by
  go_enter Try.func29, Try.ntmps29
  go_wp2_with fail
  go_loopw [1, 5] (fun kv iv wr => ∃ i : Nat, i ≤ n ∧ iv = .int .i64 i ∧ kv = .int .i64 ((k + i : Nat) : Int) ∧ Hid (MarkedI w B n k i wr)) (fun _ iv _ => n - (intOf iv).toNat)
  case atStart => exact ⟨0, Nat.zero_le _, rfl, rfl, ⟨Turn.refl _ _, hB, ht, fun j hj => absurd hj (Nat.not_lt_zero _)⟩⟩
  case round =>
    obtain ⟨i, hi, rfl, rfl, hH⟩ := hrel
    clear hB ht
    by_cases hlt : i < n
    · have hix : ∀ wx, (Instr.indexAt 43 (.slice a n cap) (.int .i64 i)).run Try.prog wx = .ok (.pointer (some ⟨B, i, none⟩)) wx := fun wx =>
        run_ix1o _ _ _ _ _ _ _ wx ha hlt Try.underlying43 (Try.sizeOf3 wx)
      have hlt' : (i : Int) < n := by omega
      obtain ⟨x0, hx0, hx1⟩ := there1_of hH.out.2.2.1 hlt
      obtain ⟨q, hq⟩ : ∃ q, q = k + i := ⟨_, rfl⟩
      have hS : Hid (MarkedI w B n k (i + 1) (wr.setCell ⟨B, i, none⟩ (.int .i64 (q : Int)))) := by rw [hq]; exact hH.out.set hlt
      rw [← hq]
      have hQ : Hid (q = k + i) := hq
      have hq1 : q + 1 ≤ 100000000 := by omega
      clear hq hH
      go_wp2_with fail
      go_roundw
      case rel =>
        refine ⟨i + 1, by omega, by go_num, ?_, hS.out⟩
        have := hQ.out
        rw [show k + (i + 1) = q + 1 by omega]
        go_num
      case measure => simp [intOf]; omega
    · have hkl : i = n := by omega
      subst hkl
      go_wp2_with fail
      go_ret
      exact ⟨rfl, hH.out⟩

set_option maxRecDepth 100000 in
set_option maxHeartbeats 1000000 in
theorem held_ints (a : Option Addr) (B n cap k : Nat) (w : World) (ha : a = some ⟨B, 0, none⟩ ∨ n = 0) (hB : B < w.heap.size) (ht : ∀ j, j < n → w.cell? ⟨B, j, none⟩ = some (.int .i64 ((k + j : Nat) : Int))) (hn : k + n ≤ 100000000) :
    Calls Try.prog 30 #[.slice a n cap, .int .i64 k] w fun e w' => e = .returned (.int .i64 ((k + n : Nat) : Int)) ∧ Below w.heap.size w w' := by
  go_enter Try.func30, Try.ntmps30
  go_wp2_with fail
  go_loopw [1, 5] (fun kv iv wr => ∃ i : Nat, i ≤ n ∧ iv = .int .i64 i ∧ kv = .int .i64 ((k + i : Nat) : Int) ∧ Hid (Below w.heap.size w wr)) (fun _ iv _ => n - (intOf iv).toNat)
  case atStart => exact ⟨0, Nat.zero_le _, rfl, rfl, Below.refl _ _⟩
  case round =>
    obtain ⟨i, hi, rfl, rfl, hH⟩ := hrel
    by_cases hlt : i < n
    · have hix : ∀ wx, (Instr.indexAt 43 (.slice a n cap) (.int .i64 i)).run Try.prog wx = .ok (.pointer (some ⟨B, i, none⟩)) wx := fun wx =>
        run_ix1o _ _ _ _ _ _ _ wx ha hlt Try.underlying43 (Try.sizeOf3 wx)
      have hlt' : (i : Int) < n := by omega
      have hc : wr.cell? ⟨B, i, none⟩ = some (.int .i64 ((k + i : Nat) : Int)) := by rw [(bcell hH.out).1 _ _ hB]; exact ht i hlt
      obtain ⟨q, hq⟩ : ∃ q, q = k + i := ⟨_, rfl⟩
      rw [← hq] at hc ⊢
      have hQ : Hid (q = k + i) := hq
      have hq1 : q + 1 ≤ 100000000 := by omega
      clear hq hB ht
      go_wp2_with fail
      go_roundw
      case rel =>
        refine ⟨i + 1, by omega, by go_num, ?_, hH.out⟩
        have := hQ.out
        rw [show k + (i + 1) = q + 1 by omega]
        go_num
      case measure => simp [intOf]; omega
    · have hkl : i = n := by omega
      subst hkl
      go_wp2_with fail
      go_ret
      exact ⟨rfl, hH.out⟩

end Go.Proofs.Ytobblnlefhkanaa
