/- The contract of laws.szValS, over the seat's translation. -/
import Derived.Test.YteckjdoiimifaaaShS1
import Derived.Test.YteckjdoiimifaaaRwA
namespace Go.Proofs.Yteckjdoiimifaaa
open Go.RowKit

def totalV (L : List AVal) : Nat := (L.map fun v => v.s.size).sum

theorem totalV_next (L : List AVal) (k : Nat) (c : AVal) (h : L[k]? = some c) : totalV (L.take (k + 1)) = totalV (L.take k) + c.s.size := by
  obtain ⟨hk, rfl⟩ := List.getElem?_eq_some_iff.1 h
  rw [List.take_succ_eq_append_getElem hk]
  unfold totalV
  rw [List.map_append, List.sum_append]
  simp
theorem totalV_le (L : List AVal) (k : Nat) : totalV (L.take k) ≤ totalV L := by
  have h := congrArg totalV (List.take_append_drop k L)
  rw [← h]
  unfold totalV
  rw [List.map_append, List.sum_append]
  omega

set_option maxRecDepth 100000 in
set_option maxHeartbeats 1000000 in
theorem sz_vals (a : Option Addr) (cap : Nat) (L : List AVal) (l : Int) (w : World) (hL : ValsAt w a L) (hf : ∀ c ∈ L, c.fit) (hm : L.length ≤ maxLen) (h0 : 0 ≤ l) (h1 : l ≤ 1048576) :
    Calls Try.prog 86 #[.slice a L.length cap, .int .i64 l] w fun e w' => e = .returned (.int .i64 (left l (L.length + totalV L))) ∧ Below w.heap.size w w' := by
  unfold maxLen at hm
  by_cases ha : (L.length : Int) ≤ l
  · go_enter Try.func86, Try.ntmps86
    go_wp2_with fail
    go_loopw [1, 5] (fun lf i wr => ∃ k : Nat, k ≤ L.length ∧ i = .int .i64 k ∧ lf = .int .i64 (l - L.length - totalV (L.take k)) ∧ Hid (0 ≤ l - L.length - totalV (L.take k) ∧ Below w.heap.size w wr)) (fun _ i _ => L.length - (intOf i).toNat)
    case atStart => exact ⟨0, Nat.zero_le _, rfl, by simp [totalV], ⟨by simp [totalV]; omega, Below.refl _ _⟩⟩
    case round =>
      obtain ⟨k, hk, rfl, rfl, hH⟩ := hrel
      have hlf := hH.out.1
      by_cases hlt : k < L.length
      · obtain ⟨b, o, hab, hbl, hr⟩ := (hL.keep hH.out.2).at hlt
        have hft := hf _ (List.getElem_mem hlt)
        have hnx := totalV_next L k _ (List.getElem?_eq_getElem hlt)
        have hle := totalV_le L (k + 1)
        revert hr hft hnx
        generalize L[k] = c
        intro hr hft hnx
        have hix : ∀ wx, (Instr.indexAt 109 (.slice a L.length cap) (.int .i64 k)).run Try.prog wx = .ok (.pointer (some ⟨b, o + k * 3, none⟩)) wx := fun wx => by
          rw [hab]; exact run_ix3 _ _ _ _ _ _ _ wx hlt Try.underlying109 (Try.sizeOf57 wx)
        have hld := cells3_of hr
        clear hab hr hL
        generalize totalV (L.take k) = tk at *
        have hBel := hH.out.2
        clear hH
        by_cases hc : (c.s.size : Int) ≤ l - L.length - tk
        · have hl' := left_pos hc
          go_wp2_with fail
          refine (sz_val _ _ _ _ _ hft (by omega) (by omega)).mono ?_
          rintro e w' ⟨rfl, hq⟩
          rw [hl']
          have hn2 : l - L.length - (totalV (L.take (k + 1)) : Int) = l - L.length - tk - (c.s.size : Int) := by omega
          have hp : 0 ≤ l - L.length - (totalV (L.take (k + 1)) : Int) := by omega
          rw [← hn2]
          have hB' := hBel.trans (hq.mono hBel.size)
          clear hl' hn2 hq hBel hnx hle
          have hP : Hid (Below w.heap.size w w') := hB'
          clear hB'
          go_wp2_with fail
          go_roundw
          case rel => exact ⟨k + 1, by omega, by go_num, rfl, ⟨hp, hP.out⟩⟩
          case measure => simp [intOf]; omega
        · have hl' := left_neg hc
          go_wp2_with fail
          refine (sz_val _ _ _ _ _ hft (by omega) (by omega)).mono ?_
          rintro e w' ⟨rfl, hq⟩
          rw [hl']
          have hl2 := left_neg (l := l) (z := L.length + totalV L) (by omega)
          have hP : Hid (Below w.heap.size w w') := hBel.trans (hq.mono hBel.size)
          go_wp2_with fail
          go_ret
          rw [hl2]
          exact ⟨rfl, hP.out⟩
      · have hkl : k = L.length := by omega
        subst hkl
        rw [List.take_length] at *
        have hl' := left_pos (l := l) (z := L.length + totalV L) (by omega)
        go_wp2_with fail
        go_ret
        rw [hl']
        refine ⟨?_, hH.out.2⟩
        rw [show l - ((L.length + totalV L : Nat) : Int) = l - L.length - totalV L by omega]
        rfl
  · rw [left_neg (by omega)]
    go_enter Try.func86, Try.ntmps86
    go_wp2_with fail
    go_ret
    exact ⟨rfl, Below.refl _ _⟩

end Go.Proofs.Yteckjdoiimifaaa
