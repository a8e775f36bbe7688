/- The contract of laws.szColS, over the seat's translation. -/
import Derived.Test.YtogjdidmmhghhaaColC4
import Derived.Test.YtogjdidmmhghhaaShA
namespace Go.Proofs.Ytogjdidmmhghhaa
open Go.RowKit

def total (L : List ACol) : Nat := (L.map ACol.sz).sum

theorem total_next (L : List ACol) (k : Nat) (c : ACol) (h : L[k]? = some c) : total (L.take (k + 1)) = total (L.take k) + c.sz := by
  obtain ⟨hk, rfl⟩ := List.getElem?_eq_some_iff.1 h
  rw [List.take_succ_eq_append_getElem hk]
  unfold total
  rw [List.map_append, List.sum_append]
  simp
theorem total_le (L : List ACol) (k : Nat) : total (L.take k) ≤ total L := by
  have h := congrArg total (List.take_append_drop k L)
  rw [← h]
  unfold total
  rw [List.map_append, List.sum_append]
  omega

set_option maxHeartbeats 1000000 in
theorem sz_cols (a : Option Addr) (cap : Nat) (L : List ACol) (l : Int) (w : World) (hL : ColsAt w a L) (hf : ∀ c ∈ L, c.fit) (hm : L.length ≤ maxLen) (h0 : 0 ≤ l) (h1 : l ≤ 1048576) :
    Calls Try.prog 5 #[.slice a L.length cap, .int .i64 l] w fun e w' => e = .returned (.int .i64 (left l (L.length + total L))) ∧ Below w.heap.size w w' := by
  unfold maxLen at hm
  by_cases ha : (L.length : Int) ≤ l
  · go_enter Try.func5, Try.ntmps5
    go_wp2_with fail
    go_loopw [1, 5] (fun lf i wr => ∃ k : Nat, k ≤ L.length ∧ i = .int .i64 k ∧ lf = .int .i64 (l - L.length - total (L.take k)) ∧ Hid (0 ≤ l - L.length - total (L.take k) ∧ Below w.heap.size w wr)) (fun _ i _ => L.length - (intOf i).toNat)
    case atStart => exact ⟨0, Nat.zero_le _, rfl, by simp [total], ⟨by simp [total]; omega, Below.refl _ _⟩⟩
    case round =>
      obtain ⟨k, hk, rfl, rfl, hH⟩ := hrel
      have hlf := hH.out.1
      by_cases hlt : k < L.length
      · obtain ⟨b, o, hab, hbl, hr⟩ := (hL.keep hH.out.2).at hlt
        have hft := hf _ (List.getElem_mem hlt)
        have hnx := total_next L k _ (List.getElem?_eq_getElem hlt)
        have hle := total_le L (k + 1)
        revert hr hft hnx
        generalize L[k] = c
        intro hr hft hnx
        have hix : ∀ wx, (Instr.indexAt 22 (.slice a L.length cap) (.int .i64 k)).run Try.prog wx = .ok (.pointer (some ⟨b, o + k * 7, none⟩)) wx := fun wx => by
          rw [hab]; exact run_ix _ _ _ _ _ _ _ wx hlt Try.underlying22 (Try.sizeOf34 wx)
        have hld := cells7_of hr
        clear hab hr hL
        unfold ACol.sz at hnx
        generalize total (L.take k) = tk at *
        have hBel := hH.out.2
        clear hH
        by_cases hc : ((c.nm.size + c.s.size : Nat) : Int) ≤ l - L.length - tk
        · have hl' := left_pos hc
          go_wp2_with fail
          refine (sz_col _ _ _ _ _ _ _ _ _ hft.1 hft.2 (by omega) (by omega)).mono ?_
          rintro e w' ⟨rfl, hq⟩
          rw [hl']
          have hn2 : l - L.length - (total (L.take (k + 1)) : Int) = l - L.length - tk - ((c.nm.size + c.s.size : Nat) : Int) := by omega
          have hp : 0 ≤ l - L.length - (total (L.take (k + 1)) : Int) := by omega
          rw [← hn2]
          have hB' := hBel.trans (hq.mono hBel.size)
          clear hl' hn2 hq hBel hnx hle
          have hP : Hid (Below w.heap.size w w') := hB'
          clear hB'
          go_wp2_with fail
          go_roundw
          case rel => exact ⟨k + 1, by omega, by go_num, rfl, ⟨hp, hP.out⟩⟩
          case measure => simp [intOf]; omega
        · have hl' := left_neg hc
          go_wp2_with fail
          refine (sz_col _ _ _ _ _ _ _ _ _ hft.1 hft.2 (by omega) (by omega)).mono ?_
          rintro e w' ⟨rfl, hq⟩
          rw [hl']
          have hl2 := left_neg (l := l) (z := L.length + total L) (by omega)
          have hP : Hid (Below w.heap.size w w') := hBel.trans (hq.mono hBel.size)
          go_wp2_with fail
          go_ret
          rw [hl2]
          exact ⟨rfl, hP.out⟩
      · have hkl : k = L.length := by omega
        subst hkl
        rw [List.take_length] at *
        have hl' := left_pos (l := l) (z := L.length + total L) (by omega)
        go_wp2_with fail
        go_ret
        rw [hl']
        refine ⟨?_, hH.out.2⟩
        rw [show l - ((L.length + total L : Nat) : Int) = l - L.length - total L by omega]
        rfl
  · rw [left_neg (by omega)]
    go_enter Try.func5, Try.ntmps5
    go_wp2_with fail
    go_ret
    exact ⟨rfl, Below.refl _ _⟩

end Go.Proofs.Ytogjdidmmhghhaa
