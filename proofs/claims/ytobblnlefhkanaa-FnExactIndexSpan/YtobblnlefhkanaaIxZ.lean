/- The contracts of laws.szVal, szEntry and szEntryS, over the seat's translation. -/
import Derived.Test.YtobblnlefhkanaaIxA
import Derived.Test.YtobblnlefhkanaaCv
namespace Go.Proofs.Ytobblnlefhkanaa
open Go.RowKit

theorem sz_val (k n : Int) (s : ByteArray) (l : Int) (w : World) (hs : s.size ≤ maxLen) (h0 : 0 ≤ l) (h1 : l ≤ 1048576) :
    Calls Try.prog 24 #[.agg #[.int .i64 k, .int .i64 n, .string s], .int .i64 l] w fun e w' => ∃ z, e = .returned (.int .i64 z) ∧ Rest l z True ∧ Below w.heap.size w w' := by
  by_cases h : (s.size : Int) ≤ l
  · exact (sz_fits k n l s w hs h0 h1 h).mono fun _ _ ⟨he, hb⟩ => ⟨_, he, Or.inr ⟨by omega, by omega, trivial⟩, hb⟩
  · exact (sz_big k n l s w hs h0 h1 (by omega)).mono fun _ _ ⟨he, hb⟩ => ⟨_, he, Or.inl rfl, hb⟩

set_option maxRecDepth 100000 in
set_option maxHeartbeats 1000000 in
theorem sz_entry (x : AEnt) (l : Int) (w : World) (hf : x.fit) (h0 : 0 ≤ l) (h1 : l ≤ 1048576) :
    Calls Try.prog 16 #[.agg #[.int .i64 x.k, .int .i64 x.n, .string x.s, .int .i64 x.id], .int .i64 l] w fun e w' => ∃ z, e = .returned (.int .i64 z) ∧ Rest l z True ∧ Below w.heap.size w w' := by
  go_enter Try.func16, Try.ntmps16
  go_wp2_with fail
  refine (sz_val _ _ _ _ _ hf h0 h1).mono ?_
  rintro e w' ⟨z, rfl, hR, hq⟩
  have hB : Hid (Below w.heap.size w w') := ((Below.refl _ _).alloc (Nat.le_refl _) _).trans (hq.mono (by simp))
  clear hq
  rcases hR with rfl | ⟨hz, hzl, _⟩
  · go_wp2_with fail
    go_ret
    exact ⟨_, rfl, Or.inl rfl, hB.out⟩
  · go_wp2_with fail
    go_ret
    exact ⟨_, rfl, Or.inr ⟨hz, by omega, trivial⟩, hB.out⟩

set_option maxRecDepth 100000 in
set_option maxHeartbeats 1000000 in
theorem sz_entries (a : Option Addr) (cap : Nat) (L : List AEnt) (l : Int) (w : World) (hL : EntsAt w a L) (hf : ∀ c ∈ L, c.fit) (hm : L.length ≤ maxLen) (h0 : 0 ≤ l) (h1 : l ≤ 1048576) :
    Calls Try.prog 9 #[.slice a L.length cap, .int .i64 l] w fun e w' => ∃ z, e = .returned (.int .i64 z) ∧ Rest l z (L.length ≤ 1048576) ∧ Below w.heap.size w w' := by
  unfold maxLen at hm
  by_cases ha : (L.length : Int) ≤ l
  · go_enter Try.func9, Try.ntmps9
    go_wp2_with fail
    go_loopw [1, 5] (fun lf i wr => ∃ (k : Nat) (z : Int), k ≤ L.length ∧ i = .int .i64 k ∧ lf = .int .i64 z ∧ 0 ≤ z ∧ z ≤ l ∧ Hid (Below w.heap.size w wr)) (fun _ i _ => L.length - (intOf i).toNat)
    case atStart => exact ⟨0, _, Nat.zero_le _, rfl, rfl, by omega, by omega, Below.refl _ _⟩
    case round =>
      obtain ⟨k, z, hk, rfl, rfl, hz0, hzl, hH⟩ := hrel
      by_cases hlt : k < L.length
      · obtain ⟨b, o, hab, hbl, hr⟩ := (hL.keep hH.out).at hlt
        have hft := hf _ (List.getElem_mem hlt)
        revert hr hft
        generalize L[k] = c
        intro hr hft
        have hix : ∀ wx, (Instr.indexAt 22 (.slice a L.length cap) (.int .i64 k)).run Try.prog wx = .ok (.pointer (some ⟨b, o + k * 4, none⟩)) wx := fun wx => by
          rw [hab]; exact run_ix4 _ _ _ _ _ _ _ wx hlt Try.underlying22 (Try.sizeOf32 wx)
        have hld := cells4_of hr
        clear hab hr hL
        go_wp2_with fail
        refine (sz_entry c z _ hft hz0 (by omega)).mono ?_
        rintro e w' ⟨z2, rfl, hR, hq⟩
        have hP : Hid (Below w.heap.size w w') := hH.out.trans (hq.mono hH.out.size)
        clear hq hH hld
        rcases hR with rfl | ⟨hy, hyl, _⟩
        · go_wp2_with fail
          go_ret
          exact ⟨_, rfl, Or.inl rfl, hP.out⟩
        · go_wp2_with fail
          go_roundw
          case rel => exact ⟨k + 1, z2, by omega, by go_num, rfl, hy, by omega, hP⟩
          case measure => simp [intOf]; omega
      · have hkl : k = L.length := by omega
        subst hkl
        go_wp2_with fail
        go_ret
        exact ⟨_, rfl, Or.inr ⟨hz0, hzl, by omega⟩, hH.out⟩
  · go_enter Try.func9, Try.ntmps9
    go_wp2_with fail
    go_ret
    exact ⟨_, rfl, Or.inl rfl, Below.refl _ _⟩

end Go.Proofs.Ytobblnlefhkanaa
