/- The contracts of laws.toEntry and toEntryS, over the seat's translation. -/
import Derived.Test.YtobblnlefhkanaaIxC0
import Derived.Test.YtobblnlefhkanaaCv
namespace Go.Proofs.Ytobblnlefhkanaa
open Go.RowKit

set_option maxRecDepth 100000 in
set_option maxHeartbeats 1000000 in
theorem to_entry (k n : Int) (s : ByteArray) (id : Int) (w : World) :
    Calls Try.prog 18 #[.agg #[.int .i64 k, .int .i64 n, .string s, .int .i64 id]] w fun e w' => e = .returned (.agg #[.int .i64 k, .int .i64 n, .string s, .int .i64 id]) ∧ Below w.heap.size w w' := by
  go_enter Try.func18, Try.ntmps18
  go_wp2_with fail
  refine (to_val _ _ _ _).mono ?_
  rintro e w' ⟨rfl, hb⟩
  have hO := own4_next (own4_box _ _ _ _ _ _) (by simp) hb
  have hR := own4_next (own4_next (own4_box _ _ _ _ _ _) (by simp) ((Below.refl _ _).alloc (Nat.le_refl _) _)) (by simp) hb
  have hw : Hid (Below w.heap.size w w') := ((((Below.refl w.heap.size w).alloc (Nat.le_refl _) _).alloc (by simp) _).alloc (by simp; omega) _).trans (hb.mono (by simp; omega))
  rw [size_alloc, size_alloc] at hO
  rw [size_alloc] at hR
  have hI := ((((Box.start w [.int .i64 k, .int .i64 n, .string s, .int .i64 id] 32).next ((Below.refl _ _).alloc (Nat.le_refl _) (.cells #[.int .i64 0, .int .i64 0, .string ⟨#[]⟩, .int .i64 0] 38))).next ((Below.refl _ _).alloc (Nat.le_refl _) (.cells #[.int .i64 0, .int .i64 0, .string ⟨#[]⟩, .int .i64 0] 38))).next hb).four
  clear hb
  go_wp2_with fail
  refine bodyPost_ret (v := .agg #[.int .i64 k, .int .i64 n, .string s, .int .i64 id]) (by simp [results, Try.results18, go_sem, hR]) rfl ⟨rfl, ?_⟩
  repeat' (first | refine Below.setCell ?_ (by simp [Nat.add_assoc]) _ | exact hw.out)

set_option maxRecDepth 100000 in
set_option maxHeartbeats 1000000 in
theorem to_entries (a : Option Addr) (cap : Nat) (L : List AEnt) (w : World) (hL : EntsAt w a L) (hm : L.length ≤ 1048576) :
    Calls Try.prog 11 #[.slice a L.length cap] w fun e w' => e = .returned (.slice (some ⟨w.heap.size, 0, none⟩) L.length L.length) ∧ MadeE w w.heap.size L.length L.length L w' := by
  obtain ⟨i0, hi, hz, hsz, hby⟩ := Try.info38
  have hmk : ∀ wx, (Instr.makeSlice 25 (.int .i64 L.length) (.int .i64 L.length)).run Try.prog wx = .ok (.slice (some ⟨wx.heap.size, 0, none⟩) L.length L.length) (wx.alloc (.cells (madeCells #[.int .i64 0, .int .i64 0, .string ⟨#[]⟩, .int .i64 0] (L.length * 4)) 38)) := fun wx => by
    have h := run_make (P := Try.prog) wx 25 38 i0 _ Try.underlying25 hi hz .i64 .i64 L.length L.length (by omega) (by omega) (by have : (i0.bytes : Int) * L.length ≤ 128 * 1048576 := Int.mul_le_mul (by omega) (by omega) (by omega) (by omega); omega) (by omega)
    rw [hsz] at h
    simpa [Value.cells] using h
  clear hi hz hsz hby
  go_enter Try.func11, Try.ntmps11
  go_wp2_with fail
  have hst := MadeE.start w L.length L #[.int .i64 0, .int .i64 0, .string ⟨#[]⟩, .int .i64 0] 38
  go_loopw [4] (fun i wr => ∃ k : Nat, k ≤ L.length ∧ i = .int .i64 k ∧ Hid (MadeE w w.heap.size L.length k L wr)) (fun i _ => L.length - (intOf i).toNat)
  case atStart => exact ⟨0, Nat.zero_le _, rfl, hst⟩
  case round =>
    obtain ⟨k, hk, rfl, hH⟩ := hrel
    clear hst hmk
    by_cases hlt : k < L.length
    · obtain ⟨b, o, hab, hbl, hr⟩ := (hL.keep hH.out.1).at hlt
      have hck := List.getElem?_eq_getElem hlt
      revert hr hck
      generalize L[k] = c
      intro hr hck
      have hix : ∀ wx, (Instr.indexAt 22 (.slice a L.length cap) (.int .i64 k)).run Try.prog wx = .ok (.pointer (some ⟨b, o + k * 4, none⟩)) wx := fun wx => by
        rw [hab]; exact run_ix4 _ _ _ _ _ _ _ wx hlt Try.underlying22 (Try.sizeOf32 wx)
      have hld := cells4_of hr
      have hck' : Hid (L[k]? = some c) := hck
      clear hab hr hL hck
      go_wp2_with fail
      refine (to_entry _ _ _ _ _).mono ?_
      rintro e w' ⟨rfl, hq⟩
      have hM : Hid (MadeE w w.heap.size L.length k L w') := hH.out.keep hq
      obtain ⟨x0, x1, x2, x3, hth⟩ := there4_of hM.out.2.2.1 hlt
      clear hH hq hld
      go_wp2_with fail
      go_roundw
      case rel => exact ⟨k + 1, by omega, by go_num, hM.out.put hlt hck'.out⟩
      case measure => simp [intOf]; omega
    · have hkl : k = L.length := by omega
      subst hkl
      go_wp2_with fail
      go_ret
      exact ⟨rfl, hH.out⟩

end Go.Proofs.Ytobblnlefhkanaa
