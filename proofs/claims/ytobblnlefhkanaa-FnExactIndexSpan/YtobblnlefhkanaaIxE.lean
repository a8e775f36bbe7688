/- The contracts of laws.eqVal, eqEntry and eqEntryS at two that are one, over the seat's translation. -/
import Derived.Test.YtobblnlefhkanaaIxE0
namespace Go.Proofs.Ytobblnlefhkanaa
open Go.RowKit

theorem eq_val (k n : Int) (s : ByteArray) (w : World) :
    Calls Try.prog 52 #[.agg #[.int .i64 k, .int .i64 n, .string s], .agg #[.int .i64 k, .int .i64 n, .string s]] w fun e w' => e = .returned (.bool true) ∧ Below w.heap.size w w' := by
  go_enter Try.func52, Try.ntmps52
  go_wp2
  go_ret
  exact ⟨rfl, ((Below.refl _ _).alloc (Nat.le_refl _) _).alloc (by simp) _⟩

set_option maxRecDepth 100000 in
set_option maxHeartbeats 1000000 in
theorem eq_entry (x : AEnt) (w : World) :
    Calls Try.prog 36 #[.agg #[.int .i64 x.k, .int .i64 x.n, .string x.s, .int .i64 x.id], .agg #[.int .i64 x.k, .int .i64 x.n, .string x.s, .int .i64 x.id]] w fun e w' => e = .returned (.bool true) ∧ Below w.heap.size w w' := by
  have b1 : Below (w.alloc (.cells #[.int .i64 x.k, .int .i64 x.n, .string x.s, .int .i64 x.id] 38)).heap.size (w.alloc (.cells #[.int .i64 x.k, .int .i64 x.n, .string x.s, .int .i64 x.id] 38)) ((w.alloc (.cells #[.int .i64 x.k, .int .i64 x.n, .string x.s, .int .i64 x.id] 38)).alloc (.cells #[.int .i64 x.k, .int .i64 x.n, .string x.s, .int .i64 x.id] 38)) := (Below.refl _ _).alloc (Nat.le_refl _) _
  have h1 := (Box.start w [.int .i64 x.k, .int .i64 x.n, .string x.s, .int .i64 x.id] 38).next b1
  have h2 := Box.start (w.alloc (.cells #[.int .i64 x.k, .int .i64 x.n, .string x.s, .int .i64 x.id] 38)) [.int .i64 x.k, .int .i64 x.n, .string x.s, .int .i64 x.id] 38
  rw [size_alloc] at h2
  have H : Hid (Box w.heap.size [.int .i64 x.k, .int .i64 x.n, .string x.s, .int .i64 x.id] _ ∧ Box (w.heap.size + 1) [.int .i64 x.k, .int .i64 x.n, .string x.s, .int .i64 x.id] _) := ⟨h1, h2⟩
  clear h1 h2 b1
  go_enter Try.func36, Try.ntmps36
  go_wp2_with fail
  refine (eq_val _ _ _ _).mono ?_
  rintro e w' ⟨rfl, hq⟩
  have hP : Hid (Below w.heap.size w w') := (((Below.refl w.heap.size w).alloc (Nat.le_refl _) _).alloc (by simp) _).trans (hq.mono (by simp; omega))
  have g1 := (H.out.1.next hq).four
  have g2 := (H.out.2.next hq).four
  clear hq H
  go_wp2_with fail
  go_ret
  exact ⟨rfl, hP.out⟩

set_option maxRecDepth 100000 in
set_option maxHeartbeats 1000000 in
theorem eq_entries (a b : Option Addr) (cap cap' : Nat) (L : List AEnt) (w : World) (ha : EntsAt w a L) (hb : EntsAt w b L) (hm : L.length ≤ maxLen) :
    Calls Try.prog 13 #[.slice a L.length cap, .slice b L.length cap'] w fun e w' => e = .returned (.bool true) ∧ Below w.heap.size w w' := by
  unfold maxLen at hm
  go_enter Try.func13, Try.ntmps13
  go_wp2_with fail
  go_loopw [5] (fun i wr => ∃ k : Nat, k ≤ L.length ∧ i = .int .i64 k ∧ Hid (Below w.heap.size w wr)) (fun i _ => L.length - (intOf i).toNat)
  case atStart => exact ⟨0, Nat.zero_le _, rfl, Below.refl _ _⟩
  case round =>
    obtain ⟨k, hk, rfl, hH⟩ := hrel
    by_cases hlt : k < L.length
    · obtain ⟨b1, o1, hab1, hbl1, hr1⟩ := (ha.keep hH.out).at hlt
      obtain ⟨b2, o2, hab2, hbl2, hr2⟩ := (hb.keep hH.out).at hlt
      revert hr1 hr2
      generalize L[k] = c
      intro hr1 hr2
      have hix : ∀ wx, (Instr.indexAt 25 (.slice a L.length cap) (.int .i64 k)).run Try.prog wx = .ok (.pointer (some ⟨b1, o1 + k * 4, none⟩)) wx := fun wx => by
        rw [hab1]; exact run_ix4 _ _ _ _ _ _ _ wx hlt Try.underlying25 (Try.sizeOf38 wx)
      have hiy : ∀ wx, (Instr.indexAt 25 (.slice b L.length cap') (.int .i64 k)).run Try.prog wx = .ok (.pointer (some ⟨b2, o2 + k * 4, none⟩)) wx := fun wx => by
        rw [hab2]; exact run_ix4 _ _ _ _ _ _ _ wx hlt Try.underlying25 (Try.sizeOf38 wx)
      have hT : TwoEnts w b1 (o1 + k * 4) b2 (o2 + k * 4) c c wr := ⟨cells4_of hr1, cells4_of hr2, hbl1, hbl2, hH.out⟩
      clear hab1 hab2 hr1 hr2 ha hb hH hbl1 hbl2
      go_wp2_with fail
      go_region_held3 (fun W => TwoEnts w b1 (o1 + k * 4) b2 (o2 + k * 4) c c W) (first | assumption | exact twoe_drew (by assumption))
        (first
          | (go_at_call 36; refine (eq_entry _ _).mono ?_; rintro e w' ⟨rfl, hq⟩; have hN := twoe_next (by assumption) hq; clear hq))
      have hE := ‹TwoEnts w b1 (o1 + k * 4) b2 (o2 + k * 4) c c _›
      have hP : Hid (Below w.heap.size w _) := hE.2.2.2.2
      clear hE
      go_wp2_with fail
      go_roundw
      case rel => exact ⟨k + 1, by omega, by go_num, hP⟩
      case measure => simp [intOf]; omega
    · have hkl : k = L.length := by omega
      subst hkl
      go_wp2_with fail
      go_ret
      exact ⟨rfl, hH.out⟩

end Go.Proofs.Ytobblnlefhkanaa
