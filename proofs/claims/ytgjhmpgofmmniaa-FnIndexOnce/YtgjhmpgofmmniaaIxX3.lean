/- The contracts of laws.wpNums, DrawIndexPut and DrawIndexOff, over the seat's translation. -/
import Derived.Test.YtgjhmpgofmmniaaIxX2
import Derived.Test.YtgjhmpgofmmniaaIxT0
namespace Go.Proofs.Ytgjhmpgofmmniaa
open Go.RowKit

theorem index_asc {L : List AEnt} (h : indexOk L = true) : Asc L := by
  unfold indexOk at h
  simp only [Bool.and_eq_true] at h
  exact (ascB_iff L).1 h.2.2
theorem index_val {L : List AEnt} (h : indexOk L = true) {c : AEnt} (hc : c ∈ L) : valOk c.k c.n c.s = true := by
  unfold indexOk at h
  simp only [Bool.and_eq_true, List.all_eq_true] at h
  have := h.2.1 c hc
  unfold AEnt.ok at this
  simp only [Bool.and_eq_true] at this
  exact this.1

set_option maxRecDepth 100000 in
set_option maxHeartbeats 1000000 in
theorem wp_nums (a b : Option Addr) (cap cap' : Nat) (L : List Int) (w : World) (ha : IntsAt w a L) (hb : IntsAt w b L) (hm : L.length ≤ maxLen) :
    Calls Try.prog 16 #[.slice a L.length cap, .slice b L.length cap'] w fun e w' => e = .returned (.bool true) ∧ Below w.heap.size w w' := by
  unfold maxLen at hm
  go_enter Try.func16, Try.ntmps16
  go_wp2_with fail
  go_loopw [5] (fun i wr => ∃ k : Nat, k ≤ L.length ∧ i = .int .i64 k ∧ Hid (Below w.heap.size w wr)) (fun i _ => L.length - (intOf i).toNat)
  case atStart => exact ⟨0, Nat.zero_le _, rfl, Below.refl _ _⟩
  case round =>
    obtain ⟨k, hk, rfl, hH⟩ := hrel
    by_cases hlt : k < L.length
    · obtain ⟨b1, o1, hab1, hbl1, hr1⟩ := (ha.keep hH.out).at hlt
      obtain ⟨b2, o2, hab2, hbl2, hr2⟩ := (hb.keep hH.out).at hlt
      revert hr1 hr2
      generalize L[k] = c
      intro hr1 hr2
      have hix : ∀ wx, (Instr.indexAt 30 (.slice a L.length cap) (.int .i64 k)).run Try.prog wx = .ok (.pointer (some ⟨b1, o1 + k, none⟩)) wx := fun wx => by
        rw [hab1]; exact run_ix1 _ _ _ _ _ _ _ wx hlt Try.underlying30 (Try.sizeOf3 wx)
      have hiy : ∀ wx, (Instr.indexAt 30 (.slice b L.length cap') (.int .i64 k)).run Try.prog wx = .ok (.pointer (some ⟨b2, o2 + k, none⟩)) wx := fun wx => by
        rw [hab2]; exact run_ix1 _ _ _ _ _ _ _ wx hlt Try.underlying30 (Try.sizeOf3 wx)
      clear hab1 hab2 ha hb hbl1 hbl2
      go_wp2_with fail
      go_quiet (fail)
      have hP : Hid (Below w.heap.size w (wr.drewN nq)) := hH.out.trans (quiet_below _ _ _)
      go_wp2_with fail
      go_roundw
      case rel => exact ⟨k + 1, by omega, by go_num, hP⟩
      case measure => simp [intOf]; omega
    · have hkl : k = L.length := by omega
      subst hkl
      go_wp2_with fail
      go_ret
      exact ⟨rfl, hH.out⟩

set_option maxHeartbeats 1000000 in
theorem draw_iput (x : Option Addr) (len cap : Nat) (w : World) (hlc : len ≤ cap) (hcap : cap ≤ maxLen) (hc : IsCode w.heap.size x len w) :
    Calls Try.prog 20 #[.slice x len cap] w fun e w' => ∃ a c L y, e = .returned (.tuple #[.slice a (List.length L) c, .agg #[.int .i64 (AEnt.k y), .int .i64 y.n, .string y.s, .int .i64 y.id]]) ∧ DrE w a c L w' ∧ y.s.size ≤ 5 := by
  have b0 := alloc_below w (.cells #[.int .i64 0, .int .i64 0, .string ⟨#[]⟩, .int .i64 0] 29)
  have H0 : Hid (IsCode w.heap.size x len (w.alloc (.cells #[.int .i64 0, .int .i64 0, .string ⟨#[]⟩, .int .i64 0] 29)) ∧ BoxE w.heap.size ⟨0, 0, ⟨#[]⟩, 0⟩ (w.alloc (.cells #[.int .i64 0, .int .i64 0, .string ⟨#[]⟩, .int .i64 0] 29)) ∧ Below w.heap.size w (w.alloc (.cells #[.int .i64 0, .int .i64 0, .string ⟨#[]⟩, .int .i64 0] 29))) := ⟨hc.keep b0, BoxE.new w ⟨0, 0, ⟨#[]⟩, 0⟩ _, b0⟩
  clear hc b0
  go_enter Try.func20, Try.ntmps20
  go_wp2_with fail
  refine (l10_open w.heap.size (w.heap.size + 1) x len cap _ (by rw [size_alloc]) (by rw [size_alloc]; omega) hlc hcap H0.out.1).mono ?_
  rintro e w1 ⟨rfl, hr1, hb1⟩
  have H1 : Hid (Rd w.heap.size (w.heap.size + 1) 0 w1 ∧ BoxE w.heap.size ⟨0, 0, ⟨#[]⟩, 0⟩ w1 ∧ Below w.heap.size w w1) := ⟨hr1, H0.out.2.1.keep hb1, H0.out.2.2.trans (hb1.mono (by rw [size_alloc]; omega))⟩
  clear hr1 hb1 H0
  go_wp2_with fail
  refine (l8_some w.heap.size (w.heap.size + 1) 0 w1 H1.out.1 (by omega)).mono ?_
  rintro e w2 ⟨a, c, L, y, q, rfl, hR, hl, hs, hy, hq, hr2, hu2⟩
  have hz1 : w.heap.size + 1 < w1.heap.size := H1.out.1.2.1
  have hrx := (H1.out.2.1.apart hu2 (by omega)).all
  have hD : Hid (DrE w a c L ((((w2.setCell ⟨w.heap.size, 0, none⟩ (.int .i64 y.k)).setCell ⟨w.heap.size, 1, none⟩ (.int .i64 y.n)).setCell ⟨w.heap.size, 2, none⟩ (.string y.s)).setCell ⟨w.heap.size, 3, none⟩ (.int .i64 y.id))) := by
    have hv : Upd w.heap.size w2 ((((w2.setCell ⟨w.heap.size, 0, none⟩ (.int .i64 y.k)).setCell ⟨w.heap.size, 1, none⟩ (.int .i64 y.n)).setCell ⟨w.heap.size, 2, none⟩ (.string y.s)).setCell ⟨w.heap.size, 3, none⟩ (.int .i64 y.id)) := Upd.set4 _ _ _ _ _
    obtain ⟨h0, hc⟩ := hR.caps rfl
    exact ⟨(hR.upd hv (by omega)).same, h0, hc, hl, hs, (H1.out.2.2.trans (hu2.below (by omega) H1.out.2.2.size)).trans (hv.below (Nat.le_refl _) (by have := hu2.size; omega))⟩
  clear hR hr2 hu2 H1
  go_wp2_with fail
  exact bodyPost_ret (v := .tuple #[.slice a L.length c, .agg #[.int .i64 y.k, .int .i64 y.n, .string y.s, .int .i64 y.id]]) (by simp [results, Try.results20, go_sem, hrx]) rfl ⟨_, _, _, _, rfl, hD.out, hy⟩

set_option maxHeartbeats 1000000 in
theorem draw_ioff (x : Option Addr) (len cap : Nat) (w : World) (hlc : len ≤ cap) (hcap : cap ≤ maxLen) (hc : IsCode w.heap.size x len w) :
    Calls Try.prog 25 #[.slice x len cap] w fun e w' => ∃ a c L y, e = .returned (.tuple #[.slice a (List.length L) c, .agg #[.int .i64 (AEnt.k y), .int .i64 y.n, .string y.s, .int .i64 y.id]]) ∧ DrE w a c L w' ∧ y.s.size ≤ 5 := by
  have b0 := alloc_below w (.cells #[.int .i64 0, .int .i64 0, .string ⟨#[]⟩, .int .i64 0] 29)
  have H0 : Hid (IsCode w.heap.size x len (w.alloc (.cells #[.int .i64 0, .int .i64 0, .string ⟨#[]⟩, .int .i64 0] 29)) ∧ BoxE w.heap.size ⟨0, 0, ⟨#[]⟩, 0⟩ (w.alloc (.cells #[.int .i64 0, .int .i64 0, .string ⟨#[]⟩, .int .i64 0] 29)) ∧ Below w.heap.size w (w.alloc (.cells #[.int .i64 0, .int .i64 0, .string ⟨#[]⟩, .int .i64 0] 29))) := ⟨hc.keep b0, BoxE.new w ⟨0, 0, ⟨#[]⟩, 0⟩ _, b0⟩
  clear hc b0
  go_enter Try.func25, Try.ntmps25
  go_wp2_with fail
  refine (l10_open w.heap.size (w.heap.size + 1) x len cap _ (by rw [size_alloc]) (by rw [size_alloc]; omega) hlc hcap H0.out.1).mono ?_
  rintro e w1 ⟨rfl, hr1, hb1⟩
  have H1 : Hid (Rd w.heap.size (w.heap.size + 1) 0 w1 ∧ BoxE w.heap.size ⟨0, 0, ⟨#[]⟩, 0⟩ w1 ∧ Below w.heap.size w w1) := ⟨hr1, H0.out.2.1.keep hb1, H0.out.2.2.trans (hb1.mono (by rw [size_alloc]; omega))⟩
  clear hr1 hb1 H0
  go_wp2_with fail
  refine (l8_some w.heap.size (w.heap.size + 1) 0 w1 H1.out.1 (by omega)).mono ?_
  rintro e w2 ⟨a, c, L, y, q, rfl, hR, hl, hs, hy, hq, hr2, hu2⟩
  have hz1 : w.heap.size + 1 < w1.heap.size := H1.out.1.2.1
  have hrx := (H1.out.2.1.apart hu2 (by omega)).all
  have hD : Hid (DrE w a c L ((((w2.setCell ⟨w.heap.size, 0, none⟩ (.int .i64 y.k)).setCell ⟨w.heap.size, 1, none⟩ (.int .i64 y.n)).setCell ⟨w.heap.size, 2, none⟩ (.string y.s)).setCell ⟨w.heap.size, 3, none⟩ (.int .i64 y.id))) := by
    have hv : Upd w.heap.size w2 ((((w2.setCell ⟨w.heap.size, 0, none⟩ (.int .i64 y.k)).setCell ⟨w.heap.size, 1, none⟩ (.int .i64 y.n)).setCell ⟨w.heap.size, 2, none⟩ (.string y.s)).setCell ⟨w.heap.size, 3, none⟩ (.int .i64 y.id)) := Upd.set4 _ _ _ _ _
    obtain ⟨h0, hc⟩ := hR.caps rfl
    exact ⟨(hR.upd hv (by omega)).same, h0, hc, hl, hs, (H1.out.2.2.trans (hu2.below (by omega) H1.out.2.2.size)).trans (hv.below (Nat.le_refl _) (by have := hu2.size; omega))⟩
  clear hR hr2 hu2 H1
  go_wp2_with fail
  exact bodyPost_ret (v := .tuple #[.slice a L.length c, .agg #[.int .i64 y.k, .int .i64 y.n, .string y.s, .int .i64 y.id]]) (by simp [results, Try.results25, go_sem, hrx]) rfl ⟨_, _, _, _, rfl, hD.out, hy⟩

end Go.Proofs.Ytgjhmpgofmmniaa
