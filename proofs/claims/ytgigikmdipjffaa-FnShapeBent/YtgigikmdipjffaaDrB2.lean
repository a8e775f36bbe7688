/- The contract of spec.DrawColOk, over the seat's translation. -/
import Derived.Test.YtgigikmdipjffaaDrB1
namespace Go.Proofs.Ytgigikmdipjffaa
open Go.RowKit

theorem cols_one (W : World) (c : ACol) (t : TypeId) : ColsAt (W.alloc (.cells #[.string c.nm, .int .i64 c.kd, .bool c.nd, .bool c.oc, .int .i64 c.k, .int .i64 c.n, .string c.s] t)) (some ⟨W.heap.size, 0, none⟩) [c] := by
  refine Or.inr ⟨W.heap.size, 0, rfl, by simp, fun i d hd j v hv => ?_⟩
  match i, hd with
  | 0, hd =>
    simp at hd
    subst hd
    have := new_cells W c t j v hv
    rw [Addr.add_mid] at this
    simpa using this

set_option maxRecDepth 100000 in
set_option maxHeartbeats 2000000 in
theorem draw_col (x : Option Addr) (len cap B : Nat) (w : World) (hB : B ≤ w.heap.size) (hlc : len ≤ cap) (hcap : cap ≤ maxLen) (hc : IsCode B x len w) :
    Calls Try.prog 6 #[.slice x len cap] w fun e w' => ∃ c : ACol, e = .returned (.agg #[.string c.nm, .int .i64 c.kd, .bool c.nd, .bool c.oc, .int .i64 c.k, .int .i64 c.n, .string c.s]) ∧ c.small ∧ Below w.heap.size w w' := by
  have b0 := alloc_below w (.cells #[.string ⟨#[]⟩, .int .i64 0, .bool false, .bool false, .int .i64 0, .int .i64 0, .string ⟨#[]⟩] 30)
  have hO := own7_box w ⟨#[]⟩ 0 false false 0 0 ⟨#[]⟩ 30
  have hz0 : w.heap.size < (w.alloc (.cells #[.string ⟨#[]⟩, .int .i64 0, .bool false, .bool false, .int .i64 0, .int .i64 0, .string ⟨#[]⟩] 30)).heap.size := by simp
  have hc0 := hc.keep (b0.mono hB)
  go_enter Try.func6, Try.ntmps6
  go_wp2_with fail
  generalize w.alloc (.cells #[.string ⟨#[]⟩, .int .i64 0, .bool false, .bool false, .int .i64 0, .int .i64 0, .string ⟨#[]⟩] 30) = w0 at *
  have H0 : Hid (IsCode B x len w0 ∧ Own7 w.heap.size ⟨#[]⟩ 0 false false 0 0 ⟨#[]⟩ w0 ∧ Below w.heap.size w w0) := ⟨hc0, hO, b0⟩
  clear hc0 hO b0 hc
  have hB0 : B ≤ w0.heap.size := by omega
  refine (l10_open B w0.heap.size x len cap w0 rfl hB0 hlc hcap H0.out.1).mono ?_
  rintro e w1 ⟨rfl, hr1, hb1⟩
  have H1 : Hid (Rd B w0.heap.size 0 w1 ∧ Own7 w.heap.size ⟨#[]⟩ 0 false false 0 0 ⟨#[]⟩ w1 ∧ Below w.heap.size w w1) := ⟨hr1, own7_next H0.out.2.1 hz0 hb1, H0.out.2.2.trans (hb1.mono (by omega))⟩
  have hz1 : w0.heap.size < w1.heap.size := hr1.2.1
  clear hr1 hb1 H0
  go_wp2_with fail
  refine (l2_names w1).mono ?_
  rintro e wA ⟨rfl, hwA⟩
  have bA : Below w1.heap.size w1 wA := by rw [hwA]; exact alloc_below _ _
  have hcA := row_strs w1 strs6 9
  rw [← hwA] at hcA
  have hzA : w1.heap.size < wA.heap.size := by rw [hwA]; simp
  have HA : Hid (Rd B w0.heap.size 0 wA ∧ Own7 w.heap.size ⟨#[]⟩ 0 false false 0 0 ⟨#[]⟩ wA ∧ Below w.heap.size w wA) := ⟨H1.out.1.keep bA, own7_next H1.out.2.1 (by omega) bA, H1.out.2.2.trans (bA.mono (by omega))⟩
  have HcA : Hid (∀ i, i < strs6.length → wA.cell? ⟨w1.heap.size, i, none⟩ = some (.string (strs6.getD i ByteArray.empty))) := hcA
  clear hwA bA hcA H1
  go_wp2_with fail
  refine (of_of_any B w0.heap.size 0 w1.heap.size strs6 wA HA.out.1 (by omega) (by omega) hzA (by decide) (by decide) HcA.out).mono ?_
  rintro e w2 ⟨nm, rfl, hnm, hr2, hu2⟩
  have hnm5 := strs6_le nm hnm
  have H2 : Hid (Rd B w0.heap.size (0 + 1) w2 ∧ Own7 w.heap.size ⟨#[]⟩ 0 false false 0 0 ⟨#[]⟩ w2 ∧ Below w.heap.size w w2) := ⟨hr2, own7_upd HA.out.2.1 (by omega) hu2 (by omega), HA.out.2.2.trans (hu2.below (by omega) (by omega))⟩
  have hz2 : wA.heap.size ≤ w2.heap.size := hu2.size
  clear hr2 hu2 HA HcA hnm
  go_wp2_with fail
  refine (l2_col B w0.heap.size (0 + 1) nm w2 H2.out.1 (by omega)).mono ?_
  rintro e w3 ⟨kd, nd, oc, k, n, s, q3, rfl, hs5, hq3, hr3, hu3⟩
  have b3 := alloc_below w3 (.cells #[.string nm, .int .i64 kd, .bool nd, .bool oc, .int .i64 k, .int .i64 n, .string s] 30)
  have hz3 : w2.heap.size ≤ w3.heap.size := hu3.size
  have hc3 := cols_one w3 ⟨nm, kd, nd, oc, k, n, s⟩ 30
  have H3 : Hid (Rd B w0.heap.size q3 (w3.alloc (.cells #[.string nm, .int .i64 kd, .bool nd, .bool oc, .int .i64 k, .int .i64 n, .string s] 30)) ∧ Own7 w.heap.size ⟨#[]⟩ 0 false false 0 0 ⟨#[]⟩ (w3.alloc (.cells #[.string nm, .int .i64 kd, .bool nd, .bool oc, .int .i64 k, .int .i64 n, .string s] 30)) ∧ ColsAt (w3.alloc (.cells #[.string nm, .int .i64 kd, .bool nd, .bool oc, .int .i64 k, .int .i64 n, .string s] 30)) (some ⟨w3.heap.size, 0, none⟩) [⟨nm, kd, nd, oc, k, n, s⟩] ∧ Below w.heap.size w (w3.alloc (.cells #[.string nm, .int .i64 kd, .bool nd, .bool oc, .int .i64 k, .int .i64 n, .string s] 30))) :=
    ⟨hr3.keep b3, own7_next (own7_upd H2.out.2.1 (by omega) hu3 (by omega)) (by omega) b3, hc3, (H2.out.2.2.trans (hu3.below (by omega) (by omega))).trans (b3.mono (by omega))⟩
  have hz4 : w3.heap.size < (w3.alloc (.cells #[.string nm, .int .i64 kd, .bool nd, .bool oc, .int .i64 k, .int .i64 n, .string s] 30)).heap.size := by simp
  have hs0 : ∀ c ∈ [(⟨nm, kd, nd, oc, k, n, s⟩ : ACol)], c.small := fun c hc => by rw [List.mem_singleton] at hc; subst hc; exact ⟨hnm5, hs5⟩
  clear hr3 hu3 H2 b3 hc3
  go_wp2_with fail
  generalize w3.alloc (.cells #[.string nm, .int .i64 kd, .bool nd, .bool oc, .int .i64 k, .int .i64 n, .string s] 30) = w4 at *
  refine (l2_bent B w0.heap.size q3 w3.heap.size 0 1 [⟨nm, kd, nd, oc, k, n, s⟩] w4 H3.out.1 (by omega) H3.out.2.2.1 (by simp) hs0).mono ?_
  rintro e w5 ⟨v, M5, q5, rfl, hO, hl5, hs5', hq5, hr5, hu5⟩
  obtain ⟨b5, cap5, rfl, hb5, hc5⟩ := hO.cols
  have hz5 : w4.heap.size ≤ w5.heap.size := hu5.size
  have H5 : Hid (ColsAt w5 (some ⟨b5, 0, none⟩) M5 ∧ Rd B w0.heap.size q5 w5 ∧ Own7 w.heap.size ⟨#[]⟩ 0 false false 0 0 ⟨#[]⟩ w5 ∧ Below w.heap.size w w5) := ⟨hc5, hr5, own7_upd H3.out.2.1 (by omega) hu5 (by omega), H3.out.2.2.2.trans (hu5.below (by omega) (by omega))⟩
  clear hO hc5 hr5 hu5 H3
  simp only [List.length_singleton] at hl5
  go_wp2_with fail
  refine (l2_bent B w0.heap.size q5 b5 0 cap5 M5 w5 H5.out.2.1 (by omega) H5.out.1 (by omega) hs5').mono ?_
  rintro e w6 ⟨v, M6, q6, rfl, hO, hl6, hs6, hq6, hr6, hu6⟩
  obtain ⟨b6, cap6, rfl, hb6, hc6⟩ := hO.cols
  have hz6 : w5.heap.size ≤ w6.heap.size := hu6.size
  have H6 : Hid (ColsAt w6 (some ⟨b6, 0, none⟩) M6 ∧ Rd B w0.heap.size q6 w6 ∧ Own7 w.heap.size ⟨#[]⟩ 0 false false 0 0 ⟨#[]⟩ w6 ∧ Below w.heap.size w w6) := ⟨hc6, hr6, own7_upd H5.out.2.2.1 (by omega) hu6 (by omega), H5.out.2.2.2.trans (hu6.below (by omega) (by omega))⟩
  clear hO hc6 hr6 hu6 H5
  go_wp2_with fail
  refine (l2_bent B w0.heap.size q6 b6 0 cap6 M6 w6 H6.out.2.1 (by omega) H6.out.1 (by omega) hs6).mono ?_
  rintro e w7 ⟨v, M7, q7, rfl, hO, hl7, hs7, hq7, hr7, hu7⟩
  obtain ⟨b7, cap7, rfl, hb7, hc7⟩ := hO.cols
  have hz7 : w6.heap.size ≤ w7.heap.size := hu7.size
  have hOwn := own7_upd H6.out.2.2.1 (by omega) hu7 (by omega)
  have H7 : Hid (Below w.heap.size w w7) := H6.out.2.2.2.trans (hu7.below (by omega) (by omega))
  clear hO hr7 hu7 H6
  cases M7 with
  | nil =>
    go_wp2_with fail
    refine bodyPost_ret (v := .agg #[.string ⟨#[]⟩, .int .i64 0, .bool false, .bool false, .int .i64 0, .int .i64 0, .string ⟨#[]⟩]) (by simp [results, Try.results6, go_sem, hOwn]) rfl ⟨⟨⟨#[]⟩, 0, false, false, 0, 0, ⟨#[]⟩⟩, rfl, ⟨by decide, by decide⟩, ?_⟩
    repeat' (first | refine Below.setCell ?_ (by simp) _ | exact H7.out)
  | cons c M =>
    have hcc := cells7_of ((hc7.at (k := 0) (by simp)).elim fun b' h => h.elim fun o' h => by obtain ⟨e, _, hr⟩ := h; cases e; exact hr)
    simp only [Nat.zero_mul, Nat.add_zero, List.getElem_cons_zero] at hcc
    go_wp2_with fail
    refine bodyPost_ret (v := .agg #[.string c.nm, .int .i64 c.kd, .bool c.nd, .bool c.oc, .int .i64 c.k, .int .i64 c.n, .string c.s]) (by simp [results, Try.results6, go_sem, hOwn]) rfl ⟨c, rfl, hs7 c (List.mem_cons_self ..), ?_⟩
    repeat' (first | refine Below.setCell ?_ (by simp) _ | exact H7.out)

end Go.Proofs.Ytgigikmdipjffaa
