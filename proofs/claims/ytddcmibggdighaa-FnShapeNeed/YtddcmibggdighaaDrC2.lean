/- The draw of columns, over the seat's translation. -/
import Derived.Test.YtddcmibggdighaaDrC1
import Derived.Test.YtddcmibggdighaaShS3
import Derived.Maps.AppendAt
import Derived.OwnWalk
namespace Go.Proofs.Ytddcmibggdighaa
open Go.RowKit

/-- v is a slice of the columns L, in memory from block 'base' on. -/
def OwnCols (base : Nat) (v : Value) (L : List ACol) (W : World) : Prop := W.ownsRow base 31 7 v L.length (L.flatMap ACol.cells) ∧ v ≠ .slice none 0 0
/-- Short, and not of the name that the laws give to a column of their own. -/
def ACol.small (c : ACol) : Prop := (c.nm.size ≤ 5 ∧ c.nm.data.toList ≠ [110, 101, 119]) ∧ c.s.size ≤ 5

theorem grown_of_upd {g : Nat} {W W' : World} (h : Upd g W W') : W.grownBy W' (some g) := ⟨h.os, h.tape, h.output, h.size, fun k hk hne => h.block k hk (fun e => hne (by rw [e]))⟩
theorem upd_of_grown {g : Nat} {W W' : World} (h : W.grownBy W' (some g)) : Upd g W W' := ⟨h.os, h.tape, h.output, h.size, fun k hk hne => h.block k hk (fun e => hne (by cases e; rfl))⟩

theorem flat_at (L : List ACol) (i j : Nat) (c : ACol) (v : Value) (hc : L[i]? = some c) (hv : c.cells[j]? = some v) : (L.flatMap ACol.cells)[i * 7 + j]? = some v := by
  induction L generalizing i with
  | nil => simp at hc
  | cons d L ih =>
    have hl : d.cells.length = 7 := rfl
    rw [List.flatMap_cons]
    cases i with
    | zero =>
      simp at hc
      subst hc
      have hj : j < d.cells.length := (List.getElem?_eq_some_iff.1 hv).1
      rw [Nat.zero_mul, Nat.zero_add, List.getElem?_append_left hj]
      exact hv
    | succ i =>
      rw [List.getElem?_append_right (by omega), hl, show (i + 1) * 7 + j - 7 = i * 7 + j by omega]
      exact ih i (by simpa using hc)

theorem OwnCols.cols {base : Nat} {v : Value} {L : List ACol} {W : World} (h : OwnCols base v L W) : ∃ b cap, v = .slice (some ⟨b, 0, none⟩) L.length cap ∧ base ≤ b ∧ ColsAt W (some ⟨b, 0, none⟩) L := by
  obtain ⟨⟨hl, h⟩, hn⟩ := h
  have hown : W.ownsRow base 31 7 v L.length (L.flatMap ACol.cells) := ⟨hl, h⟩
  rcases h with ⟨rfl, h0⟩ | ⟨b, cap, cur, rfl, hb, hblk, _⟩
  · exact absurd rfl hn
  · refine ⟨b, cap, rfl, hb, Or.inr ⟨b, 0, rfl, ?_, fun i c hc j u hu => ?_⟩⟩
    · exact (Array.getElem?_eq_some_iff.1 hblk).1
    · have := hown.cells (g := b) rfl (i * 7 + j) u (flat_at L i j c u hc hu)
      rw [Addr.add_mid, Nat.zero_add] at this
      rw [Nat.zero_add]
      exact this

theorem OwnCols.upd {base g : Nat} {v : Value} {L : List ACol} {W W' : World} (h : OwnCols base v L W) (hu : Upd g W W') (hg : g < base) : OwnCols base v L W' := by
  refine ⟨World.ownsRow.kept h.1 (grown_of_upd hu) ?_, h.2⟩
  cases hv : v.ownBlock with
  | none => exact Or.inl rfl
  | some k =>
    right
    have := (World.ownsRow.lt h.1 k hv).1
    intro e
    cases e
    omega

theorem OwnCols.at {base n cap : Nat} {a : Option Addr} {L : List ACol} {W : World} (h : OwnCols base (.slice a n cap) L W) : ColsAt W a L := by
  obtain ⟨b', cap', e, _, hc⟩ := h.cols
  cases e
  exact hc

theorem grown_rd {B g q base : Nat} {w W W' : World} {row : Option Nat} (hr : Rd B g q W) (hu : Upd g w W) (hg : W.grownBy W' row) (hrow : ∀ k, row = some k → base ≤ k) (hgb : g < base) (hB : B ≤ base) (hw : w.heap.size ≤ base) : Rd B g q W' ∧ Upd g w W' := by
  cases row with
  | none =>
    have hb : Below W.heap.size W W' := ⟨hg.os, hg.tape, hg.output, hg.size, fun k hk => hg.block k hk (by simp)⟩
    exact ⟨hr.keep hb, hu.trans (Upd.ofBelow hb)⟩
  | some k =>
    have hk := hrow k rfl
    exact ⟨hr.other (upd_of_grown hg) (by omega) (by omega), hu.other (upd_of_grown hg) (by omega)⟩
theorem own_row {base : Nat} {v : Value} {L : List ACol} {W : World} (h : OwnCols base v L W) : ∀ k, v.ownBlock = some k → base ≤ k := fun k hk => (World.ownsRow.lt h.1 k hk).1
theorem new_cells (w : World) (c : ACol) (t : TypeId) : ∀ j u, c.cells[j]? = some u → (w.alloc (.cells #[.string c.nm, .int .i64 c.kd, .bool c.nd, .bool c.oc, .int .i64 c.k, .int .i64 c.n, .string c.s] t)).cell? ((⟨w.heap.size, 0, none⟩ : Addr).add j) = some u := by
  intro j u hu
  rw [Addr.add_mid, World.cell?_alloc_mark w _ t (0, 0) (0 + j), Nat.zero_add]
  show c.cells.toArray[j]? = some u
  rw [List.getElem?_toArray]
  exact hu
theorem cells_one (c : ACol) : ∀ u ∈ c.cells, u.oneCell' = true := by
  intro u hu
  simp [ACol.cells] at hu
  rcases hu with rfl | rfl | rfl | rfl | rfl | rfl | rfl <;> rfl
theorem own_snoc {base : Nat} {v : Value} {L : List ACol} {c : ACol} {W : World} (h : W.ownsRow base 31 7 v (L.length + 1) (L.flatMap ACol.cells ++ c.cells)) (hn : v ≠ .slice none 0 0) : OwnCols base v (L ++ [c]) W := by
  unfold OwnCols
  rw [List.flatMap_append, List.length_append]
  exact ⟨by simpa using h, hn⟩

set_option maxRecDepth 100000 in
set_option maxHeartbeats 2000000 in
theorem l2_shape (B g p : Nat) (w : World) (hr : Rd B g p w) (hp : p < 700000) :
    Calls Try.prog 10 #[.pointer (some ⟨g, 0, none⟩)] w fun e w' => ∃ (v : Value) (L : List ACol) (q : Nat), e = .returned v ∧ OwnCols w.heap.size v L w' ∧ L.length ≤ 4 ∧ (∀ c ∈ L, c.small) ∧ q ≤ p + 25 ∧ Rd B g q w' ∧ Upd g w w' := by
  have hg : g < w.heap.size := hr.2.1
  have hBw : B ≤ w.heap.size := by have := hr.1; omega
  have b0 := alloc_below w (.cells #[] 31)
  have Hr : Hid (Rd B g p (w.alloc (.cells #[] 31))) := hr.keep b0
  have HO : Hid (OwnCols w.heap.size (.slice (some ⟨w.heap.size, 0, none⟩) 0 0) [] (w.alloc (.cells #[] 31))) := ⟨World.ownsRow_made w #[] 0 (Nat.le_refl _) (Nat.zero_le _) rfl, by simp⟩
  have Hu : Hid (Upd g w (w.alloc (.cells #[] 31))) := Upd.ofBelow b0
  clear hr b0
  go_enter Try.func10, Try.ntmps10
  go_wp2_with fail
  refine (pick_any B g p _ _ Hr.out (by omega) (by omega) (by omega)).mono ?_
  rintro e w1 ⟨v1, rfl, hv1, hr1, hu1⟩
  have HI : Hid (OwnCols w.heap.size (.slice (some ⟨w.heap.size, 0, none⟩) 0 0) [] w1 ∧ Rd B g (p + 1) w1 ∧ Upd g w w1) := ⟨HO.out.upd hu1 hg, hr1, Hu.out.trans hu1⟩
  clear hr1 hu1 Hr HO Hu
  go_wp2_with fail
  go_loopw [3, 4] (fun out i wr => ∃ (m : Nat) (L : List ACol) (q : Nat), m ≤ 4 ∧ i = .int .i64 m ∧ L.length + m ≤ 4 ∧ q + 6 * m ≤ p + 25 ∧ Hid (OwnCols w.heap.size out L wr ∧ (∀ c ∈ L, c.small) ∧ Rd B g q wr ∧ Upd g w wr)) (fun _ i _ => (intOf i).toNat)
  case atStart => exact ⟨1 + v1, [], p + 1, by omega, by go_num, by simp; omega, by omega, ⟨HI.out.1, fun c hc => by simp at hc, HI.out.2.1, HI.out.2.2⟩⟩
  case round =>
    obtain ⟨m, L, q, hm4, rfl, hLm, hqm, hH⟩ := hrel
    clear HI
    by_cases hm : 0 < m
    · have hm' : (0 : Int) < m := by omega
      obtain ⟨b00, cap0, rfl, hb00, hcols⟩ := hH.out.1.cols
      generalize (some (⟨b00, 0, none⟩ : Addr)) = a0 at *
      have hgr : g < wr.heap.size := hH.out.2.2.1.2.1
      have HS : Hid (OwnCols w.heap.size (.slice a0 L.length cap0) L wr ∧ (∀ c ∈ L, c.small) ∧ Rd B g q wr ∧ Upd g w wr) := hH
      clear hcols hH
      go_wp2_with fail
      refine (l2_names wr).mono ?_
      rintro e wA ⟨rfl, hwA⟩
      have bA : Below wr.heap.size wr wA := by rw [hwA]; exact alloc_below _ _
      have hcA := row_strs wr strs6 9
      rw [← hwA] at hcA
      have hzA : wr.heap.size < wA.heap.size := by rw [hwA]; simp
      have HA : Hid (OwnCols w.heap.size (.slice a0 L.length cap0) L wA ∧ (∀ c ∈ L, c.small) ∧ Rd B g q wA ∧ Upd g w wA) := ⟨HS.out.1.upd (Upd.ofBelow bA) hg, HS.out.2.1, HS.out.2.2.1.keep bA, HS.out.2.2.2.trans (Upd.ofBelow bA)⟩
      have HcA : Hid (∀ i, i < strs6.length → wA.cell? ⟨wr.heap.size, i, none⟩ = some (.string (strs6.getD i ByteArray.empty))) := hcA
      clear hwA bA hcA HS
      go_wp2_with fail
      refine (of_of_any B g q wr.heap.size strs6 wA HA.out.2.2.1 (by omega) (by omega) hzA (by decide) (by decide) HcA.out).mono ?_
      rintro e w2 ⟨nm, rfl, hnm, hr2, hu2⟩
      have hnm5 := strs6_le nm hnm
      have H2 : Hid (OwnCols w.heap.size (.slice a0 L.length cap0) L w2 ∧ (∀ c ∈ L, c.small) ∧ Rd B g (q + 1) w2 ∧ Upd g w w2) := ⟨HA.out.1.upd hu2 hg, HA.out.2.1, hr2, HA.out.2.2.2.trans hu2⟩
      clear hr2 hu2 HA HcA hnm
      go_wp2_with fail
      refine (l2_col B g (q + 1) nm w2 H2.out.2.2.1 (by omega)).mono ?_
      rintro e w3 ⟨kd, nd, oc, k, n, s, q3, rfl, hs5, hq3, hr3, hu3⟩
      have b3 := alloc_below w3 (.cells #[.string nm, .int .i64 kd, .bool nd, .bool oc, .int .i64 k, .int .i64 n, .string s] 31)
      have H3 : Hid (OwnCols w.heap.size (.slice a0 L.length cap0) L (w3.alloc (.cells #[.string nm, .int .i64 kd, .bool nd, .bool oc, .int .i64 k, .int .i64 n, .string s] 31)) ∧ (∀ c ∈ L, c.small) ∧ Rd B g q3 (w3.alloc (.cells #[.string nm, .int .i64 kd, .bool nd, .bool oc, .int .i64 k, .int .i64 n, .string s] 31)) ∧ Upd g w (w3.alloc (.cells #[.string nm, .int .i64 kd, .bool nd, .bool oc, .int .i64 k, .int .i64 n, .string s] 31))) :=
        ⟨(H2.out.1.upd hu3 hg).upd (Upd.ofBelow b3) hg, H2.out.2.1, hr3.keep b3, (H2.out.2.2.2.trans hu3).trans (Upd.ofBelow b3)⟩
      have hbox := own7_box w3 nm kd nd oc k n s 31
      have hz4 : w3.heap.size < (w3.alloc (.cells #[.string nm, .int .i64 kd, .bool nd, .bool oc, .int .i64 k, .int .i64 n, .string s] 31)).heap.size := by simp
      clear hr3 hu3 H2 b3
      go_wp2_with fail
      generalize w3.alloc (.cells #[.string nm, .int .i64 kd, .bool nd, .bool oc, .int .i64 k, .int .i64 n, .string s] 31) = w4 at *
      refine (l2_at _ _ _ _ _ H3.out.1.at (by unfold maxLen; omega)).mono ?_
      rintro e w5 ⟨rfl, rfl⟩
      cases hpl : decide (placeOf L nm < 0)
      · go_wp2_with fail
        go_roundw
        case rel => exact ⟨m - 1, L, q3, by omega, by go_num, by omega, by omega, H3⟩
        case measure => simp [intOf]; omega
      · have b6 := alloc_below w5 (.cells #[.string nm, .int .i64 kd, .bool nd, .bool oc, .int .i64 k, .int .i64 n, .string s] 31)
        have hown6 : (w5.alloc (.cells #[.string nm, .int .i64 kd, .bool nd, .bool oc, .int .i64 k, .int .i64 n, .string s] 31)).ownsRow w.heap.size 31 7 (.slice a0 L.length cap0) L.length (L.flatMap ACol.cells) := (H3.out.1.upd (Upd.ofBelow b6) hg).1
        have hb6 : w.heap.size ≤ (w5.alloc (.cells #[.string nm, .int .i64 kd, .bool nd, .bool oc, .int .i64 k, .int .i64 n, .string s] 31)).heap.size := by have := H3.out.2.2.2.size; simp; omega
        have hnews := new_cells w5 ⟨nm, kd, nd, oc, k, n, s⟩ 31
        obtain ⟨i0, hi, hz, hsz, hby⟩ := Try.info31
        have hby6 : (L.length + 1) * i0.bytes ≤ 140737488355328 := by
          have : (L.length + 1) * i0.bytes ≤ 5 * 128 := Nat.mul_le_mul (by omega) hby
          omega
        have HH : Hid (Rd B g q3 (w5.alloc (.cells #[.string nm, .int .i64 kd, .bool nd, .bool oc, .int .i64 k, .int .i64 n, .string s] 31)) ∧ Upd g w (w5.alloc (.cells #[.string nm, .int .i64 kd, .bool nd, .bool oc, .int .i64 k, .int .i64 n, .string s] 31))) := ⟨H3.out.2.2.1.keep b6, H3.out.2.2.2.trans (Upd.ofBelow b6)⟩
        clear b6
        go_wp2_with (at_builtin; refine wpList_append_own_at _ rfl _ _ 23 rfl w.heap.size 31 i0 _ 7 i0.bytes Try.underlying23 hi hz hsz rfl rfl (by decide) _ L.length (L.flatMap ACol.cells) rfl hown6 ⟨w5.heap.size, 0, none⟩ 1 1 (ACol.cells ⟨nm, kd, nd, oc, k, n, s⟩) rfl rfl hnews (cells_one _) (by unfold maxLen; omega) hby6 hb6 ?_; intro v' w7 hown7 hgrow hnil hloc)
        have hR7 := grown_rd HH.out.1 HH.out.2 hgrow (own_row (L := L) ⟨hown6, H3.out.1.2⟩) hg hBw (Nat.le_refl _)
        have HF : Hid (OwnCols w.heap.size v' (L ++ [⟨nm, kd, nd, oc, k, n, s⟩]) w7 ∧ (∀ c ∈ L ++ [⟨nm, kd, nd, oc, k, n, s⟩], c.small) ∧ Rd B g q3 w7 ∧ Upd g w w7) :=
          ⟨own_snoc hown7 (fun e => by have := (hnil.1 e).2; omega), fun c hc => by
            rcases List.mem_append.1 hc with h | h
            · exact H3.out.2.1 c h
            · rw [List.mem_singleton] at h; subst h; exact ⟨hnm5, hs5⟩, hR7.1, hR7.2⟩
        clear hown7 hgrow hnil hloc hR7 HH hown6 hb6 hnews hi hz hsz hby hby6 H3 hbox
        go_wp2_with fail
        go_roundw
        case rel => exact ⟨m - 1, _, q3, by omega, by go_num, by simp; omega, by omega, HF⟩
        case measure => simp [intOf]; omega
    · have hm0 : m = 0 := by omega
      subst hm0
      go_wp2_with fail
      go_ret
      exact ⟨_, L, q, rfl, hH.out.1, by omega, hH.out.2.1, by omega, hH.out.2.2.1, hH.out.2.2.2⟩

end Go.Proofs.Ytddcmibggdighaa
