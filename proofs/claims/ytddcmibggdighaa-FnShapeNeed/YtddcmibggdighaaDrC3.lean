/- Columns, one in ten bent: the contract of spec.l2Bent, over the seat's translation. -/
import Derived.Test.YtddcmibggdighaaDrC2
import Derived.Laws.OwnMore
namespace Go.Proofs.Ytddcmibggdighaa
open Go.RowKit

theorem flat_len (L : List ACol) : (L.flatMap ACol.cells).length = L.length * 7 := by
  induction L with
  | nil => rfl
  | cons c L ih =>
    have : c.cells.length = 7 := rfl
    rw [List.flatMap_cons, List.length_append, ih, List.length_cons]
    omega
theorem flat_one (L : List ACol) : ∀ u ∈ L.flatMap ACol.cells, u.oneCell' = true := by
  intro u hu
  obtain ⟨c, _, hc⟩ := List.mem_flatMap.1 hu
  exact cells_one c u hc
theorem flat_get (L : List ACol) (j : Nat) (u : Value) (h : (L.flatMap ACol.cells)[j]? = some u) : ∃ c, L[j / 7]? = some c ∧ c.cells[j % 7]? = some u := by
  induction L generalizing j with
  | nil => simp at h
  | cons d L ih =>
    have hl : d.cells.length = 7 := rfl
    rw [List.flatMap_cons] at h
    by_cases hj : j < 7
    · rw [List.getElem?_append_left (by omega)] at h
      exact ⟨d, by rw [Nat.div_eq_of_lt hj]; rfl, by rw [Nat.mod_eq_of_lt hj]; exact h⟩
    · rw [List.getElem?_append_right (by omega), hl] at h
      obtain ⟨c, h1, h2⟩ := ih (j - 7) h
      refine ⟨c, ?_, ?_⟩
      · rw [show j / 7 = (j - 7) / 7 + 1 by omega, List.getElem?_cons_succ]; exact h1
      · rw [show j % 7 = (j - 7) % 7 by omega]; exact h2
theorem flat_cells {W : World} {b o : Nat} {L : List ACol} (h : ColsAt W (some ⟨b, o, none⟩) L) : ∀ j u, (L.flatMap ACol.cells)[j]? = some u → W.cell? ((⟨b, o, none⟩ : Addr).add j) = some u := by
  intro j u hu
  obtain ⟨c, h1, h2⟩ := flat_get L j u hu
  rcases h with h | ⟨b', o', e, _, hr⟩
  · subst h; simp at h1
  · cases e
    have := hr _ c h1 _ u h2
    rw [Addr.add_mid]
    rwa [show o + j / 7 * 7 + j % 7 = o + j by omega] at this

theorem copy_head {B g p : Nat} {w W w1 : World} {L : List ACol} {v0 v' : Value} (hr : Rd B g p W) (hu : Upd g w W) (hown0 : W.ownsRow w.heap.size 31 7 v0 0 []) (hn0 : v0 ≠ .slice none 0 0)
    (hown1 : w1.ownsRow w.heap.size 31 7 v' (0 + L.length) ([] ++ L.flatMap ACol.cells)) (hgrow : W.grownBy w1 v0.ownBlock) (hnil : v' = .slice none 0 0 ↔ v0 = .slice none 0 0 ∧ L.length = 0) (hg : g < w.heap.size) (hBw : B ≤ w.heap.size) :
    ∃ b1 cap1, v' = .slice (some ⟨b1, 0, none⟩) L.length cap1 ∧ w.heap.size ≤ b1 ∧ Hid (OwnCols w.heap.size (.slice (some ⟨b1, 0, none⟩) L.length cap1) L w1 ∧ Rd B g p w1 ∧ Upd g w w1) := by
  have hne1 : v' ≠ .slice none 0 0 := fun e => hn0 (hnil.1 e).1
  have hO1 : OwnCols w.heap.size v' L w1 := ⟨by rw [Nat.zero_add, List.nil_append] at hown1; exact hown1, hne1⟩
  have hR1 := grown_rd hr hu hgrow (fun k hk => (World.ownsRow.lt hown0 k hk).1) hg hBw (Nat.le_refl _)
  obtain ⟨b1, cap1, rfl, hb1, _⟩ := hO1.cols
  exact ⟨b1, cap1, rfl, hb1, hO1, hR1.1, hR1.2⟩

theorem flat_set (L : List ACol) (k j : Nat) (c d : ACol) (u : Value) (hc : L[k]? = some c) (hd : d.cells = c.cells.set j u) (hj : j < 7) : (L.flatMap ACol.cells).set (k * 7 + j) u = (L.set k d).flatMap ACol.cells := by
  induction L generalizing k with
  | nil => simp at hc
  | cons e L ih =>
    have hl : e.cells.length = 7 := rfl
    rw [List.flatMap_cons]
    cases k with
    | zero =>
      simp at hc
      subst hc
      rw [Nat.zero_mul, Nat.zero_add, List.set_append_left _ _ (by omega), List.set_cons_zero, List.flatMap_cons, hd]
    | succ k =>
      rw [List.set_append_right _ _ (by omega), hl, List.set_cons_succ, List.flatMap_cons, show (k + 1) * 7 + j - 7 = k * 7 + j by omega, ih k (by simpa using hc)]

/-- The copy lies in W, the reader beside it, and W lies over w. -/
def Bent (B g base b1 cap1 q : Nat) (w : World) (L : List ACol) (W : World) : Prop := OwnCols base (.slice (some ⟨b1, 0, none⟩) L.length cap1) L W ∧ Rd B g q W ∧ Upd g w W
theorem Bent.upd {B g base b1 cap1 q q' : Nat} {w : World} {L : List ACol} {W W' : World} (h : Bent B g base b1 cap1 q w L W) (hg : g < base) (hr : Rd B g q' W') (hu : Upd g W W') : Bent B g base b1 cap1 q' w L W' := ⟨h.1.upd hu hg, hr, h.2.2.trans hu⟩
theorem Bent.alloc {B g base b1 cap1 q : Nat} {w : World} {L : List ACol} {W : World} (h : Bent B g base b1 cap1 q w L W) (hg : g < base) (x : Obj) : Bent B g base b1 cap1 q w L (W.alloc x) :=
  ⟨h.1.upd (Upd.ofBelow (alloc_below _ _)) hg, h.2.1.keep (alloc_below _ _), h.2.2.trans (Upd.ofBelow (alloc_below _ _))⟩
theorem Bent.set {B g base b1 cap1 q : Nat} {w : World} {L : List ACol} {W : World} (h : Bent B g base b1 cap1 q w L W) (hg : g < base) (hB : B ≤ base) (hw : w.heap.size ≤ base) (hb1 : base ≤ b1) {k j : Nat} {c d : ACol} {u : Value} (hc : L[k]? = some c) (hd : d.cells = c.cells.set j u) (hj : j < 7) :
    Bent B g base b1 cap1 q w (L.set k d) (W.setCell ⟨b1, k * 7 + j, none⟩ u) := by
  obtain ⟨ho, hr, hu⟩ := h
  have hs := World.ownsRow.stored ho.1 (k * 7 + j) u
  rw [flat_set L k j c d u hc hd hj] at hs
  refine ⟨⟨by rw [List.length_set]; exact hs.1, by simp⟩, hr.other (upd_of_grown hs.2) (by omega) (by omega), hu.other (upd_of_grown hs.2) (by omega)⟩
theorem Bent.cells {B g base b1 cap1 q : Nat} {w : World} {L : List ACol} {W : World} (h : Bent B g base b1 cap1 q w L W) {k : Nat} {c : ACol} (hc : L[k]? = some c) : Cells7 W b1 (k * 7) c := by
  obtain ⟨hk, rfl⟩ := List.getElem?_eq_some_iff.1 hc
  obtain ⟨b', o', e, _, hr⟩ := h.1.at.at hk
  cases e
  rw [Nat.zero_add] at hr
  exact cells7_of hr
theorem Bent.soft {B g base b1 cap1 q : Nat} {w : World} {L : List ACol} {W : World} (h : Bent B g base b1 cap1 q w L W) (j : Nat) : W.frozen? ⟨b1, j, none⟩ = false := World.ownsRow.frozenAt h.1.1 j
theorem small_set {L : List ACol} (h : ∀ c ∈ L, c.small) (k : Nat) {d : ACol} (hd : d.small) : ∀ c ∈ L.set k d, c.small := fun c hc => by
  rcases List.mem_or_eq_of_mem_set hc with hc | rfl
  · exact h c hc
  · exact hd

theorem Bent.fin {B g base b1 cap1 q k : Nat} {d : ACol} {w : World} {L : List ACol} {W : World} (h : Bent B g base b1 cap1 q w (L.set k d) W) : OwnCols base (.slice (some ⟨b1, 0, none⟩) L.length cap1) (L.set k d) W := by
  have := h.1
  rw [List.length_set] at this
  exact this
def strs4b : List ByteArray := [⟨#[]⟩, ⟨#[65]⟩, ⟨#[97, 98, 99, 100]⟩, ⟨#[97]⟩]
theorem strs4b_le (s : ByteArray) (h : s ∈ strs4b) : s.size ≤ 5 ∧ s.data.toList ≠ [110, 101, 119] := by
  simp [strs4b] at h
  rcases h with rfl | rfl | rfl | rfl <;> decide
def ints4b : List Int := [0, 3, 1, 2]

set_option maxRecDepth 100000 in
set_option maxHeartbeats 2000000 in
theorem l2_bent (B g p b o cap : Nat) (L : List ACol) (w : World) (hr : Rd B g p w) (hp : p < 700000) (hL : ColsAt w (some ⟨b, o, none⟩) L) (hl : L.length ≤ 60) (hs : ∀ c ∈ L, c.small) :
    Calls Try.prog 12 #[.pointer (some ⟨g, 0, none⟩), .slice (some ⟨b, o, none⟩) L.length cap] w fun e w' => ∃ (v : Value) (M : List ACol) (q : Nat), e = .returned v ∧ OwnCols w.heap.size v M w' ∧ M.length ≤ L.length + 1 ∧ (∀ c ∈ M, c.small) ∧ q ≤ p + 8 ∧ Rd B g q w' ∧ Upd g w w' := by
  have hg : g < w.heap.size := hr.2.1
  have hBw : B ≤ w.heap.size := by have := hr.1; omega
  have b0 := alloc_below w (.cells #[] 31)
  have hown0 : (w.alloc (.cells #[] 31)).ownsRow w.heap.size 31 7 (.slice (some ⟨w.heap.size, 0, none⟩) 0 0) 0 [] := World.ownsRow_made w #[] 0 (Nat.le_refl _) (Nat.zero_le _) rfl
  have hb0 : w.heap.size ≤ (w.alloc (.cells #[] 31)).heap.size := by simp
  have hnews : ∀ j u, (L.flatMap ACol.cells)[j]? = some u → (w.alloc (.cells #[] 31)).cell? ((⟨b, o, none⟩ : Addr).add j) = some u := flat_cells (hL.keep b0)
  obtain ⟨i0, hi, hz, hsz, hby⟩ := Try.info31
  have hby0 : (0 + L.length) * i0.bytes ≤ 140737488355328 := by
    have : (0 + L.length) * i0.bytes ≤ 60 * 128 := Nat.mul_le_mul (by omega) hby
    omega
  have HH : Hid (Rd B g p (w.alloc (.cells #[] 31)) ∧ Upd g w (w.alloc (.cells #[] 31))) := ⟨hr.keep b0, Upd.ofBelow b0⟩
  clear b0 hr
  by_cases hl0 : L.length = 0
  · have hl0' : ((L.length : Int) == 0) = true := by rw [hl0]; rfl
    clear hl0
    go_enter Try.func12, Try.ntmps12
    go_wp2_with (at_builtin; refine wpList_append_own_at _ rfl _ _ 23 rfl w.heap.size 31 i0 _ 7 i0.bytes Try.underlying23 hi hz hsz rfl rfl (by decide) _ 0 [] rfl hown0 ⟨b, o, none⟩ L.length cap (L.flatMap ACol.cells) rfl (flat_len L) hnews (flat_one L) (by unfold maxLen; omega) hby0 hb0 ?_; intro v' w1 hown1 hgrow hnil hloc; obtain ⟨b1, cap1, rfl, hb1, H1⟩ := copy_head HH.out.1 HH.out.2 hown0 (by simp) hown1 hgrow hnil hg hBw; clear hown1 hgrow hnil hloc HH hown0 hb0 hnews hby0 hi hz hsz hby)
    go_ret
    exact ⟨_, L, p, rfl, H1.out.1, by omega, hs, by omega, H1.out.2.1, H1.out.2.2⟩
  · have hl0' : ((L.length : Int) == 0) = false := beq_eq_false_iff_ne.2 (by omega)
    go_enter Try.func12, Try.ntmps12
    go_wp2_with (at_builtin; refine wpList_append_own_at _ rfl _ _ 23 rfl w.heap.size 31 i0 _ 7 i0.bytes Try.underlying23 hi hz hsz rfl rfl (by decide) _ 0 [] rfl hown0 ⟨b, o, none⟩ L.length cap (L.flatMap ACol.cells) rfl (flat_len L) hnews (flat_one L) (by unfold maxLen; omega) hby0 hb0 ?_; intro v' w1 hown1 hgrow hnil hloc; obtain ⟨b1, cap1, rfl, hb1, H1⟩ := copy_head HH.out.1 HH.out.2 hown0 (by simp) hown1 hgrow hnil hg hBw; clear hown1 hgrow hnil hloc HH hown0 hb0 hnews hby0 hi hz hsz hby)
    have HB : Hid (Bent B g w.heap.size b1 cap1 p w L w1) := H1
    clear H1
    refine (pick_any B g p _ _ HB.out.2.1 (by omega) (by omega) (by omega)).mono ?_
    rintro e w2 ⟨k, rfl, hk, hr2, hu2⟩
    have H2 : Hid (Bent B g w.heap.size b1 cap1 (p + 1) w L w2) := HB.out.upd hg hr2 hu2
    clear hr2 hu2 HB
    have hkl : k < L.length := by omega
    go_wp2_with fail
    refine (pick_any B g (p + 1) _ _ H2.out.2.1 (by omega) (by omega) (by omega)).mono ?_
    rintro e w3 ⟨t, rfl, ht, hr3, hu3⟩
    have H3 : Hid (Bent B g w.heap.size b1 cap1 (p + 1 + 1) w L w3) := H2.out.upd hg hr3 hu3
    clear hr3 hu3 H2
    have hc := List.getElem?_eq_getElem hkl
    have hcs := hs _ (List.getElem_mem hkl)
    have hcell := H3.out.cells hc
    have hfz := H3.out.soft
    revert hc hcs hcell
    generalize L[k] = c
    intro hc hcs hcell
    have hC : Hid (L[k]? = some c) := hc
    clear hc
    by_cases t0 : t = 0
    · subst t0
      go_wp2_with fail
      have Ha := H3.out.alloc hg (.cells (strs4b.map Value.string).toArray 9)
      refine (of_of_any B g (p + 1 + 1) w3.heap.size strs4b _ Ha.2.1 (by omega) (by have := H3.out.2.1.2.1; omega) (by simp) (by decide) (by decide) (row_strs w3 strs4b 9)).mono ?_
      rintro e w4 ⟨s, rfl, hss, hr4, hu4⟩
      have H4 : Hid (Bent B g w.heap.size b1 cap1 (p + 1 + 1 + 1) w L w4) := Ha.upd hg hr4 hu4
      clear hr4 hu4 Ha hcell hfz H3
      have hcell := H4.out.cells hC.out
      have hfz := H4.out.soft
      go_wp2_with fail
      go_ret
      have hF := H4.out.set hg hBw (Nat.le_refl _) hb1 (k := k) (j := 0) (d := { c with nm := s }) (u := .string s) hC.out rfl (by decide)
      exact ⟨_, L.set k { c with nm := s }, _, rfl, hF.fin, by rw [List.length_set]; omega, small_set hs k ⟨strs4b_le s hss, hcs.2⟩, by omega, hF.2.1, hF.2.2⟩
    by_cases t1 : t = 1
    · subst t1
      go_wp2_with fail
      have Ha := H3.out.alloc hg (.cells (ints4b.map (Value.int .i64)).toArray 3)
      refine (num_of_any B g (p + 1 + 1) w3.heap.size ints4b _ Ha.2.1 (by omega) (by have := H3.out.2.1.2.1; omega) (by simp) (by decide) (by decide) (row_ints w3 ints4b 3)).mono ?_
      rintro e w4 ⟨z, rfl, _, hr4, hu4⟩
      have H4 : Hid (Bent B g w.heap.size b1 cap1 (p + 1 + 1 + 1) w L w4) := Ha.upd hg hr4 hu4
      clear hr4 hu4 Ha hcell hfz H3
      have hcell := H4.out.cells hC.out
      have hfz := H4.out.soft
      go_wp2_with fail
      go_ret
      have hF := H4.out.set hg hBw (Nat.le_refl _) hb1 (k := k) (j := 1) (d := { c with kd := z }) (u := .int .i64 z) hC.out rfl (by decide)
      exact ⟨_, L.set k { c with kd := z }, _, rfl, hF.fin, by rw [List.length_set]; omega, small_set hs k hcs, by omega, hF.2.1, hF.2.2⟩
    by_cases t2 : t = 2
    · subst t2
      go_wp2_with fail
      refine (l1_draw B g (p + 1 + 1) _ H3.out.2.1 (by omega)).mono ?_
      rintro e w4 ⟨vk, vn, vs, q4, rfl, hvs, hq4, hr4, hu4⟩
      have H4 : Hid (Bent B g w.heap.size b1 cap1 q4 w L w4) := H3.out.upd hg hr4 hu4
      clear hr4 hu4 hcell hfz H3
      have hcell := H4.out.cells hC.out
      have hfz := H4.out.soft
      go_wp2_with fail
      go_ret
      have hF1 := H4.out.set hg hBw (Nat.le_refl _) hb1 (k := k) (j := 4) (d := { c with k := vk }) (u := .int .i64 vk) hC.out rfl (by decide)
      have hF2 := hF1.set hg hBw (Nat.le_refl _) hb1 (k := k) (j := 5) (c := { c with k := vk }) (d := { c with k := vk, n := vn }) (u := .int .i64 vn) (by rw [List.getElem?_set_self hkl]) rfl (by decide)
      have hF3 := hF2.set hg hBw (Nat.le_refl _) hb1 (k := k) (j := 6) (c := { c with k := vk, n := vn }) (d := { c with k := vk, n := vn, s := vs }) (u := .string vs) (by rw [List.getElem?_set_self (by rw [List.length_set]; exact hkl)]) rfl (by decide)
      rw [List.set_set, List.set_set] at hF3
      exact ⟨_, L.set k { c with k := vk, n := vn, s := vs }, _, rfl, hF3.fin, by rw [List.length_set]; omega, small_set hs k ⟨hcs.1, hvs⟩, by omega, hF3.2.1, hF3.2.2⟩
    by_cases t3 : t = 3
    · subst t3
      have Ha : Hid (Bent B g w.heap.size b1 cap1 (p + 1 + 1) w L (w3.alloc (.cells #[.string c.nm, .int .i64 c.kd, .bool c.nd, .bool c.oc, .int .i64 c.k, .int .i64 c.n, .string c.s] 31))) := H3.out.alloc hg _
      have hown6 := Ha.out.1.1
      have hb6 : w.heap.size ≤ (w3.alloc (.cells #[.string c.nm, .int .i64 c.kd, .bool c.nd, .bool c.oc, .int .i64 c.k, .int .i64 c.n, .string c.s] 31)).heap.size := Ha.out.2.2.size
      have hnews := new_cells w3 c 31
      obtain ⟨i1, hi, hz, hsz, hby⟩ := Try.info31
      have hby6 : (L.length + 1) * i1.bytes ≤ 140737488355328 := by
        have : (L.length + 1) * i1.bytes ≤ 61 * 128 := Nat.mul_le_mul (by omega) hby
        omega
      go_wp2_with (at_builtin; refine wpList_append_own_at _ rfl _ _ 23 rfl w.heap.size 31 i1 _ 7 i1.bytes Try.underlying23 hi hz hsz rfl rfl (by decide) _ L.length (L.flatMap ACol.cells) rfl hown6 ⟨w3.heap.size, 0, none⟩ 1 1 c.cells rfl rfl hnews (cells_one _) (by unfold maxLen; omega) hby6 hb6 ?_; intro v' w7 hown7 hgrow hnil hloc)
      have hR7 := grown_rd Ha.out.2.1 Ha.out.2.2 hgrow (own_row (L := L) Ha.out.1) hg hBw (Nat.le_refl _)
      go_ret
      exact ⟨_, L ++ [c], _, rfl, own_snoc hown7 (fun e => by have := (hnil.1 e).2; omega), by simp, fun d hd => by
        rcases List.mem_append.1 hd with h | h
        · exact hs d h
        · rw [List.mem_singleton] at h; subst h; exact hcs, by omega, hR7.1, hR7.2⟩
    by_cases t4 : t = 4
    · subst t4
      go_wp2_with fail
      go_ret
      have Ha := H3.out.alloc hg (.cells #[] 31)
      exact ⟨_, [], _, rfl, ⟨World.ownsRow_made w3 #[] 0 (by have := H3.out.2.2.size; omega) (Nat.zero_le _) rfl, by simp⟩, by simp, fun c hc => by simp at hc, by omega, Ha.2.1, Ha.2.2⟩
    by_cases t5 : t = 5
    · subst t5
      go_wp2_with fail
      go_ret
      have hF := H3.out.set hg hBw (Nat.le_refl _) hb1 (k := k) (j := 3) (d := { c with oc := !c.oc }) (u := .bool (!c.oc)) hC.out rfl (by decide)
      exact ⟨_, L.set k { c with oc := !c.oc }, _, rfl, hF.fin, by rw [List.length_set]; omega, small_set hs k hcs, by omega, hF.2.1, hF.2.2⟩
    · have u0 : ((t : Int) == 0) = false := beq_eq_false_iff_ne.2 (by omega)
      have u1 : ((t : Int) == 1) = false := beq_eq_false_iff_ne.2 (by omega)
      have u2 : ((t : Int) == 2) = false := beq_eq_false_iff_ne.2 (by omega)
      have u3 : ((t : Int) == 3) = false := beq_eq_false_iff_ne.2 (by omega)
      have u4 : ((t : Int) == 4) = false := beq_eq_false_iff_ne.2 (by omega)
      have u5 : ((t : Int) == 5) = false := beq_eq_false_iff_ne.2 (by omega)
      clear t0 t1 t2 t3 t4 t5
      go_wp2_with fail
      go_ret
      exact ⟨_, L, _, rfl, H3.out.1, by omega, hs, by omega, H3.out.2.1, H3.out.2.2⟩

end Go.Proofs.Ytddcmibggdighaa
