/- The contract of spec.l7Cond, over the seat's translation. -/
import Derived.Test.YtedlfdneepachaaCi0
namespace Go.Proofs.Ytedlfdneepachaa
open Go.RowKit

def ints3 : List Int := [0, 4, -1]
theorem Upd.set5 {b : Nat} (W : World) (x0 x1 x2 x3 x4 : Value) : Upd b W (((((W.setCell ⟨b, 0, none⟩ x0).setCell ⟨b, 1, none⟩ x1).setCell ⟨b, 2, none⟩ x2).setCell ⟨b, 3, none⟩ x3).setCell ⟨b, 4, none⟩ x4) :=
  ((((Upd.set W 0 x0).trans (Upd.set _ 1 x1)).trans (Upd.set _ 2 x2)).trans (Upd.set _ 3 x3)).trans (Upd.set _ 4 x4)

set_option maxRecDepth 100000 in
set_option maxHeartbeats 4000000 in
theorem l7_cond (B g p b o cap : Nat) (L : List ACol) (w : World) (hr : Rd B g p w) (hp : p < 600000) (hL : ColsAt w (some ⟨b, o, none⟩) L) (hbg : b ≠ g) (hbw : b < w.heap.size) (hl : L.length ≤ 60) (hs : ∀ c ∈ L, c.small) :
    Calls Try.prog 14 #[.pointer (some ⟨g, 0, none⟩), .slice (some ⟨b, o, none⟩) L.length cap] w fun e w' => ∃ (nm : ByteArray) (how k n : Int) (s : ByteArray) (q : Nat), e = .returned (.agg #[.string nm, .int .i64 how, .int .i64 k, .int .i64 n, .string s]) ∧ nm.size ≤ 5 ∧ s.size ≤ 5 ∧ q ≤ p + 20 ∧ Rd B g q w' ∧ Upd g w w' := by
  have hg : g < w.heap.size := hr.2.1
  have hBg : B ≤ g := hr.1
  have b0 := alloc_below w (.cells #[.string ⟨#[]⟩, .int .i64 0, .int .i64 0, .int .i64 0, .string ⟨#[]⟩] 27)
  have H0 : Hid (Rd B g p (w.alloc (.cells #[.string ⟨#[]⟩, .int .i64 0, .int .i64 0, .int .i64 0, .string ⟨#[]⟩] 27)) ∧ Upd g w (w.alloc (.cells #[.string ⟨#[]⟩, .int .i64 0, .int .i64 0, .int .i64 0, .string ⟨#[]⟩] 27)) ∧ OwnC w.heap.size ⟨#[]⟩ 0 0 0 ⟨#[]⟩ (w.alloc (.cells #[.string ⟨#[]⟩, .int .i64 0, .int .i64 0, .int .i64 0, .string ⟨#[]⟩] 27))) := ⟨hr.keep b0, Upd.ofBelow b0, ownc_box _ _ _ _ _ _ _⟩
  have HL : Hid (ColsAt w (some ⟨b, o, none⟩) L) := hL
  clear hr b0 hL
  have cN : Calls Try.prog 28 #[] (w.alloc (.cells #[.string ⟨#[]⟩, .int .i64 0, .int .i64 0, .int .i64 0, .string ⟨#[]⟩] 27)) fun e wA => e = .returned (.slice (some ⟨w.heap.size + 1, 0, none⟩) strs6.length strs6.length) ∧ Hid (Rd B g p wA ∧ Upd g w wA ∧ OwnC w.heap.size ⟨#[]⟩ 0 0 0 ⟨#[]⟩ wA ∧ (∀ i, i < strs6.length → wA.cell? ⟨w.heap.size + 1, i, none⟩ = some (.string (strs6.getD i ByteArray.empty))) ∧ w.heap.size + 2 = wA.heap.size) := by
    refine (l2_names _).mono ?_
    rintro e wA ⟨rfl, rfl⟩
    have bA := alloc_below (w.alloc (.cells #[.string ⟨#[]⟩, .int .i64 0, .int .i64 0, .int .i64 0, .string ⟨#[]⟩] 27)) (.cells (strs6.map Value.string).toArray 9)
    refine ⟨by rw [size_alloc], H0.out.1.keep bA, H0.out.2.1.trans (Upd.ofBelow bA), ownc_upd H0.out.2.2 (by rw [size_alloc]; omega) (Upd.ofBelow (g := w.heap.size + 1) bA) (by omega), ?_, by rw [size_alloc, size_alloc]⟩
    have := row_strs (w.alloc (.cells #[.string ⟨#[]⟩, .int .i64 0, .int .i64 0, .int .i64 0, .string ⟨#[]⟩] 27)) strs6 9
    rw [size_alloc] at this
    exact this
  clear H0
  go_enter Try.func14, Try.ntmps14
  go_wp2_with fail
  refine cN.mono ?_
  rintro e wA ⟨rfl, HA⟩
  clear cN
  go_wp2_with fail
  refine (of_of_any B g p (w.heap.size + 1) strs6 wA HA.out.1 (by omega) (by omega) (by have := HA.out.2.2.2.2; omega) (by decide) (by decide) HA.out.2.2.2.1).mono ?_
  rintro e w1 ⟨nm, rfl, hnm, hr1, hu1⟩
  have hnm5 : nm.size ≤ 5 := (strs6_le nm hnm).1
  have H1 : Hid (Rd B g (p + 1) w1 ∧ Upd g w w1 ∧ OwnC w.heap.size ⟨#[]⟩ 0 0 0 ⟨#[]⟩ w1) := ⟨hr1, HA.out.2.1.trans hu1, ownc_upd HA.out.2.2.1 (by have := HA.out.2.2.2.2; omega) hu1 (by omega)⟩
  have hz1 : w.heap.size < w1.heap.size := by have := hu1.size; have := HA.out.2.2.2.2; omega
  clear hr1 hu1 HA hnm
  go_wp2_with fail
  refine (pick_any B g (p + 1) _ _ H1.out.1 (by omega) (by omega) (by omega)).mono ?_
  rintro e w2 ⟨v1, rfl, hv1, hr2, hu2⟩
  have H2 : Hid (Rd B g (p + 1 + 1) w2 ∧ Upd g w w2 ∧ OwnC w.heap.size ⟨#[]⟩ 0 0 0 ⟨#[]⟩ w2) := ⟨hr2, H1.out.2.1.trans hu2, ownc_upd H1.out.2.2 (by omega) hu2 (by omega)⟩
  have hz2 : w.heap.size < w2.heap.size := by have := hu2.size; omega
  clear hr2 hu2 H1
  have b3 := alloc_below w2 (.cells #[.string nm, .int .i64 (1 + v1), .int .i64 0, .int .i64 0, .string ⟨#[]⟩] 27)
  have H3 : Hid (SC B g w2.heap.size (p + 1 + 1) b o w L nm (1 + v1) 0 0 ⟨#[]⟩ (w2.alloc (.cells #[.string nm, .int .i64 (1 + v1), .int .i64 0, .int .i64 0, .string ⟨#[]⟩] 27))) := by
    have h1 : Upd g w (w2.alloc (.cells #[.string nm, .int .i64 (1 + v1), .int .i64 0, .int .i64 0, .string ⟨#[]⟩] 27)) := H2.out.2.1.trans (Upd.ofBelow b3)
    exact ⟨H2.out.1.keep b3, h1, ownc_upd H2.out.2.2 (by omega) (Upd.ofBelow (g := w2.heap.size + 1) b3) (by omega), ownc_box _ _ _ _ _ _ _, HL.out.upd h1 hbg, hz2, by rw [size_alloc]; omega, hg, hbw, hbg, hBg, hnm5, by decide⟩
  clear H2 HL b3
  by_cases hl0 : L.length = 0
  · go_wp2_with fail
    generalize w2.heap.size = b5 at *
    refine (pick_any B g _ _ _ H3.out.rd (by omega) (by omega) (by omega)).mono ?_
    rintro e wt ⟨v40, rfl, hv40, hrt, hut⟩
    have HT : Hid (SC B g b5 _ b o w L nm (1 + v1) 0 0 ⟨#[]⟩ wt) := H3.out.upd hrt hut
    clear hrt hut H3
    by_cases h40 : v40 = 0
    · subst h40
      go_wp2_with fail
      have bq := alloc_below wt (.cells (ints3.map (Value.int .i64)).toArray 3)
      have hgw := HT.out.lt2
      refine (num_of_any B g _ wt.heap.size ints3 _ (HT.out.rd.keep bq) (by omega) (by omega) (by simp) (by decide) (by decide) (row_ints wt ints3 3)).mono ?_
      rintro e wu ⟨hw, rfl, _, hru, huu⟩
      have HU : Hid (SC B g b5 _ b o w L nm (1 + v1) 0 0 ⟨#[]⟩ wu) := (HT.out.keep bq).upd hru huu
      clear hru huu HT bq
      have HZ : Hid (SC B g b5 _ b o w L nm hw 0 0 ⟨#[]⟩ (wu.setCell ⟨b5, 1, none⟩ (.int .i64 hw))) := HU.out.how hw
      have hbx := HU.out.box
      have hrs := HU.out.res
      have hlt := HU.out.lt
      have hne1 : b5 ≠ w.heap.size := by omega
      have hne2 : w.heap.size ≠ b5 := by omega
      go_wp2_with fail
      refine bodyPost_ret (v := .agg #[.string nm, .int .i64 hw, .int .i64 0, .int .i64 0, .string ⟨#[]⟩]) (by simp [results, Try.results14, go_sem, hrs]) rfl ⟨_, _, _, _, _, _, rfl, ?_, ?_, ?_, HZ.out.rd.other (Upd.set5 _ _ _ _ _ _) (by omega) (by omega), HZ.out.up.other (Upd.set5 _ _ _ _ _ _) (Nat.le_refl _)⟩
      · exact HZ.out.nms
      · exact HZ.out.ss
      · omega
    by_cases h41 : v40 = 1
    · subst h41
      go_wp2_with fail
      refine (l1_draw B g _ _ HT.out.rd (by omega)).mono ?_
      rintro e wu ⟨k', n', s', q', rfl, hs', hq', hru, huu⟩
      have HU : Hid (SC B g b5 q' b o w L nm (1 + v1) 0 0 ⟨#[]⟩ wu) := HT.out.upd hru huu
      clear hru huu HT
      have HZ : Hid (SC B g b5 q' b o w L nm (1 + v1) k' n' s' (((wu.setCell ⟨b5, 2, none⟩ (.int .i64 k')).setCell ⟨b5, 3, none⟩ (.int .i64 n')).setCell ⟨b5, 4, none⟩ (.string s'))) := HU.out.val k' n' s' hs'
      have hbx := HU.out.box
      have hrs := HU.out.res
      have hlt := HU.out.lt
      have hne1 : b5 ≠ w.heap.size := by omega
      have hne2 : w.heap.size ≠ b5 := by omega
      go_wp2_with fail
      refine bodyPost_ret (v := .agg #[.string nm, .int .i64 (1 + v1), .int .i64 k', .int .i64 n', .string s']) (by simp [results, Try.results14, go_sem, hrs]) rfl ⟨_, _, _, _, _, _, rfl, ?_, ?_, ?_, HZ.out.rd.other (Upd.set5 _ _ _ _ _ _) (by omega) (by omega), HZ.out.up.other (Upd.set5 _ _ _ _ _ _) (Nat.le_refl _)⟩
      · exact HZ.out.nms
      · exact HZ.out.ss
      · omega
    · have e40 : ((v40 : Int) == 0) = false := by simp; omega
      have e41 : ((v40 : Int) == 1) = false := by simp; omega
      have HZ := HT
      have hbx := HT.out.box
      have hrs := HT.out.res
      have hlt := HT.out.lt
      have hne1 : b5 ≠ w.heap.size := by omega
      have hne2 : w.heap.size ≠ b5 := by omega
      go_wp2_with fail
      refine bodyPost_ret (v := .agg #[.string nm, .int .i64 (1 + v1), .int .i64 0, .int .i64 0, .string ⟨#[]⟩]) (by simp [results, Try.results14, go_sem, hrs]) rfl ⟨_, _, _, _, _, _, rfl, ?_, ?_, ?_, HZ.out.rd.other (Upd.set5 _ _ _ _ _ _) (by omega) (by omega), HZ.out.up.other (Upd.set5 _ _ _ _ _ _) (Nat.le_refl _)⟩
      · exact HZ.out.nms
      · exact HZ.out.ss
      · omega
  · go_wp2_with fail
    refine (pick_any B g _ _ _ H3.out.rd (by omega) (by omega) (by omega)).mono ?_
    rintro e w4 ⟨v2, rfl, hv2, hr4, hu4⟩
    have H4 : Hid (SC B g w2.heap.size (p + 1 + 1 + 1) b o w L nm (1 + v1) 0 0 ⟨#[]⟩ w4) := H3.out.upd hr4 hu4
    clear hr4 hu4 H3
    generalize w2.heap.size = b5 at *
    cases hv20 : decide ((0 : Int) < v2)
    · have hvz : v2 = 0 := by have := of_decide_eq_false hv20; omega
      subst hvz
      go_wp2_with fail
      refine (pick_any B g _ _ _ H4.out.rd (by omega) (by omega) (by omega)).mono ?_
      rintro e wt ⟨v40, rfl, hv40, hrt, hut⟩
      have HT : Hid (SC B g b5 _ b o w L nm (1 + v1) 0 0 ⟨#[]⟩ wt) := H4.out.upd hrt hut
      clear hrt hut H4
      by_cases h40 : v40 = 0
      · subst h40
        go_wp2_with fail
        have bq := alloc_below wt (.cells (ints3.map (Value.int .i64)).toArray 3)
        have hgw := HT.out.lt2
        refine (num_of_any B g _ wt.heap.size ints3 _ (HT.out.rd.keep bq) (by omega) (by omega) (by simp) (by decide) (by decide) (row_ints wt ints3 3)).mono ?_
        rintro e wu ⟨hw, rfl, _, hru, huu⟩
        have HU : Hid (SC B g b5 _ b o w L nm (1 + v1) 0 0 ⟨#[]⟩ wu) := (HT.out.keep bq).upd hru huu
        clear hru huu HT bq
        have HZ : Hid (SC B g b5 _ b o w L nm hw 0 0 ⟨#[]⟩ (wu.setCell ⟨b5, 1, none⟩ (.int .i64 hw))) := HU.out.how hw
        have hbx := HU.out.box
        have hrs := HU.out.res
        have hlt := HU.out.lt
        have hne1 : b5 ≠ w.heap.size := by omega
        have hne2 : w.heap.size ≠ b5 := by omega
        go_wp2_with fail
        refine bodyPost_ret (v := .agg #[.string nm, .int .i64 hw, .int .i64 0, .int .i64 0, .string ⟨#[]⟩]) (by simp [results, Try.results14, go_sem, hrs]) rfl ⟨_, _, _, _, _, _, rfl, ?_, ?_, ?_, HZ.out.rd.other (Upd.set5 _ _ _ _ _ _) (by omega) (by omega), HZ.out.up.other (Upd.set5 _ _ _ _ _ _) (Nat.le_refl _)⟩
        · exact HZ.out.nms
        · exact HZ.out.ss
        · omega
      by_cases h41 : v40 = 1
      · subst h41
        go_wp2_with fail
        refine (l1_draw B g _ _ HT.out.rd (by omega)).mono ?_
        rintro e wu ⟨k', n', s', q', rfl, hs', hq', hru, huu⟩
        have HU : Hid (SC B g b5 q' b o w L nm (1 + v1) 0 0 ⟨#[]⟩ wu) := HT.out.upd hru huu
        clear hru huu HT
        have HZ : Hid (SC B g b5 q' b o w L nm (1 + v1) k' n' s' (((wu.setCell ⟨b5, 2, none⟩ (.int .i64 k')).setCell ⟨b5, 3, none⟩ (.int .i64 n')).setCell ⟨b5, 4, none⟩ (.string s'))) := HU.out.val k' n' s' hs'
        have hbx := HU.out.box
        have hrs := HU.out.res
        have hlt := HU.out.lt
        have hne1 : b5 ≠ w.heap.size := by omega
        have hne2 : w.heap.size ≠ b5 := by omega
        go_wp2_with fail
        refine bodyPost_ret (v := .agg #[.string nm, .int .i64 (1 + v1), .int .i64 k', .int .i64 n', .string s']) (by simp [results, Try.results14, go_sem, hrs]) rfl ⟨_, _, _, _, _, _, rfl, ?_, ?_, ?_, HZ.out.rd.other (Upd.set5 _ _ _ _ _ _) (by omega) (by omega), HZ.out.up.other (Upd.set5 _ _ _ _ _ _) (Nat.le_refl _)⟩
        · exact HZ.out.nms
        · exact HZ.out.ss
        · omega
      · have e40 : ((v40 : Int) == 0) = false := by simp; omega
        have e41 : ((v40 : Int) == 1) = false := by simp; omega
        have HZ := HT
        have hbx := HT.out.box
        have hrs := HT.out.res
        have hlt := HT.out.lt
        have hne1 : b5 ≠ w.heap.size := by omega
        have hne2 : w.heap.size ≠ b5 := by omega
        go_wp2_with fail
        refine bodyPost_ret (v := .agg #[.string nm, .int .i64 (1 + v1), .int .i64 0, .int .i64 0, .string ⟨#[]⟩]) (by simp [results, Try.results14, go_sem, hrs]) rfl ⟨_, _, _, _, _, _, rfl, ?_, ?_, ?_, HZ.out.rd.other (Upd.set5 _ _ _ _ _ _) (by omega) (by omega), HZ.out.up.other (Upd.set5 _ _ _ _ _ _) (Nat.le_refl _)⟩
        · exact HZ.out.nms
        · exact HZ.out.ss
        · omega
    · have hvz : (0 : Int) < v2 := of_decide_eq_true hv20
      go_wp2_with fail
      refine (pick_any B g _ _ _ H4.out.rd (by omega) (by omega) (by omega)).mono ?_
      rintro e w5 ⟨v3, rfl, hv3, hr5, hu5⟩
      have hv3' : v3 < L.length := by omega
      have H5 : Hid (SC B g b5 (p + 1 + 1 + 1 + 1) b o w L nm (1 + v1) 0 0 ⟨#[]⟩ w5) := H4.out.upd hr5 hu5
      clear hr5 hu5 H4
      have hix : ∀ wx, (Instr.indexAt 23 (.slice (some ⟨b, o, none⟩) L.length cap) (.int .i64 v3)).run Try.prog wx = .ok (.pointer (some ⟨b, o + v3 * 7, none⟩)) wx := fun wx => run_ix _ _ _ _ _ _ _ wx hv3' Try.underlying23 (Try.sizeOf50 wx)
      obtain ⟨_, _, e1, _, hr1⟩ := H5.out.cols.at hv3'
      cases e1
      have hsm : L[v3].nm.size ≤ 5 := by
        have := hs _ (List.getElem_mem hv3')
        unfold ACol.small at this
        exact this.1.1
      have hcc := cells7_of hr1
      revert hcc hsm
      clear hr1
      generalize L[v3] = c
      intro hsm hcc
      have hbx := H5.out.box
      go_wp2_with fail
      have H6 : Hid (SC B g b5 (p + 1 + 1 + 1 + 1) b o w L c.nm (1 + v1) 0 0 ⟨#[]⟩ (w5.setCell ⟨b5, 0, none⟩ (.string c.nm))) := H5.out.name c.nm hsm
      refine (l1_some B g _ _ _ H6.out.rd (by omega)).mono ?_
      rintro e w7 ⟨k, n, s, q, rfl, hs5, hq, hr7, hu7⟩
      have H7 : Hid (SC B g b5 q b o w L c.nm (1 + v1) 0 0 ⟨#[]⟩ w7) := H6.out.upd hr7 hu7
      have H8 : Hid (SC B g b5 q b o w L c.nm (1 + v1) k n s (((w7.setCell ⟨b5, 2, none⟩ (.int .i64 k)).setCell ⟨b5, 3, none⟩ (.int .i64 n)).setCell ⟨b5, 4, none⟩ (.string s))) := H7.out.val k n s hs5
      clear hr7 hu7 H6 H5 hbx hcc hix
      have hbx := H7.out.box
      cases hk0 : (k == 0)
      · have hkz : ¬ k = 0 := by simpa using hk0
        go_wp2_with fail
        clear H7 hbx
        refine (pick_any B g _ _ _ H8.out.rd (by omega) (by omega) (by omega)).mono ?_
        rintro e wt ⟨v40, rfl, hv40, hrt, hut⟩
        have HT : Hid (SC B g b5 _ b o w L c.nm (1 + v1) k n s wt) := H8.out.upd hrt hut
        clear hrt hut H8
        by_cases h40 : v40 = 0
        · subst h40
          go_wp2_with fail
          have bq := alloc_below wt (.cells (ints3.map (Value.int .i64)).toArray 3)
          have hgw := HT.out.lt2
          refine (num_of_any B g _ wt.heap.size ints3 _ (HT.out.rd.keep bq) (by omega) (by omega) (by simp) (by decide) (by decide) (row_ints wt ints3 3)).mono ?_
          rintro e wu ⟨hw, rfl, _, hru, huu⟩
          have HU : Hid (SC B g b5 _ b o w L c.nm (1 + v1) k n s wu) := (HT.out.keep bq).upd hru huu
          clear hru huu HT bq
          have HZ : Hid (SC B g b5 _ b o w L c.nm hw k n s (wu.setCell ⟨b5, 1, none⟩ (.int .i64 hw))) := HU.out.how hw
          have hbx := HU.out.box
          have hrs := HU.out.res
          have hlt := HU.out.lt
          have hne1 : b5 ≠ w.heap.size := by omega
          have hne2 : w.heap.size ≠ b5 := by omega
          go_wp2_with fail
          refine bodyPost_ret (v := .agg #[.string c.nm, .int .i64 hw, .int .i64 k, .int .i64 n, .string s]) (by simp [results, Try.results14, go_sem, hrs]) rfl ⟨_, _, _, _, _, _, rfl, ?_, ?_, ?_, HZ.out.rd.other (Upd.set5 _ _ _ _ _ _) (by omega) (by omega), HZ.out.up.other (Upd.set5 _ _ _ _ _ _) (Nat.le_refl _)⟩
          · exact HZ.out.nms
          · exact HZ.out.ss
          · omega
        by_cases h41 : v40 = 1
        · subst h41
          go_wp2_with fail
          refine (l1_draw B g _ _ HT.out.rd (by omega)).mono ?_
          rintro e wu ⟨k', n', s', q', rfl, hs', hq', hru, huu⟩
          have HU : Hid (SC B g b5 q' b o w L c.nm (1 + v1) k n s wu) := HT.out.upd hru huu
          clear hru huu HT
          have HZ : Hid (SC B g b5 q' b o w L c.nm (1 + v1) k' n' s' (((wu.setCell ⟨b5, 2, none⟩ (.int .i64 k')).setCell ⟨b5, 3, none⟩ (.int .i64 n')).setCell ⟨b5, 4, none⟩ (.string s'))) := HU.out.val k' n' s' hs'
          have hbx := HU.out.box
          have hrs := HU.out.res
          have hlt := HU.out.lt
          have hne1 : b5 ≠ w.heap.size := by omega
          have hne2 : w.heap.size ≠ b5 := by omega
          go_wp2_with fail
          refine bodyPost_ret (v := .agg #[.string c.nm, .int .i64 (1 + v1), .int .i64 k', .int .i64 n', .string s']) (by simp [results, Try.results14, go_sem, hrs]) rfl ⟨_, _, _, _, _, _, rfl, ?_, ?_, ?_, HZ.out.rd.other (Upd.set5 _ _ _ _ _ _) (by omega) (by omega), HZ.out.up.other (Upd.set5 _ _ _ _ _ _) (Nat.le_refl _)⟩
          · exact HZ.out.nms
          · exact HZ.out.ss
          · omega
        · have e40 : ((v40 : Int) == 0) = false := by simp; omega
          have e41 : ((v40 : Int) == 1) = false := by simp; omega
          have HZ := HT
          have hbx := HT.out.box
          have hrs := HT.out.res
          have hlt := HT.out.lt
          have hne1 : b5 ≠ w.heap.size := by omega
          have hne2 : w.heap.size ≠ b5 := by omega
          go_wp2_with fail
          refine bodyPost_ret (v := .agg #[.string c.nm, .int .i64 (1 + v1), .int .i64 k, .int .i64 n, .string s]) (by simp [results, Try.results14, go_sem, hrs]) rfl ⟨_, _, _, _, _, _, rfl, ?_, ?_, ?_, HZ.out.rd.other (Upd.set5 _ _ _ _ _ _) (by omega) (by omega), HZ.out.up.other (Upd.set5 _ _ _ _ _ _) (Nat.le_refl _)⟩
          · exact HZ.out.nms
          · exact HZ.out.ss
          · omega
      · have hkz : k = 0 := by simpa using hk0
        subst hkz
        go_wp2_with fail
        clear H7 hbx
        refine (pick_any B g _ _ _ H8.out.rd (by omega) (by omega) (by omega)).mono ?_
        rintro e w9 ⟨v4, rfl, hv4, hr9, hu9⟩
        have H9 : Hid (SC B g b5 _ b o w L c.nm (1 + v1) 0 n s w9) := H8.out.upd hr9 hu9
        clear hr9 hu9 H8
        cases hv40 : decide ((0 : Int) < v4)
        · have hvz : v4 = 0 := by have := of_decide_eq_false hv40; omega
          subst hvz
          go_wp2_with fail
          refine (pick_any B g _ _ _ H9.out.rd (by omega) (by omega) (by omega)).mono ?_
          rintro e wt ⟨v40, rfl, hv40, hrt, hut⟩
          have HT : Hid (SC B g b5 _ b o w L c.nm (1 + v1) 0 n s wt) := H9.out.upd hrt hut
          clear hrt hut H9
          by_cases h40 : v40 = 0
          · subst h40
            go_wp2_with fail
            have bq := alloc_below wt (.cells (ints3.map (Value.int .i64)).toArray 3)
            have hgw := HT.out.lt2
            refine (num_of_any B g _ wt.heap.size ints3 _ (HT.out.rd.keep bq) (by omega) (by omega) (by simp) (by decide) (by decide) (row_ints wt ints3 3)).mono ?_
            rintro e wu ⟨hw, rfl, _, hru, huu⟩
            have HU : Hid (SC B g b5 _ b o w L c.nm (1 + v1) 0 n s wu) := (HT.out.keep bq).upd hru huu
            clear hru huu HT bq
            have HZ : Hid (SC B g b5 _ b o w L c.nm hw 0 n s (wu.setCell ⟨b5, 1, none⟩ (.int .i64 hw))) := HU.out.how hw
            have hbx := HU.out.box
            have hrs := HU.out.res
            have hlt := HU.out.lt
            have hne1 : b5 ≠ w.heap.size := by omega
            have hne2 : w.heap.size ≠ b5 := by omega
            go_wp2_with fail
            refine bodyPost_ret (v := .agg #[.string c.nm, .int .i64 hw, .int .i64 0, .int .i64 n, .string s]) (by simp [results, Try.results14, go_sem, hrs]) rfl ⟨_, _, _, _, _, _, rfl, ?_, ?_, ?_, HZ.out.rd.other (Upd.set5 _ _ _ _ _ _) (by omega) (by omega), HZ.out.up.other (Upd.set5 _ _ _ _ _ _) (Nat.le_refl _)⟩
            · exact HZ.out.nms
            · exact HZ.out.ss
            · omega
          by_cases h41 : v40 = 1
          · subst h41
            go_wp2_with fail
            refine (l1_draw B g _ _ HT.out.rd (by omega)).mono ?_
            rintro e wu ⟨k', n', s', q', rfl, hs', hq', hru, huu⟩
            have HU : Hid (SC B g b5 q' b o w L c.nm (1 + v1) 0 n s wu) := HT.out.upd hru huu
            clear hru huu HT
            have HZ : Hid (SC B g b5 q' b o w L c.nm (1 + v1) k' n' s' (((wu.setCell ⟨b5, 2, none⟩ (.int .i64 k')).setCell ⟨b5, 3, none⟩ (.int .i64 n')).setCell ⟨b5, 4, none⟩ (.string s'))) := HU.out.val k' n' s' hs'
            have hbx := HU.out.box
            have hrs := HU.out.res
            have hlt := HU.out.lt
            have hne1 : b5 ≠ w.heap.size := by omega
            have hne2 : w.heap.size ≠ b5 := by omega
            go_wp2_with fail
            refine bodyPost_ret (v := .agg #[.string c.nm, .int .i64 (1 + v1), .int .i64 k', .int .i64 n', .string s']) (by simp [results, Try.results14, go_sem, hrs]) rfl ⟨_, _, _, _, _, _, rfl, ?_, ?_, ?_, HZ.out.rd.other (Upd.set5 _ _ _ _ _ _) (by omega) (by omega), HZ.out.up.other (Upd.set5 _ _ _ _ _ _) (Nat.le_refl _)⟩
            · exact HZ.out.nms
            · exact HZ.out.ss
            · omega
          · have e40 : ((v40 : Int) == 0) = false := by simp; omega
            have e41 : ((v40 : Int) == 1) = false := by simp; omega
            have HZ := HT
            have hbx := HT.out.box
            have hrs := HT.out.res
            have hlt := HT.out.lt
            have hne1 : b5 ≠ w.heap.size := by omega
            have hne2 : w.heap.size ≠ b5 := by omega
            go_wp2_with fail
            refine bodyPost_ret (v := .agg #[.string c.nm, .int .i64 (1 + v1), .int .i64 0, .int .i64 n, .string s]) (by simp [results, Try.results14, go_sem, hrs]) rfl ⟨_, _, _, _, _, _, rfl, ?_, ?_, ?_, HZ.out.rd.other (Upd.set5 _ _ _ _ _ _) (by omega) (by omega), HZ.out.up.other (Upd.set5 _ _ _ _ _ _) (Nat.le_refl _)⟩
            · exact HZ.out.nms
            · exact HZ.out.ss
            · omega
        · have hvz : (0 : Int) < v4 := of_decide_eq_true hv40
          have hbx := H9.out.box
          have HA : Hid (SC B g b5 _ b o w L c.nm 1 0 n s (w9.setCell ⟨b5, 1, none⟩ (.int .i64 1))) := H9.out.how 1
          go_wp2_with fail
          clear hbx H9
          refine (pick_any B g _ _ _ HA.out.rd (by omega) (by omega) (by omega)).mono ?_
          rintro e wt ⟨v40, rfl, hv40, hrt, hut⟩
          have HT : Hid (SC B g b5 _ b o w L c.nm 1 0 n s wt) := HA.out.upd hrt hut
          clear hrt hut HA
          by_cases h40 : v40 = 0
          · subst h40
            go_wp2_with fail
            have bq := alloc_below wt (.cells (ints3.map (Value.int .i64)).toArray 3)
            have hgw := HT.out.lt2
            refine (num_of_any B g _ wt.heap.size ints3 _ (HT.out.rd.keep bq) (by omega) (by omega) (by simp) (by decide) (by decide) (row_ints wt ints3 3)).mono ?_
            rintro e wu ⟨hw, rfl, _, hru, huu⟩
            have HU : Hid (SC B g b5 _ b o w L c.nm 1 0 n s wu) := (HT.out.keep bq).upd hru huu
            clear hru huu HT bq
            have HZ : Hid (SC B g b5 _ b o w L c.nm hw 0 n s (wu.setCell ⟨b5, 1, none⟩ (.int .i64 hw))) := HU.out.how hw
            have hbx := HU.out.box
            have hrs := HU.out.res
            have hlt := HU.out.lt
            have hne1 : b5 ≠ w.heap.size := by omega
            have hne2 : w.heap.size ≠ b5 := by omega
            go_wp2_with fail
            refine bodyPost_ret (v := .agg #[.string c.nm, .int .i64 hw, .int .i64 0, .int .i64 n, .string s]) (by simp [results, Try.results14, go_sem, hrs]) rfl ⟨_, _, _, _, _, _, rfl, ?_, ?_, ?_, HZ.out.rd.other (Upd.set5 _ _ _ _ _ _) (by omega) (by omega), HZ.out.up.other (Upd.set5 _ _ _ _ _ _) (Nat.le_refl _)⟩
            · exact HZ.out.nms
            · exact HZ.out.ss
            · omega
          by_cases h41 : v40 = 1
          · subst h41
            go_wp2_with fail
            refine (l1_draw B g _ _ HT.out.rd (by omega)).mono ?_
            rintro e wu ⟨k', n', s', q', rfl, hs', hq', hru, huu⟩
            have HU : Hid (SC B g b5 q' b o w L c.nm 1 0 n s wu) := HT.out.upd hru huu
            clear hru huu HT
            have HZ : Hid (SC B g b5 q' b o w L c.nm 1 k' n' s' (((wu.setCell ⟨b5, 2, none⟩ (.int .i64 k')).setCell ⟨b5, 3, none⟩ (.int .i64 n')).setCell ⟨b5, 4, none⟩ (.string s'))) := HU.out.val k' n' s' hs'
            have hbx := HU.out.box
            have hrs := HU.out.res
            have hlt := HU.out.lt
            have hne1 : b5 ≠ w.heap.size := by omega
            have hne2 : w.heap.size ≠ b5 := by omega
            go_wp2_with fail
            refine bodyPost_ret (v := .agg #[.string c.nm, .int .i64 1, .int .i64 k', .int .i64 n', .string s']) (by simp [results, Try.results14, go_sem, hrs]) rfl ⟨_, _, _, _, _, _, rfl, ?_, ?_, ?_, HZ.out.rd.other (Upd.set5 _ _ _ _ _ _) (by omega) (by omega), HZ.out.up.other (Upd.set5 _ _ _ _ _ _) (Nat.le_refl _)⟩
            · exact HZ.out.nms
            · exact HZ.out.ss
            · omega
          · have e40 : ((v40 : Int) == 0) = false := by simp; omega
            have e41 : ((v40 : Int) == 1) = false := by simp; omega
            have HZ := HT
            have hbx := HT.out.box
            have hrs := HT.out.res
            have hlt := HT.out.lt
            have hne1 : b5 ≠ w.heap.size := by omega
            have hne2 : w.heap.size ≠ b5 := by omega
            go_wp2_with fail
            refine bodyPost_ret (v := .agg #[.string c.nm, .int .i64 1, .int .i64 0, .int .i64 n, .string s]) (by simp [results, Try.results14, go_sem, hrs]) rfl ⟨_, _, _, _, _, _, rfl, ?_, ?_, ?_, HZ.out.rd.other (Upd.set5 _ _ _ _ _ _) (by omega) (by omega), HZ.out.up.other (Upd.set5 _ _ _ _ _ _) (Nat.le_refl _)⟩
            · exact HZ.out.nms
            · exact HZ.out.ss
            · omega

end Go.Proofs.Ytedlfdneepachaa
