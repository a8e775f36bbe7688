/- The walk of laws.FnCond, over the seat's translation. -/
import Derived.Test.YtedlfdneepachaaCi3
namespace Go.Proofs.Ytedlfdneepachaa
open Go.RowKit

/-- A condition in its box, columns and values lie in W, and W lies over w. -/
structure QC (w : World) (b5 : Nat) (a b : Option Addr) (L : List ACol) (V : List AVal) (nm : ByteArray) (how k n : Int) (s : ByteArray) (W : World) : Prop where
  c0 : W.cell? ⟨b5, 0, none⟩ = some (.string nm)
  c1 : W.cell? ⟨b5, 1, none⟩ = some (.int .i64 how)
  c2 : W.cell? ⟨b5, 2, none⟩ = some (.int .i64 k)
  c3 : W.cell? ⟨b5, 3, none⟩ = some (.int .i64 n)
  c4 : W.cell? ⟨b5, 4, none⟩ = some (.string s)
  lt : b5 < W.heap.size
  cols : ColsAt W a L
  vals : ValsAt W b V
  bl : Below w.heap.size w W
theorem QC.keep {w : World} {b5 : Nat} {a b : Option Addr} {L : List ACol} {V : List AVal} {nm : ByteArray} {how k n : Int} {s : ByteArray} {W W' : World} (h : QC w b5 a b L V nm how k n s W) (hb : Below W.heap.size W W') : QC w b5 a b L V nm how k n s W' := by
  have hc := fun o => (bcell hb).1 b5 o h.lt
  have hz := hb.size
  exact ⟨by rw [hc]; exact h.c0, by rw [hc]; exact h.c1, by rw [hc]; exact h.c2, by rw [hc]; exact h.c3, by rw [hc]; exact h.c4, by have := h.lt; omega, h.cols.keep hb, h.vals.keep hb, h.bl.trans (hb.mono h.bl.size)⟩
theorem QC.drew {w : World} {b5 : Nat} {a b : Option Addr} {L : List ACol} {V : List AVal} {nm : ByteArray} {how k n : Int} {s : ByteArray} {W : World} (h : QC w b5 a b L V nm how k n s W) : QC w b5 a b L V nm how k n s W.drew := h.keep (Below.refl _ _).drew
theorem small_fit {L : List ACol} (h : ∀ c ∈ L, c.small) : ∀ c ∈ L, c.fit := fun c hc => by
  have := h c hc
  unfold ACol.small at this
  unfold ACol.fit maxLen
  omega
theorem smallv_fit {V : List AVal} (h : ∀ v ∈ V, v.small) : ∀ v ∈ V, v.fit := fun v hv => by
  have := h v hv
  unfold AVal.small at this
  unfold AVal.fit maxLen
  omega

set_option maxRecDepth 100000 in
set_option maxHeartbeats 4000000 in
theorem law_fncond (x : Option Addr) (len cap : Nat) (w : World) (hlc : len ≤ cap) (hcap : cap ≤ maxLen) (hc : IsCode w.heap.size x len w) :
    Calls Try.prog 3 #[.slice x len cap] w fun e w' => e = .returned (.bool true) ∧ Below w.heap.size w w' := by
  have hcap' : cap ≤ 9223372036854775807 := hcap
  by_cases hlen : (1048576 : Int) < len
  · go_enter Try.func3, Try.ntmps3
    go_wp2_with fail
    go_ret
    exact ⟨rfl, Below.refl _ _⟩
  go_enter Try.func3, Try.ntmps3
  go_wp2_with fail
  refine (draw_has x len cap _ hlc hcap hc).mono ?_
  rintro e w1 ⟨bs, cs, bv, ov, cv, L, V, nm, how, k, n, s, rfl, hL, hV, hl6, hv11, hsm, hsv, hnm, hss, hb⟩
  have hf := small_fit hsm
  have hg := smallv_fit hsv
  have hnm2 : nm.size ≤ maxLen := by unfold maxLen; omega
  have hks : s.size ≤ maxLen := by unfold maxLen; omega
  have hm : L.length ≤ maxLen := by unfold maxLen; omega
  have hm2 : V.length ≤ maxLen := by unfold maxLen; omega
  have b1 : Below w1.heap.size w1 (w1.alloc (.cells #[.string nm, .int .i64 how, .int .i64 k, .int .i64 n, .string s] 27)) := (Below.refl _ _).alloc (Nat.le_refl _) _
  have hQ : QC w w1.heap.size (some ⟨bs, 0, none⟩) (some ⟨bv, ov, none⟩) L V nm how k n s (w1.alloc (.cells #[.string nm, .int .i64 how, .int .i64 k, .int .i64 n, .string s] 27)) := by
    refine ⟨?_, ?_, ?_, ?_, ?_, by simp, hL.keep b1, hV.keep b1, hb.trans (b1.mono hb.size)⟩
    all_goals go_simp
  clear hL hV hb b1 hc hsm hsv
  go_wp2_with fail
  refine (impl_has _ _ _ _ _ _ _ _ _ _ _ _ hQ.cols hQ.vals hf hm hm2 hks hnm2).mono ?_
  rintro e w2 ⟨rfl, hb⟩
  have hQ2 : Hid (QC w w1.heap.size (some ⟨bs, 0, none⟩) (some ⟨bv, ov, none⟩) L V nm how k n s w2) := hQ.keep hb
  clear hQ hb
  generalize w1.heap.size = b5 at *
  have inh : Nonempty (Over (QC w b5 (some ⟨bs, 0, none⟩) (some ⟨bv, ov, none⟩) L V nm how k n s)) := ⟨⟨_, hQ2.out⟩⟩
  have g0 : ∀ p : Over (QC w b5 (some ⟨bs, 0, none⟩) (some ⟨bv, ov, none⟩) L V nm how k n s), p.W.cell? ⟨b5, 0, none⟩ = some (.string nm) := fun p => p.ok.c0
  have g1 : ∀ p : Over (QC w b5 (some ⟨bs, 0, none⟩) (some ⟨bv, ov, none⟩) L V nm how k n s), p.W.cell? ⟨b5, 1, none⟩ = some (.int .i64 how) := fun p => p.ok.c1
  have g2 : ∀ p : Over (QC w b5 (some ⟨bs, 0, none⟩) (some ⟨bv, ov, none⟩) L V nm how k n s), p.W.cell? ⟨b5, 2, none⟩ = some (.int .i64 k) := fun p => p.ok.c2
  have g3 : ∀ p : Over (QC w b5 (some ⟨bs, 0, none⟩) (some ⟨bv, ov, none⟩) L V nm how k n s), p.W.cell? ⟨b5, 3, none⟩ = some (.int .i64 n) := fun p => p.ok.c3
  have g4 : ∀ p : Over (QC w b5 (some ⟨bs, 0, none⟩) (some ⟨bv, ov, none⟩) L V nm how k n s), p.W.cell? ⟨b5, 4, none⟩ = some (.string s) := fun p => p.ok.c4
  have hSH : ∀ p : Over (QC w b5 (some ⟨bs, 0, none⟩) (some ⟨bv, ov, none⟩) L V nm how k n s), Calls Try.prog 6 #[.slice (some ⟨bs, 0, none⟩) L.length cs, .agg #[.string nm, .int .i64 how, .int .i64 k, .int .i64 n, .string s], .slice (some ⟨bv, ov, none⟩) V.length cv] p.W fun e w' => e = .returned (.bool (condHas L nm how k n s V)) ∧ Below p.W.heap.size p.W w' := fun p => spec_has _ _ _ _ _ _ _ _ _ _ _ _ p.ok.cols p.ok.vals hf hm hm2 hks
  have hIO : ∀ p : Over (QC w b5 (some ⟨bs, 0, none⟩) (some ⟨bv, ov, none⟩) L V nm how k n s), Calls Try.prog 7 #[.slice (some ⟨bs, 0, none⟩) L.length cs, .agg #[.string nm, .int .i64 how, .int .i64 k, .int .i64 n, .string s]] p.W fun e w' => e = .returned (.bool (condOk L nm how k n s)) ∧ Below p.W.heap.size p.W w' := fun p => impl_cond _ _ _ _ _ _ _ _ _ p.ok.cols hf hm hks hnm2
  have hSO : ∀ p : Over (QC w b5 (some ⟨bs, 0, none⟩) (some ⟨bv, ov, none⟩) L V nm how k n s), Calls Try.prog 8 #[.slice (some ⟨bs, 0, none⟩) L.length cs, .agg #[.string nm, .int .i64 how, .int .i64 k, .int .i64 n, .string s]] p.W fun e w' => e = .returned (.bool (condOk L nm how k n s)) ∧ Below p.W.heap.size p.W w' := fun p => spec_cond _ _ _ _ _ _ _ _ _ p.ok.cols hf hm hks
  have hRW : ∀ p : Over (QC w b5 (some ⟨bs, 0, none⟩) (some ⟨bv, ov, none⟩) L V nm how k n s), Calls Try.prog 9 #[.slice (some ⟨bs, 0, none⟩) L.length cs, .slice (some ⟨bv, ov, none⟩) V.length cv] p.W fun e w' => e = .returned (.bool (rowOk L V)) ∧ Below p.W.heap.size p.W w' := fun p => spec_row _ _ _ _ _ _ _ p.ok.cols p.ok.vals hf hg hm hm2
  have hcx : condHas L nm how k n s V = true → condOk L nm how k n s = true := fun h => by
    unfold condHas at h
    rw [Bool.and_eq_true] at h
    exact h.1
  cases hx : condHas L nm how k n s V
  · rw [hx] at hSH
    cases hok : condOk L nm how k n s
    · rw [hok] at hIO hSO
      go_wp2_with fail
      refine wp_region_over (S := QC w b5 (some ⟨bs, 0, none⟩) (some ⟨bv, ov, none⟩) L V nm how k n s) (by kernel_rfl) (by kernel_rfl) hQ2.out.drew ?_
      repeat (go_big_quiet_step (first | exact over_call (hSH _) (fun _ h => QC.keep (Over.ok _) h) | exact over_call (hIO _) (fun _ h => QC.keep (Over.ok _) h) | exact over_call (hSO _) (fun _ h => QC.keep (Over.ok _) h)))
      refine wpQuiet_nil ?_
      rintro wqH3 ⟨pp, hp⟩
      have H3 : Hid (QC w b5 (some ⟨bs, 0, none⟩) (some ⟨bv, ov, none⟩) L V nm how k n s wqH3) := by
        have hZ := pp.ok
        rw [← hp] at hZ
        exact hZ
      clear hp pp hQ2
      clear g0 g1 g2 g3 g4 inh hSH hIO hSO hRW
      have z0 := H3.out.c0
      have z1 := H3.out.c1
      have z2 := H3.out.c2
      have z3 := H3.out.c3
      have z4 := H3.out.c4
      go_wp2_with fail
      refine (spec_row _ _ _ _ _ _ _ H3.out.cols H3.out.vals hf hg hm hm2).mono ?_
      rintro e w4 ⟨rfl, hb⟩
      have H4 : Hid (QC w b5 (some ⟨bs, 0, none⟩) (some ⟨bv, ov, none⟩) L V nm how k n s w4) := H3.out.keep hb
      clear hb H3 z0 z1 z2 z3 z4
      have z0 := H4.out.c0
      have z1 := H4.out.c1
      have z2 := H4.out.c2
      have z3 := H4.out.c3
      have z4 := H4.out.c4
      cases hrw : rowOk L V
      · go_wp2_with fail
        go_ret
        exact ⟨rfl, H4.out.bl⟩
      go_wp2_with fail
      refine (spec_cond _ _ _ _ _ _ _ _ _ H4.out.cols hf hm hks).mono ?_
      rintro e w5 ⟨rfl, hb⟩
      rw [hok]
      have H5 : Hid (QC w b5 (some ⟨bs, 0, none⟩) (some ⟨bv, ov, none⟩) L V nm how k n s w5) := H4.out.keep hb
      clear hb H4 z0 z1 z2 z3 z4
      have z0 := H5.out.c0
      have z1 := H5.out.c1
      have z2 := H5.out.c2
      have z3 := H5.out.c3
      have z4 := H5.out.c4
      go_wp2_with fail
      go_ret
      exact ⟨rfl, H5.out.bl⟩
    · rw [hok] at hIO hSO
      go_wp2_with fail
      refine wp_region_over (S := QC w b5 (some ⟨bs, 0, none⟩) (some ⟨bv, ov, none⟩) L V nm how k n s) (by kernel_rfl) (by kernel_rfl) hQ2.out.drew ?_
      repeat (go_big_quiet_step (first | exact over_call (hSH _) (fun _ h => QC.keep (Over.ok _) h) | exact over_call (hIO _) (fun _ h => QC.keep (Over.ok _) h) | exact over_call (hSO _) (fun _ h => QC.keep (Over.ok _) h)))
      refine wpQuiet_nil ?_
      rintro wqH3 ⟨pp, hp⟩
      have H3 : Hid (QC w b5 (some ⟨bs, 0, none⟩) (some ⟨bv, ov, none⟩) L V nm how k n s wqH3) := by
        have hZ := pp.ok
        rw [← hp] at hZ
        exact hZ
      clear hp pp hQ2
      clear g0 g1 g2 g3 g4 inh hSH hIO hSO hRW
      have z0 := H3.out.c0
      have z1 := H3.out.c1
      have z2 := H3.out.c2
      have z3 := H3.out.c3
      have z4 := H3.out.c4
      go_wp2_with fail
      refine (spec_row _ _ _ _ _ _ _ H3.out.cols H3.out.vals hf hg hm hm2).mono ?_
      rintro e w4 ⟨rfl, hb⟩
      have H4 : Hid (QC w b5 (some ⟨bs, 0, none⟩) (some ⟨bv, ov, none⟩) L V nm how k n s w4) := H3.out.keep hb
      clear hb H3 z0 z1 z2 z3 z4
      have z0 := H4.out.c0
      have z1 := H4.out.c1
      have z2 := H4.out.c2
      have z3 := H4.out.c3
      have z4 := H4.out.c4
      cases hrw : rowOk L V
      · go_wp2_with fail
        go_ret
        exact ⟨rfl, H4.out.bl⟩
      go_wp2_with fail
      refine (spec_cond _ _ _ _ _ _ _ _ _ H4.out.cols hf hm hks).mono ?_
      rintro e w5 ⟨rfl, hb⟩
      rw [hok]
      have H5 : Hid (QC w b5 (some ⟨bs, 0, none⟩) (some ⟨bv, ov, none⟩) L V nm how k n s w5) := H4.out.keep hb
      clear hb H4 z0 z1 z2 z3 z4
      have z0 := H5.out.c0
      have z1 := H5.out.c1
      have z2 := H5.out.c2
      have z3 := H5.out.c3
      have z4 := H5.out.c4
      by_cases hk : k = 0
      · subst hk
        go_wp2_with fail
        go_ret
        exact ⟨rfl, H5.out.bl⟩
      have hk0 : (k == 0) = false := by simp [hk]
      obtain ⟨p, hpe, hplt, v, hvp, hplt2, hvl, hsh, hall⟩ := cond_parts hrw hok hk
      have hALL : Hid (∀ h : Int, 1 ≤ h → h ≤ 3 → condHas L nm h k n s V = hasV h k n s v.k v.n v.s) := hall
      have hP : Hid (placeOf L nm = (p : Int) ∧ shapeOk L = true ∧ V[p]? = some v ∧ V.length = L.length) := ⟨hpe, hsh, hvp, hvl⟩
      clear hall hpe hsh hvp hcx hx hok hrw hvl
      go_wp2_with fail
      clear z0 z1 z2 z3 z4
      go_loopw [7, 8] (fun c h wr => ∃ j : Nat, j ≤ 3 ∧ c = .int .i64 (cnt k n s v j : Nat) ∧ h = .int .i64 ((j : Int) + 1) ∧ Hid (QC w b5 (some ⟨bs, 0, none⟩) (some ⟨bv, ov, none⟩) L V nm how k n s wr)) (fun _ h _ => 5 - (intOf h).toNat)
      case atStart => exact ⟨0, by omega, rfl, rfl, H5⟩
      case round =>
        obtain ⟨j, hj, rfl, rfl, hQr⟩ := hrel
        have hcl := cnt_le k n s v j
        have z0 := hQr.out.c0
        have z1 := hQr.out.c1
        have z2 := hQr.out.c2
        have z3 := hQr.out.c3
        have z4 := hQr.out.c4
        by_cases hlt : j < 3
        · have hd1 : (j : Int) + 1 ≤ 3 := by omega
          go_wp2_with fail
          have b1 : Below wr.heap.size wr (wr.alloc (.cells #[.string nm, .int .i64 ((j : Int) + 1), .int .i64 k, .int .i64 n, .string s] 27)) := (Below.refl _ _).alloc (Nat.le_refl _) _
          refine (impl_has _ _ _ _ _ _ _ _ _ _ _ _ (hQr.out.keep b1).cols (hQr.out.keep b1).vals hf hm hm2 hks hnm2).mono ?_
          rintro e w6 ⟨rfl, hb⟩
          have hQ6 : Hid (QC w b5 (some ⟨bs, 0, none⟩) (some ⟨bv, ov, none⟩) L V nm how k n s w6) := (hQr.out.keep b1).keep hb
          rw [hALL.out ((j : Int) + 1) (by omega) (by omega)]
          have hnext := cnt_next k n s v j
          clear hb b1 hQr z0 z1 z2 z3 z4
          cases hb1 : hasV ((j : Int) + 1) k n s v.k v.n v.s
          · have hnx : Hid (cnt k n s v (j + 1) = cnt k n s v j) := by
              rw [hb1] at hnext
              exact hnext
            clear hnext
            go_wp2_with fail
            go_roundw
            case rel => exact ⟨j + 1, by omega, by rw [hnx.out], by go_num, hQ6⟩
            case measure => simp [intOf]; omega
          · have hnx : Hid (cnt k n s v (j + 1) = cnt k n s v j + 1) := by
              rw [hb1] at hnext
              exact hnext
            clear hnext
            go_wp2_with fail
            go_roundw
            case rel => exact ⟨j + 1, by omega, by rw [hnx.out]; go_num, by go_num, hQ6⟩
            case measure => simp [intOf]; omega
        · have hj3 : j = 3 := by omega
          subst hj3
          go_wp2_with fail
          refine (impl_at _ _ _ _ _ hQr.out.cols hf hm hnm2).mono ?_
          rintro e w6 ⟨rfl, hb⟩
          have hQ6 : Hid (QC w b5 (some ⟨bs, 0, none⟩) (some ⟨bv, ov, none⟩) L V nm how k n s w6) := hQr.out.keep hb
          have hsa : shapeAt L nm = (p : Int) := by rw [shapeAt, if_pos hP.out.2.1]; exact hP.out.1
          rw [hsa]
          clear hb hQr z0 z1 z2 z3 z4 hsa
          obtain ⟨b1, o1, hab1, hbl1, hr1⟩ := hQ6.out.vals.at hplt2
          have hix : ∀ wx, (Instr.indexAt 28 (.slice (some ⟨bv, ov, none⟩) V.length cv) (.int .i64 p)).run Try.prog wx = .ok (.pointer (some ⟨b1, o1 + p * 3, none⟩)) wx := fun wx => by
            rw [hab1]; exact run_ix3 _ _ _ _ _ _ _ wx hplt2 Try.underlying28 (Try.sizeOf25 wx)
          have hvv : V[p] = v := by
            have := hP.out.2.2.1
            rw [List.getElem?_eq_getElem hplt2] at this
            exact Option.some.inj this
          rw [hvv] at hr1
          have hcc := (cells3_of hr1).1
          clear hab1 hr1 hvv
          have hc3 := cnt_three k n s v hk
          by_cases hv0 : v.k = 0
          · rw [if_pos hv0] at hc3
            rw [hc3]
            rw [hv0] at hcc
            clear hc3
            go_wp2_with fail
            go_ret
            exact ⟨rfl, hQ6.out.bl⟩
          · rw [if_neg hv0] at hc3
            rw [hc3]
            have e0 : (v.k == 0) = false := by simp [hv0]
            clear hc3
            go_wp2_with fail
            go_ret
            exact ⟨by simp, hQ6.out.bl⟩
  · rw [hx] at hSH
    have hok := hcx hx
    rw [hok] at hIO hSO
    go_wp2_with fail
    refine wp_region_over (S := QC w b5 (some ⟨bs, 0, none⟩) (some ⟨bv, ov, none⟩) L V nm how k n s) (by kernel_rfl) (by kernel_rfl) hQ2.out.drew ?_
    repeat (go_big_quiet_step (first | exact over_call (hSH _) (fun _ h => QC.keep (Over.ok _) h) | exact over_call (hIO _) (fun _ h => QC.keep (Over.ok _) h) | exact over_call (hSO _) (fun _ h => QC.keep (Over.ok _) h)))
    refine wpQuiet_nil ?_
    rintro wqH3 ⟨pp, hp⟩
    have H3 : Hid (QC w b5 (some ⟨bs, 0, none⟩) (some ⟨bv, ov, none⟩) L V nm how k n s wqH3) := by
      have hZ := pp.ok
      rw [← hp] at hZ
      exact hZ
    clear hp pp hQ2
    clear g0 g1 g2 g3 g4 inh hSH hIO hSO hRW
    have z0 := H3.out.c0
    have z1 := H3.out.c1
    have z2 := H3.out.c2
    have z3 := H3.out.c3
    have z4 := H3.out.c4
    go_wp2_with fail
    refine (spec_row _ _ _ _ _ _ _ H3.out.cols H3.out.vals hf hg hm hm2).mono ?_
    rintro e w4 ⟨rfl, hb⟩
    have H4 : Hid (QC w b5 (some ⟨bs, 0, none⟩) (some ⟨bv, ov, none⟩) L V nm how k n s w4) := H3.out.keep hb
    clear hb H3 z0 z1 z2 z3 z4
    have z0 := H4.out.c0
    have z1 := H4.out.c1
    have z2 := H4.out.c2
    have z3 := H4.out.c3
    have z4 := H4.out.c4
    cases hrw : rowOk L V
    · go_wp2_with fail
      go_ret
      exact ⟨rfl, H4.out.bl⟩
    go_wp2_with fail
    refine (spec_cond _ _ _ _ _ _ _ _ _ H4.out.cols hf hm hks).mono ?_
    rintro e w5 ⟨rfl, hb⟩
    rw [hok]
    have H5 : Hid (QC w b5 (some ⟨bs, 0, none⟩) (some ⟨bv, ov, none⟩) L V nm how k n s w5) := H4.out.keep hb
    clear hb H4 z0 z1 z2 z3 z4
    have z0 := H5.out.c0
    have z1 := H5.out.c1
    have z2 := H5.out.c2
    have z3 := H5.out.c3
    have z4 := H5.out.c4
    by_cases hk : k = 0
    · subst hk
      go_wp2_with fail
      go_ret
      exact ⟨rfl, H5.out.bl⟩
    have hk0 : (k == 0) = false := by simp [hk]
    obtain ⟨p, hpe, hplt, v, hvp, hplt2, hvl, hsh, hall⟩ := cond_parts hrw hok hk
    have hALL : Hid (∀ h : Int, 1 ≤ h → h ≤ 3 → condHas L nm h k n s V = hasV h k n s v.k v.n v.s) := hall
    have hP : Hid (placeOf L nm = (p : Int) ∧ shapeOk L = true ∧ V[p]? = some v ∧ V.length = L.length) := ⟨hpe, hsh, hvp, hvl⟩
    clear hall hpe hsh hvp hcx hx hok hrw hvl
    go_wp2_with fail
    clear z0 z1 z2 z3 z4
    go_loopw [7, 8] (fun c h wr => ∃ j : Nat, j ≤ 3 ∧ c = .int .i64 (cnt k n s v j : Nat) ∧ h = .int .i64 ((j : Int) + 1) ∧ Hid (QC w b5 (some ⟨bs, 0, none⟩) (some ⟨bv, ov, none⟩) L V nm how k n s wr)) (fun _ h _ => 5 - (intOf h).toNat)
    case atStart => exact ⟨0, by omega, rfl, rfl, H5⟩
    case round =>
      obtain ⟨j, hj, rfl, rfl, hQr⟩ := hrel
      have hcl := cnt_le k n s v j
      have z0 := hQr.out.c0
      have z1 := hQr.out.c1
      have z2 := hQr.out.c2
      have z3 := hQr.out.c3
      have z4 := hQr.out.c4
      by_cases hlt : j < 3
      · have hd1 : (j : Int) + 1 ≤ 3 := by omega
        go_wp2_with fail
        have b1 : Below wr.heap.size wr (wr.alloc (.cells #[.string nm, .int .i64 ((j : Int) + 1), .int .i64 k, .int .i64 n, .string s] 27)) := (Below.refl _ _).alloc (Nat.le_refl _) _
        refine (impl_has _ _ _ _ _ _ _ _ _ _ _ _ (hQr.out.keep b1).cols (hQr.out.keep b1).vals hf hm hm2 hks hnm2).mono ?_
        rintro e w6 ⟨rfl, hb⟩
        have hQ6 : Hid (QC w b5 (some ⟨bs, 0, none⟩) (some ⟨bv, ov, none⟩) L V nm how k n s w6) := (hQr.out.keep b1).keep hb
        rw [hALL.out ((j : Int) + 1) (by omega) (by omega)]
        have hnext := cnt_next k n s v j
        clear hb b1 hQr z0 z1 z2 z3 z4
        cases hb1 : hasV ((j : Int) + 1) k n s v.k v.n v.s
        · have hnx : Hid (cnt k n s v (j + 1) = cnt k n s v j) := by
            rw [hb1] at hnext
            exact hnext
          clear hnext
          go_wp2_with fail
          go_roundw
          case rel => exact ⟨j + 1, by omega, by rw [hnx.out], by go_num, hQ6⟩
          case measure => simp [intOf]; omega
        · have hnx : Hid (cnt k n s v (j + 1) = cnt k n s v j + 1) := by
            rw [hb1] at hnext
            exact hnext
          clear hnext
          go_wp2_with fail
          go_roundw
          case rel => exact ⟨j + 1, by omega, by rw [hnx.out]; go_num, by go_num, hQ6⟩
          case measure => simp [intOf]; omega
      · have hj3 : j = 3 := by omega
        subst hj3
        go_wp2_with fail
        refine (impl_at _ _ _ _ _ hQr.out.cols hf hm hnm2).mono ?_
        rintro e w6 ⟨rfl, hb⟩
        have hQ6 : Hid (QC w b5 (some ⟨bs, 0, none⟩) (some ⟨bv, ov, none⟩) L V nm how k n s w6) := hQr.out.keep hb
        have hsa : shapeAt L nm = (p : Int) := by rw [shapeAt, if_pos hP.out.2.1]; exact hP.out.1
        rw [hsa]
        clear hb hQr z0 z1 z2 z3 z4 hsa
        obtain ⟨b1, o1, hab1, hbl1, hr1⟩ := hQ6.out.vals.at hplt2
        have hix : ∀ wx, (Instr.indexAt 28 (.slice (some ⟨bv, ov, none⟩) V.length cv) (.int .i64 p)).run Try.prog wx = .ok (.pointer (some ⟨b1, o1 + p * 3, none⟩)) wx := fun wx => by
          rw [hab1]; exact run_ix3 _ _ _ _ _ _ _ wx hplt2 Try.underlying28 (Try.sizeOf25 wx)
        have hvv : V[p] = v := by
          have := hP.out.2.2.1
          rw [List.getElem?_eq_getElem hplt2] at this
          exact Option.some.inj this
        rw [hvv] at hr1
        have hcc := (cells3_of hr1).1
        clear hab1 hr1 hvv
        have hc3 := cnt_three k n s v hk
        by_cases hv0 : v.k = 0
        · rw [if_pos hv0] at hc3
          rw [hc3]
          rw [hv0] at hcc
          clear hc3
          go_wp2_with fail
          go_ret
          exact ⟨rfl, hQ6.out.bl⟩
        · rw [if_neg hv0] at hc3
          rw [hc3]
          have e0 : (v.k == 0) = false := by simp [hv0]
          clear hc3
          go_wp2_with fail
          go_ret
          exact ⟨by simp, hQ6.out.bl⟩

end Go.Proofs.Ytedlfdneepachaa
