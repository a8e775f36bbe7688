/- The walk of laws.FnIndexPut, over the seat's translation. -/
import Derived.Test.YtgjhmpgofmmniaaIxX3
import Derived.Test.YtgjhmpgofmmniaaIxFn0
import Derived.Test.YtgjhmpgofmmniaaIxQ2
import Derived.Test.YtgjhmpgofmmniaaIxR2
import Derived.Test.YtgjhmpgofmmniaaIxD4
import Derived.Test.YtgjhmpgofmmniaaIxLs
namespace Go.Proofs.Ytgjhmpgofmmniaa
open Go.RowKit

/-- How many of the first k ids are this one. -/
def cntI (z : Int) (I : List Int) (k : Nat) : Nat := ((I.take k).filter fun i => decide (i = z)).length
theorem cntI_next {z : Int} {I : List Int} {k : Nat} {i : Int} (h : I[k]? = some i) : cntI z I (k + 1) = cntI z I k + (if i = z then 1 else 0) := by
  obtain ⟨hk, rfl⟩ := List.getElem?_eq_some_iff.1 h
  unfold cntI
  rw [List.take_succ_eq_append_getElem hk, List.filter_append, List.length_append]
  congr 1
  by_cases e : I[k] = z <;> simp [e]
theorem cntI_le (z : Int) (I : List Int) (k : Nat) : cntI z I k ≤ I.length := by
  unfold cntI
  have h1 := List.length_filter_le (fun i => decide (i = z)) (I.take k)
  have h2 : (I.take k).length ≤ I.length := by rw [List.length_take]; omega
  omega
theorem cntI_all (z : Int) (I : List Int) : cntI z I I.length = (I.filter fun i => decide (i = z)).length := by
  unfold cntI
  rw [List.take_length]

theorem put_bad {L : List AEnt} {x : AEnt} (h : putOk L x = false) : putL L x = okE L := by
  unfold putL
  rw [h]
  rfl
theorem put_good {L : List AEnt} {x : AEnt} (h : putOk L x = true) : indexOk L = true ∧ thereE L x = false ∧ putL L x = insE L x ∧ indexOk (insE L x) = true := by
  have h' := h
  unfold putOk at h
  simp only [Bool.and_eq_true, Bool.not_eq_true', decide_eq_true_eq] at h
  obtain ⟨h1, h2, h3, h4⟩ := h
  refine ⟨h1, h4, by unfold putL; rw [h']; rfl, ?_⟩
  rw [ins_ok h1, h2, h4]
  simp [h3]
theorem there_ins {L : List AEnt} {x : AEnt} (hA : Asc L) (hI : indexOk (insE L x) = true) : thereE (insE L x) x = true := at_there (index_asc hI) (ins_at L x hA)
theorem okE_good {L : List AEnt} (h : indexOk L = true) : okE L = L := by unfold okE; rw [h]; rfl
theorem okE_bad {L : List AEnt} (h : indexOk L = false) : okE L = [] := by unfold okE; rw [h]; rfl

set_option maxRecDepth 100000 in
set_option maxHeartbeats 4000000 in
theorem law_iput (x : Option Addr) (len cap : Nat) (w : World) (hlc : len ≤ cap) (hcap : cap ≤ maxLen) (hc : IsCode w.heap.size x len w) :
    Calls Try.prog 6 #[.slice x len cap] w fun e w' => e = .returned (.bool true) ∧ Below w.heap.size w w' := by
  have hcap' : cap ≤ 9223372036854775807 := hcap
  by_cases hlen : (1048576 : Int) < len
  · go_enter Try.func6, Try.ntmps6
    go_wp2_with fail
    go_ret
    exact ⟨rfl, Below.refl _ _⟩
  go_enter Try.func6, Try.ntmps6
  go_wp2_with fail
  refine (draw_iput x len cap _ hlc hcap hc).mono ?_
  rintro e w1 ⟨a, c, L, y, rfl, hD, hy⟩
  have hnil := hD.nil
  have hcp := hD.cap
  have hfit : Hid (∀ d ∈ L, d.fit) := hD.fit
  have hyf : y.fit := by unfold AEnt.fit maxLen; omega
  have hl16 := hD.len
  have hm : L.length ≤ maxLen := by unfold maxLen; omega
  have H1 : Hid (DrE w a c L (w1.alloc (.cells #[.int .i64 y.k, .int .i64 y.n, .string y.s, .int .i64 y.id] 29)) ∧ BoxE w1.heap.size y (w1.alloc (.cells #[.int .i64 y.k, .int .i64 y.n, .string y.s, .int .i64 y.id] 29))) := ⟨hD.next (alloc_below _ _), BoxE.new _ _ _⟩
  clear hD hc
  go_wp2_with fail
  refine (impl_put a c L y _ H1.out.1.ents hnil hfit.out hyf (by omega)).mono ?_
  rintro e w2 ⟨v, rfl, hR, hb⟩
  generalize w1.heap.size = B at *
  obtain ⟨r, hr⟩ : ∃ r, r = putOk L y := ⟨_, rfl⟩
  rw [← hr]
  have HR : Hid (r = putOk L y) := hr
  obtain ⟨P, hP⟩ : ∃ P, P = putL L y := ⟨_, rfl⟩
  rw [← hP] at hR
  have HP : Hid (P = putL L y) := hP
  have hPl : P.length ≤ 17 := by rw [hP]; exact putL_len L y
  obtain ⟨ay, cy, rfl, h0y, hcy, hEy⟩ := hR.slice
  have H2 : Hid (DrE w a c L w2 ∧ BoxE B y w2 ∧ EntsAt w2 ay P) := ⟨H1.out.1.next hb, H1.out.2.keep hb, hEy⟩
  have hbx := H2.out.2.1.all
  clear hb hR hEy H1 hr hP
  go_wp2_with fail
  refine (spec_put a c L y _ H2.out.1.ents hnil hcp hfit.out hyf (by omega)).mono ?_
  rintro e w3 ⟨v, rfl, hR, hb⟩
  rw [← HR.out]
  rw [← HP.out] at hR
  obtain ⟨az, cz, rfl, -, hEz⟩ := hR.slice
  have H3 : Hid (DrE w a c L w3 ∧ BoxE B y w3 ∧ EntsAt w3 ay P ∧ EntsAt w3 az P) := ⟨H2.out.1.next hb, H2.out.2.1.keep hb, H2.out.2.2.keep hb, hEz⟩
  clear hb hR hEz H2 hbx
  go_wp2_with fail
  refine (wp_entries ay az cy cz P _ H3.out.2.2.1 H3.out.2.2.2 (by unfold maxLen; omega)).mono ?_
  rintro e w4 ⟨rfl, hb⟩
  have H4 : Hid (DrE w a c L w4 ∧ BoxE B y w4 ∧ EntsAt w4 ay P) := ⟨H3.out.1.next hb, H3.out.2.1.keep hb, H3.out.2.2.1.keep hb⟩
  clear hb H3
  go_wp2_with fail
  refine (impl_index a c L _ H4.out.1.ents hnil hfit.out hm).mono ?_
  rintro e w5 ⟨rfl, hb⟩
  have H5 : Hid (DrE w a c L w5 ∧ BoxE B y w5 ∧ EntsAt w5 ay P) := ⟨H4.out.1.next hb, H4.out.2.1.keep hb, H4.out.2.2.keep hb⟩
  clear hb H4
  obtain ⟨s, hs⟩ : ∃ s, s = indexOk L := ⟨_, rfl⟩
  rw [← hs]
  have HS : Hid (s = indexOk L) := hs
  clear hs
  go_wp2_with fail
  refine (spec_index a c L _ H5.out.1.ents hfit.out hm).mono ?_
  rintro e w6 ⟨rfl, hb⟩
  rw [← HS.out]
  have H6 : Hid (DrE w a c L w6 ∧ BoxE B y w6 ∧ EntsAt w6 ay P) := ⟨H5.out.1.next hb, H5.out.2.1.keep hb, H5.out.2.2.keep hb⟩
  clear hb H5
  cases hr0 : r
  · subst hr0
    have hPo : Hid (P = okE L) := by show P = okE L; rw [HP.out, put_bad HR.out.symm]
    go_wp2_with fail
    refine (spec_index a c L _ H6.out.1.ents hfit.out hm).mono ?_
    rintro e w7 ⟨rfl, hb⟩
    rw [← HS.out]
    have H7 : Hid (DrE w a c L w7 ∧ EntsAt w7 ay P) := ⟨H6.out.1.next hb, H6.out.2.2.keep hb⟩
    clear hb H6
    cases hs0 : s
    · subst hs0
      have hPn : P = [] := by rw [hPo.out, okE_bad HS.out.symm]
      subst hPn
      go_wp2_with fail
      refine (spec_index a c L _ H7.out.1.ents hfit.out hm).mono ?_
      rintro e w8 ⟨rfl, hb⟩
      rw [← HS.out]
      have H8 : Hid (DrE w a c L w8) := H7.out.1.next hb
      clear hb H7
      go_wp2_with fail
      go_ret
      exact ⟨rfl, H8.out.bel⟩
    · subst hs0
      have hPn : P = L := by rw [hPo.out, okE_good HS.out.symm]
      subst hPn
      clear HP HR hPo
      go_wp2_with fail
      refine (wp_entries ay a cy c P _ H7.out.2 H7.out.1.ents hm).mono ?_
      rintro e w8 ⟨rfl, hb⟩
      have H8 : Hid (DrE w a c P w8) := H7.out.1.next hb
      clear hb H7
      go_wp2_with fail
      go_ret
      exact ⟨rfl, H8.out.bel⟩
  · subst hr0
    obtain ⟨g1, g2, g3, g4⟩ := put_good HR.out.symm
    have hPi : P = insE L y := by rw [HP.out, g3]
    have hAs := index_asc g1
    have hF : Hid (offE P y = L) := by show offE P y = L; rw [hPi]; exact off_ins hAs g2
    have hT : Hid (thereE P y = true) := by show thereE P y = true; rw [hPi]; exact there_ins hAs g4
    have hG : Hid (indexOk P = true) := by show indexOk P = true; rw [hPi]; exact g4
    have hN : Hid ((spanL y y P).length = (spanL y y L).length + 1 ∧ ((spanL y y P).filter fun i => decide (i = y.id)).length = 1) := by
      unfold spanL
      rw [if_pos hG.out, if_pos g1]
      refine ⟨by rw [hPi]; exact span_ins L y, ids_one (index_asc hG.out) ((thereE_iff y).1 hT.out)⟩
    have hPf : Hid (∀ d ∈ P, d.fit) := by show ∀ d ∈ P, d.fit; rw [hPi]; exact ins_fit hfit.out hyf
    have hSL : s = true := by rw [HS.out, g1]
    subst hSL
    clear g1 g2 g3 g4 hPi hAs HR HP
    have hbx := H6.out.2.1.all
    go_wp2_with fail
    refine (impl_off ay cy P y _ H6.out.2.2 h0y hPf.out (by omega)).mono ?_
    rintro e w7 ⟨v, rfl, hR, hb⟩
    rw [hG.out, if_pos rfl, hF.out] at hR
    rw [hG.out, hT.out]
    obtain ⟨ab, cb, rfl, -, -, hEb⟩ := hR.slice
    have H7 : Hid (DrE w a c L w7 ∧ BoxE B y w7 ∧ EntsAt w7 ay P ∧ EntsAt w7 ab L) := ⟨H6.out.1.next hb, H6.out.2.1.keep hb, H6.out.2.2.keep hb, hEb⟩
    clear hb hR hEb H6 hbx
    have hbx := H7.out.2.1.all
    go_wp2_with fail
    refine (impl_find ay cy P y _ H7.out.2.2.1 h0y hPf.out (by omega)).mono ?_
    rintro e w8 ⟨v, rfl, hO, hb⟩
    obtain ⟨ai, ci, rfl, hI⟩ := hO.slice
    have H8 : Hid (DrE w a c L w8 ∧ BoxE B y w8 ∧ EntsAt w8 ay P ∧ EntsAt w8 ab L ∧ IntsAt w8 ai (spanL y y P)) := ⟨H7.out.1.next hb, H7.out.2.1.keep hb, H7.out.2.2.1.keep hb, H7.out.2.2.2.keep hb, hI⟩
    clear hb hO hI H7 hbx
    obtain ⟨I, hI⟩ : ∃ I, I = spanL y y P := ⟨_, rfl⟩
    obtain ⟨J, hJ⟩ : ∃ J, J = spanL y y L := ⟨_, rfl⟩
    have hIl : I.length ≤ 17 := by
      rw [hI]
      unfold spanL
      rw [if_pos hG.out]
      have := spanIn_len y y P
      omega
    rw [← hI] at H8 hN ⊢
    rw [← hJ] at hN
    have HJ : Hid (J = spanL y y L) := hJ
    clear hI hJ
    go_wp2_with fail
    go_loopw [11, 13] (fun n i wr => ∃ k : Nat, k ≤ I.length ∧ i = .int .i64 k ∧ n = .int .i64 ((cntI y.id I k : Nat) : Int) ∧ Hid (DrE w a c L wr ∧ BoxE B y wr ∧ EntsAt wr ay P ∧ EntsAt wr ab L ∧ IntsAt wr ai I)) (fun _ i _ => I.length - (intOf i).toNat)
    case atStart => exact ⟨0, Nat.zero_le _, rfl, rfl, H8.out⟩
    case round =>
      obtain ⟨k, hk, rfl, rfl, hH⟩ := hrel
      clear H8
      by_cases hlt : k < I.length
      · obtain ⟨b2, o2, hab2, hbl2, hr2⟩ := hH.out.2.2.2.2.at hlt
        have hIk : I[k]? = some I[k] := List.getElem?_eq_getElem hlt
        revert hr2 hIk
        generalize I[k] = z
        intro hr2 hIk
        have hix : ∀ wx, (Instr.indexAt 30 (.slice ai I.length ci) (.int .i64 k)).run Try.prog wx = .ok (.pointer (some ⟨b2, o2 + k, none⟩)) wx := fun wx => by
          rw [hab2]; exact run_ix1 _ _ _ _ _ _ _ wx hlt Try.underlying30 (Try.sizeOf3 wx)
        have hbx := hH.out.2.1.all
        have hcn := cntI_next (z := y.id) hIk
        have hcl := cntI_le y.id I k
        obtain ⟨m, hm0⟩ : ∃ m, m = cntI y.id I k := ⟨_, rfl⟩
        rw [← hm0] at hcn hcl ⊢
        have hC : Hid (cntI y.id I (k + 1) = m + if z = y.id then 1 else 0) := hcn
        clear hab2 hbl2 hIk hcn hm0
        by_cases hz : z = y.id
        · have hC2 : Hid (cntI y.id I (k + 1) = m + 1) := by show cntI y.id I (k + 1) = m + 1; rw [hC.out, if_pos hz]
          subst hz
          go_wp2_with fail
          go_quiet (fail)
          have hP : Hid (DrE w a c L (wr.drewN nq) ∧ BoxE B y (wr.drewN nq) ∧ EntsAt (wr.drewN nq) ay P ∧ EntsAt (wr.drewN nq) ab L ∧ IntsAt (wr.drewN nq) ai I) := by
            have hb : Below wr.heap.size wr (wr.drewN nq) := quiet_below _ _ _
            exact ⟨hH.out.1.next hb, hH.out.2.1.keep hb, hH.out.2.2.1.keep hb, hH.out.2.2.2.1.keep hb, hH.out.2.2.2.2.keep hb⟩
          clear hbx hr2
          go_wp2_with fail
          go_roundw
          case rel => exact ⟨k + 1, by omega, by go_num, by rw [hC2.out]; go_num, hP.out⟩
          case measure => simp [intOf]; omega
        · have hC2 : Hid (cntI y.id I (k + 1) = m) := by show cntI y.id I (k + 1) = m; rw [hC.out, if_neg hz]; rfl
          have hzb : (z == y.id) = false := by simp [hz]
          go_wp2_with fail
          go_quiet (fail)
          have hP : Hid (DrE w a c L (wr.drewN nq) ∧ BoxE B y (wr.drewN nq) ∧ EntsAt (wr.drewN nq) ay P ∧ EntsAt (wr.drewN nq) ab L ∧ IntsAt (wr.drewN nq) ai I) := by
            have hb : Below wr.heap.size wr (wr.drewN nq) := quiet_below _ _ _
            exact ⟨hH.out.1.next hb, hH.out.2.1.keep hb, hH.out.2.2.1.keep hb, hH.out.2.2.2.1.keep hb, hH.out.2.2.2.2.keep hb⟩
          clear hbx hr2
          go_wp2_with fail
          go_roundw
          case rel => exact ⟨k + 1, by omega, by go_num, by rw [hC2.out], hP.out⟩
          case measure => simp [intOf]; omega
      · have hkl : k = I.length := by omega
        subst hkl
        rw [cntI_all, hN.out.2]
        have hIJ : (I.length : Int) = (J.length : Int) + 1 := by have := hN.out.1; omega
        have hH9 : Hid (DrE w a c L wr ∧ BoxE B y wr ∧ EntsAt wr ay P ∧ EntsAt wr ab L) := ⟨hH.out.1, hH.out.2.1, hH.out.2.2.1, hH.out.2.2.2.1⟩
        clear hH hlt hk hN hF hT
        go_wp2_with fail
        refine (impl_index ay cy P _ hH9.out.2.2.1 h0y hPf.out (by unfold maxLen; omega)).mono ?_
        rintro e w9 ⟨rfl, hb⟩
        rw [hG.out]
        have H9 : Hid (DrE w a c L w9 ∧ BoxE B y w9 ∧ EntsAt w9 ab L) := ⟨hH9.out.1.next hb, hH9.out.2.1.keep hb, hH9.out.2.2.2.keep hb⟩
        clear hb hH9
        go_wp2_with fail
        refine (wp_entries ab a cb c L _ H9.out.2.2 H9.out.1.ents hm).mono ?_
        rintro e w10 ⟨rfl, hb⟩
        have H10 : Hid (DrE w a c L w10 ∧ BoxE B y w10) := ⟨H9.out.1.next hb, H9.out.2.1.keep hb⟩
        clear hb H9
        have hbx := H10.out.2.all
        go_wp2_with fail
        refine (impl_find a c L y _ H10.out.1.ents hnil hfit.out (by omega)).mono ?_
        rintro e w11 ⟨v, rfl, hO, hb⟩
        rw [← HJ.out] at hO
        obtain ⟨aj, cj, rfl, -⟩ := hO.slice
        have H11 : Hid (DrE w a c L w11) := H10.out.1.next hb
        clear hb hO H10 hbx
        go_wp2_with fail
        go_ret
        exact ⟨rfl, H11.out.bel⟩

end Go.Proofs.Ytgjhmpgofmmniaa
