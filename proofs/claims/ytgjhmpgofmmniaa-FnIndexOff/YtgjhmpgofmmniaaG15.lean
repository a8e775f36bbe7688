/- The walk of laws.FnIndexPut, over the seat's translation. -/
import Derived.Test.YtgjhmpgofmmniaaG11
import Derived.Test.YtgjhmpgofmmniaaG14
import Derived.Test.YtgjhmpgofmmniaaG08
import Derived.Test.YtgjhmpgofmmniaaRows
import Derived.Test.YtgjhmpgofmmniaaG01
import Derived.ProofKit
import Derived.OpenShut
import Derived.ChangeOld
import Derived.Below
namespace Go.Proofs.Ytgjhmpgofmmniaa
open Go.RowKit

/-- How many of the first k ids are this one. -/
def cntI (z : Int) (I : List Int) (k : Nat) : Nat := ((I.take k).filter fun i => decide (i = z)).length
theorem cntI_next {z : Int} {I : List Int} {k : Nat} {i : Int} (h : I[k]? = some i) : cntI z I (k + 1) = cntI z I k + (if i = z then 1 else 0) := by
  obtain ⟨hk, rfl⟩ := List.getElem?_eq_some_iff.1 h
  unfold cntI
  rw [List.take_succ_eq_append_getElem hk, List.filter_append, List.length_append]
  congr 1
  by_cases e : I[k] = z <;> simp [e]
theorem cntI_le (z : Int) (I : List Int) (k : Nat) : cntI z I k ≤ I.length := by
  unfold cntI
  have h1 := List.length_filter_le (fun i => decide (i = z)) (I.take k)
  have h2 : (I.take k).length ≤ I.length := by rw [List.length_take]; omega
  omega
theorem cntI_all (z : Int) (I : List Int) : cntI z I I.length = (I.filter fun i => decide (i = z)).length := by
  unfold cntI
  rw [List.take_length]

theorem put_bad {L : List AEnt} {x : AEnt} (h : putOk L x = false) : putL L x = okE L := by
  unfold putL
  rw [h]
  rfl
theorem put_good {L : List AEnt} {x : AEnt} (h : putOk L x = true) : indexOk L = true ∧ thereE L x = false ∧ putL L x = insE L x ∧ indexOk (insE L x) = true := by
  have h' := h
  unfold putOk at h
  simp only [Bool.and_eq_true, Bool.not_eq_true', decide_eq_true_eq] at h
  obtain ⟨h1, h2, h3, h4⟩ := h
  refine ⟨h1, h4, by unfold putL; rw [h']; rfl, ?_⟩
  rw [ins_ok h1, h2, h4]
  simp [h3]
theorem there_ins {L : List AEnt} {x : AEnt} (hA : Asc L) (hI : indexOk (insE L x) = true) : thereE (insE L x) x = true := at_there (index_asc hI) (ins_at L x hA)
theorem okE_good {L : List AEnt} (h : indexOk L = true) : okE L = L := by unfold okE; rw [h]; rfl
theorem okE_bad {L : List AEnt} (h : indexOk L = false) : okE L = [] := by unfold okE; rw [h]; rfl

set_option maxRecDepth 100000 in
set_option maxHeartbeats 4000000 in
theorem law_iput (x : Option Addr) (len cap : Nat) (w : World) (hlc : len ≤ cap) (hcap : cap ≤ maxLen) (hc : IsCode w.heap.size x len w) :
    Calls Try.prog 6 #[.slice x len cap] w fun e w' => e = .returned (.bool true) ∧ Below w.heap.size w w' := by
  have hcap' : cap ≤ 9223372036854775807 := hcap
  by_cases hlen : (1048576 : Int) < len
  · go_enter Try.func6, Try.ntmps6
    go_wp2_with fail
    go_ret
    exact ⟨rfl, Below.refl _ _⟩
  go_enter Try.func6, Try.ntmps6
  go_wp2_with fail
  refine (draw_iput x len cap _ hlc hcap hc).mono ?_
  rintro e w1 ⟨a, c, L, y, rfl, hD, hy⟩
  have hnil := hD.nil
  have hcp := hD.cap
  have hfit : Hid (∀ d ∈ L, d.fit) := hD.fit
  have hyf : y.fit := by unfold AEnt.fit maxLen; omega
  have hl16 := hD.len
  have hm : L.length ≤ maxLen := by unfold maxLen; omega
  have H1 : Hid (DrE w a c L (w1.alloc (.cells #[.int .i64 y.k, .int .i64 y.n, .string y.s, .int .i64 y.id] 29)) ∧ BoxE w1.heap.size y (w1.alloc (.cells #[.int .i64 y.k, .int .i64 y.n, .string y.s, .int .i64 y.id] 29))) := ⟨hD.next (alloc_below _ _), BoxE.new _ _ _⟩
  clear hD hc
  go_wp2_with fail
  refine (impl_put a c L y _ H1.out.1.ents hnil hfit.out hyf (by omega)).mono ?_
  rintro e w2 ⟨v, rfl, hR, hb⟩
  generalize w1.heap.size = B at *
  obtain ⟨r, hr⟩ : ∃ r, r = putOk L y := ⟨_, rfl⟩
  rw [← hr]
  have HR : Hid (r = putOk L y) := hr
  obtain ⟨P, hP⟩ : ∃ P, P = putL L y := ⟨_, rfl⟩
  rw [← hP] at hR
  have HP : Hid (P = putL L y) := hP
  have hPl : P.length ≤ 17 := by rw [hP]; exact putL_len L y
  obtain ⟨ay, cy, rfl, h0y, hcy, hEy⟩ := hR.slice
  have H2 : Hid (DrE w a c L w2 ∧ BoxE B y w2 ∧ EntsAt w2 ay P) := ⟨H1.out.1.next hb, H1.out.2.keep hb, hEy⟩
  have hbx := H2.out.2.1.all
  clear hb hR hEy H1 hr hP
  go_wp2_with fail
  refine (spec_put a c L y _ H2.out.1.ents hnil hcp hfit.out hyf (by omega)).mono ?_
  rintro e w3 ⟨v, rfl, hR, hb⟩
  rw [← HR.out]
  rw [← HP.out] at hR
  obtain ⟨az, cz, rfl, -, hEz⟩ := hR.slice
  have H3 : Hid (DrE w a c L w3 ∧ BoxE B y w3 ∧ EntsAt w3 ay P ∧ EntsAt w3 az P) := ⟨H2.out.1.next hb, H2.out.2.1.keep hb, H2.out.2.2.keep hb, hEz⟩
  clear hb hR hEz H2 hbx
  go_wp2_with fail
  refine (wp_entries ay az cy cz P _ H3.out.2.2.1 H3.out.2.2.2 (by unfold maxLen; omega)).mono ?_
  rintro e w4 ⟨rfl, hb⟩
  have H4 : Hid (DrE w a c L w4 ∧ BoxE B y w4 ∧ EntsAt w4 ay P) := ⟨H3.out.1.next hb, H3.out.2.1.keep hb, H3.out.2.2.1.keep hb⟩
  clear hb H3
  go_wp2_with fail
  refine (impl_index a c L _ H4.out.1.ents hnil hfit.out hm).mono ?_
  rintro e w5 ⟨rfl, hb⟩
  have H5 : Hid (DrE w a c L w5 ∧ BoxE B y w5 ∧ EntsAt w5 ay P) := ⟨H4.out.1.next hb, H4.out.2.1.keep hb, H4.out.2.2.keep hb⟩
  clear hb H4
  obtain ⟨s, hs⟩ : ∃ s, s = indexOk L := ⟨_, rfl⟩
  rw [← hs]
  have HS : Hid (s = indexOk L) := hs
  clear hs
  go_wp2_with fail
  refine (spec_index a c L _ H5.out.1.ents hfit.out hm).mono ?_
  rintro e w6 ⟨rfl, hb⟩
  rw [← HS.out]
  have H6 : Hid (DrE w a c L w6 ∧ BoxE B y w6 ∧ EntsAt w6 ay P) := ⟨H5.out.1.next hb, H5.out.2.1.keep hb, H5.out.2.2.keep hb⟩
  clear hb H5
  cases hr0 : r
  · subst hr0
    have hPo : Hid (P = okE L) := by show P = okE L; rw [HP.out, put_bad HR.out.symm]
    go_wp2_with fail
    refine (spec_index a c L _ H6.out.1.ents hfit.out hm).mono ?_
    rintro e w7 ⟨rfl, hb⟩
    rw [← HS.out]
    have H7 : Hid (DrE w a c L w7 ∧ EntsAt w7 ay P) := ⟨H6.out.1.next hb, H6.out.2.2.keep hb⟩
    clear hb H6
    cases hs0 : s
    · subst hs0
      have hPn : P = [] := by rw [hPo.out, okE_bad HS.out.symm]
      subst hPn
      go_wp2_with fail
      refine (spec_index a c L _ H7.out.1.ents hfit.out hm).mono ?_
      rintro e w8 ⟨rfl, hb⟩
      rw [← HS.out]
      have H8 : Hid (DrE w a c L w8) := H7.out.1.next hb
      clear hb H7
      go_wp2_with fail
      go_ret
      exact ⟨rfl, H8.out.bel⟩
    · subst hs0
      have hPn : P = L := by rw [hPo.out, okE_good HS.out.symm]
      subst hPn
      clear HP HR hPo
      go_wp2_with fail
      refine (wp_entries ay a cy c P _ H7.out.2 H7.out.1.ents hm).mono ?_
      rintro e w8 ⟨rfl, hb⟩
      have H8 : Hid (DrE w a c P w8) := H7.out.1.next hb
      clear hb H7
      go_wp2_with fail
      go_ret
      exact ⟨rfl, H8.out.bel⟩
  · subst hr0
    obtain ⟨g1, g2, g3, g4⟩ := put_good HR.out.symm
    have hPi : P = insE L y := by rw [HP.out, g3]
    have hAs := index_asc g1
    have hF : Hid (offE P y = L) := by show offE P y = L; rw [hPi]; exact off_ins hAs g2
    have hT : Hid (thereE P y = true) := by show thereE P y = true; rw [hPi]; exact there_ins hAs g4
    have hG : Hid (indexOk P = true) := by show indexOk P = true; rw [hPi]; exact g4
    have hN : Hid ((spanL y y P).length = (spanL y y L).length + 1 ∧ ((spanL y y P).filter fun i => decide (i = y.id)).length = 1) := by
      unfold spanL
      rw [if_pos hG.out, if_pos g1]
      refine ⟨by rw [hPi]; exact span_ins L y, ids_one (index_asc hG.out) ((thereE_iff y).1 hT.out)⟩
    have hPf : Hid (∀ d ∈ P, d.fit) := by show ∀ d ∈ P, d.fit; rw [hPi]; exact ins_fit hfit.out hyf
    have hSL : s = true := by rw [HS.out, g1]
    subst hSL
    clear g1 g2 g3 g4 hPi hAs HR HP
    have hbx := H6.out.2.1.all
    go_wp2_with fail
    refine (impl_off ay cy P y _ H6.out.2.2 h0y hPf.out (by omega)).mono ?_
    rintro e w7 ⟨v, rfl, hR, hb⟩
    rw [hG.out, if_pos rfl, hF.out] at hR
    rw [hG.out, hT.out]
    obtain ⟨ab, cb, rfl, -, -, hEb⟩ := hR.slice
    have H7 : Hid (DrE w a c L w7 ∧ BoxE B y w7 ∧ EntsAt w7 ay P ∧ EntsAt w7 ab L) := ⟨H6.out.1.next hb, H6.out.2.1.keep hb, H6.out.2.2.keep hb, hEb⟩
    clear hb hR hEb H6 hbx
    have hbx := H7.out.2.1.all
    go_wp2_with fail
    refine (impl_find ay cy P y _ H7.out.2.2.1 h0y hPf.out (by omega)).mono ?_
    rintro e w8 ⟨v, rfl, hO, hb⟩
    obtain ⟨ai, ci, rfl, hI⟩ := hO.slice
    have H8 : Hid (DrE w a c L w8 ∧ BoxE B y w8 ∧ EntsAt w8 ay P ∧ EntsAt w8 ab L ∧ IntsAt w8 ai (spanL y y P)) := ⟨H7.out.1.next hb, H7.out.2.1.keep hb, H7.out.2.2.1.keep hb, H7.out.2.2.2.keep hb, hI⟩
    clear hb hO hI H7 hbx
    obtain ⟨I, hI⟩ : ∃ I, I = spanL y y P := ⟨_, rfl⟩
    obtain ⟨J, hJ⟩ : ∃ J, J = spanL y y L := ⟨_, rfl⟩
    have hIl : I.length ≤ 17 := by
      rw [hI]
      unfold spanL
      rw [if_pos hG.out]
      have := spanIn_len y y P
      omega
    rw [← hI] at H8 hN ⊢
    rw [← hJ] at hN
    have HJ : Hid (J = spanL y y L) := hJ
    clear hI hJ
    go_wp2_with fail
    go_loopw [11, 13] (fun n i wr => ∃ k : Nat, k ≤ I.length ∧ i = .int .i64 k ∧ n = .int .i64 ((cntI y.id I k : Nat) : Int) ∧ Hid (DrE w a c L wr ∧ BoxE B y wr ∧ EntsAt wr ay P ∧ EntsAt wr ab L ∧ IntsAt wr ai I)) (fun _ i _ => I.length - (intOf i).toNat)
    case atStart => exact ⟨0, Nat.zero_le _, rfl, rfl, H8.out⟩
    case round =>
      obtain ⟨k, hk, rfl, rfl, hH⟩ := hrel
      clear H8
      by_cases hlt : k < I.length
      · obtain ⟨b2, o2, hab2, hbl2, hr2⟩ := hH.out.2.2.2.2.at hlt
        have hIk : I[k]? = some I[k] := List.getElem?_eq_getElem hlt
        revert hr2 hIk
        generalize I[k] = z
        intro hr2 hIk
        have hix : ∀ wx, (Instr.indexAt 30 (.slice ai I.length ci) (.int .i64 k)).run Try.prog wx = .ok (.pointer (some ⟨b2, o2 + k, none⟩)) wx := fun wx => by
          rw [hab2]; exact run_ix1 _ _ _ _ _ _ _ wx hlt Try.underlying30 (Try.sizeOf3 wx)
        have hbx := hH.out.2.1.all
        have hcn := cntI_next (z := y.id) hIk
        have hcl := cntI_le y.id I k
        obtain ⟨m, hm0⟩ : ∃ m, m = cntI y.id I k := ⟨_, rfl⟩
        rw [← hm0] at hcn hcl ⊢
        have hC : Hid (cntI y.id I (k + 1) = m + if z = y.id then 1 else 0) := hcn
        clear hab2 hbl2 hIk hcn hm0
        by_cases hz : z = y.id
        · have hC2 : Hid (cntI y.id I (k + 1) = m + 1) := by show cntI y.id I (k + 1) = m + 1; rw [hC.out, if_pos hz]
          subst hz
          go_wp2_with fail
          go_quiet (fail)
          have hP : Hid (DrE w a c L (wr.drewN nq) ∧ BoxE B y (wr.drewN nq) ∧ EntsAt (wr.drewN nq) ay P ∧ EntsAt (wr.drewN nq) ab L ∧ IntsAt (wr.drewN nq) ai I) := by
            have hb : Below wr.heap.size wr (wr.drewN nq) := quiet_below _ _ _
            exact ⟨hH.out.1.next hb, hH.out.2.1.keep hb, hH.out.2.2.1.keep hb, hH.out.2.2.2.1.keep hb, hH.out.2.2.2.2.keep hb⟩
          clear hbx hr2
          go_wp2_with fail
          go_roundw
          case rel => exact ⟨k + 1, by omega, by go_num, by rw [hC2.out]; go_num, hP.out⟩
          case measure => simp [intOf]; omega
        · have hC2 : Hid (cntI y.id I (k + 1) = m) := by show cntI y.id I (k + 1) = m; rw [hC.out, if_neg hz]; rfl
          have hzb : (z == y.id) = false := by simp [hz]
          go_wp2_with fail
          go_quiet (fail)
          have hP : Hid (DrE w a c L (wr.drewN nq) ∧ BoxE B y (wr.drewN nq) ∧ EntsAt (wr.drewN nq) ay P ∧ EntsAt (wr.drewN nq) ab L ∧ IntsAt (wr.drewN nq) ai I) := by
            have hb : Below wr.heap.size wr (wr.drewN nq) := quiet_below _ _ _
            exact ⟨hH.out.1.next hb, hH.out.2.1.keep hb, hH.out.2.2.1.keep hb, hH.out.2.2.2.1.keep hb, hH.out.2.2.2.2.keep hb⟩
          clear hbx hr2
          go_wp2_with fail
          go_roundw
          case rel => exact ⟨k + 1, by omega, by go_num, by rw [hC2.out], hP.out⟩
          case measure => simp [intOf]; omega
      · have hkl : k = I.length := by omega
        subst hkl
        rw [cntI_all, hN.out.2]
        have hIJ : (I.length : Int) = (J.length : Int) + 1 := by have := hN.out.1; omega
        have hH9 : Hid (DrE w a c L wr ∧ BoxE B y wr ∧ EntsAt wr ay P ∧ EntsAt wr ab L) := ⟨hH.out.1, hH.out.2.1, hH.out.2.2.1, hH.out.2.2.2.1⟩
        clear hH hlt hk hN hF hT
        go_wp2_with fail
        refine (impl_index ay cy P _ hH9.out.2.2.1 h0y hPf.out (by unfold maxLen; omega)).mono ?_
        rintro e w9 ⟨rfl, hb⟩
        rw [hG.out]
        have H9 : Hid (DrE w a c L w9 ∧ BoxE B y w9 ∧ EntsAt w9 ab L) := ⟨hH9.out.1.next hb, hH9.out.2.1.keep hb, hH9.out.2.2.2.keep hb⟩
        clear hb hH9
        go_wp2_with fail
        refine (wp_entries ab a cb c L _ H9.out.2.2 H9.out.1.ents hm).mono ?_
        rintro e w10 ⟨rfl, hb⟩
        have H10 : Hid (DrE w a c L w10 ∧ BoxE B y w10) := ⟨H9.out.1.next hb, H9.out.2.1.keep hb⟩
        clear hb H9
        have hbx := H10.out.2.all
        go_wp2_with fail
        refine (impl_find a c L y _ H10.out.1.ents hnil hfit.out (by omega)).mono ?_
        rintro e w11 ⟨v, rfl, hO, hb⟩
        rw [← HJ.out] at hO
        obtain ⟨aj, cj, rfl, -⟩ := hO.slice
        have H11 : Hid (DrE w a c L w11) := H10.out.1.next hb
        clear hb hO H10 hbx
        go_wp2_with fail
        go_ret
        exact ⟨rfl, H11.out.bel⟩

end Go.Proofs.Ytgjhmpgofmmniaa

/- The walk of laws.FnIndexOff, over the seat's translation. -/
namespace Go.Proofs.Ytgjhmpgofmmniaa
open Go.RowKit

theorem off_good {L : List AEnt} {y : AEnt} (hI : indexOk L = true) (hT : thereE L y = true) : insE (offE L y) y = L ∧ putOk (offE L y) y = true ∧ indexOk (offE L y) = true ∧ (offE L y).length + 1 = L.length := by
  have hA := index_asc hI
  have hx := (thereE_iff y).1 hT
  have hp : posE L y < L.length := (List.getElem?_eq_some_iff.1 hx).1
  have he : offE L y = L.take (posE L y) ++ L.drop (posE L y + 1) := by unfold offE; rw [hT]; rfl
  have hsub : ∀ d ∈ offE L y, d ∈ L := fun d hd => by
    rw [he] at hd
    rcases List.mem_append.1 hd with h | h
    · exact List.mem_of_mem_take h
    · exact List.mem_of_mem_drop h
  have hlen : (offE L y).length + 1 = L.length := by
    rw [he, List.length_append, List.length_take, List.length_drop]
    omega
  have hAP : Asc (offE L y) := by
    intro i c d hc hd
    rw [he] at hc hd
    have hget : ∀ (j : Nat) (e : AEnt), (L.take (posE L y) ++ L.drop (posE L y + 1))[j]? = some e → L[if j < posE L y then j else j + 1]? = some e := fun j e h => by
      have hl : (L.take (posE L y)).length = posE L y := by rw [List.length_take]; omega
      by_cases hj : j < posE L y
      · rw [if_pos hj]
        rw [List.getElem?_append_left (by omega), List.getElem?_take, if_pos hj] at h
        exact h
      · rw [if_neg hj]
        rw [List.getElem?_append_right (by omega), hl, List.getElem?_drop] at h
        rw [show j + 1 = posE L y + 1 + (j - posE L y) by omega]
        exact h
    refine hA.lt ?_ (hget i c hc) (hget (i + 1) d hd)
    split <;> split <;> omega
  have hall := hI
  unfold indexOk at hall
  simp only [Bool.and_eq_true, List.all_eq_true, decide_eq_true_eq] at hall
  have hIP : indexOk (offE L y) = true := by
    unfold indexOk
    simp only [Bool.and_eq_true, List.all_eq_true, decide_eq_true_eq]
    exact ⟨by omega, fun d hd => hall.2.1 d (hsub d hd), (ascB_iff _).2 hAP⟩
  have hins := ins_off hA hT
  have hnt : thereE (offE L y) y = false := by
    have h1 := ins_asc hAP y
    rw [hins, (ascB_iff L).2 hA] at h1
    cases h : thereE (offE L y) y
    · rfl
    · rw [h] at h1; cases h1
  have hyo : y.ok = true := hall.2.1 y (by
    rw [← (List.getElem?_eq_some_iff.1 hx).2]
    exact List.getElem_mem _)
  refine ⟨hins, ?_, hIP, hlen⟩
  unfold putOk
  rw [hIP, hyo, hnt]
  simp only [Bool.not_false, Bool.and_true, Bool.true_and, decide_eq_true_eq]
  omega

/-- What the last line of FnIndexOff reads. -/
abbrev OffW (w : World) (a : Option Addr) (c : Nat) (L : List AEnt) (B : Nat) (y : AEnt) (ay : Option Addr) (P : List AEnt) (ab : Option Addr) (W : World) : Prop :=
  (DrE w a c L W ∧ BoxE B y W ∧ EntsAt W ay P ∧ EntsAt W ab L) ∧ (W.cell? ⟨B, 0, none⟩ = some (.int .i64 y.k) ∧ W.cell? ⟨B, 1, none⟩ = some (.int .i64 y.n) ∧ W.cell? ⟨B, 2, none⟩ = some (.string y.s))
theorem offw_of {w : World} {a : Option Addr} {c : Nat} {L : List AEnt} {B : Nat} {y : AEnt} {ay : Option Addr} {P : List AEnt} {ab : Option Addr} {W : World} (h : DrE w a c L W ∧ BoxE B y W ∧ EntsAt W ay P ∧ EntsAt W ab L) : OffW w a c L B y ay P ab W := ⟨h, h.2.1.c0, h.2.1.c1, h.2.1.c2⟩
theorem offw_next {w : World} {a : Option Addr} {c : Nat} {L : List AEnt} {B : Nat} {y : AEnt} {ay : Option Addr} {P : List AEnt} {ab : Option Addr} {W W' : World} (h : OffW w a c L B y ay P ab W) (hb : Below W.heap.size W W') : OffW w a c L B y ay P ab W' :=
  offw_of ⟨h.1.1.next hb, h.1.2.1.keep hb, h.1.2.2.1.keep hb, h.1.2.2.2.keep hb⟩
theorem offw_drew {w : World} {a : Option Addr} {c : Nat} {L : List AEnt} {B : Nat} {y : AEnt} {ay : Option Addr} {P : List AEnt} {ab : Option Addr} {W : World} (h : OffW w a c L B y ay P ab W) : OffW w a c L B y ay P ab W.drew := offw_next h (Below.refl _ _).drew

set_option maxRecDepth 100000 in
set_option maxHeartbeats 4000000 in
theorem law_ioff (x : Option Addr) (len cap : Nat) (w : World) (hlc : len ≤ cap) (hcap : cap ≤ maxLen) (hc : IsCode w.heap.size x len w) :
    Calls Try.prog 7 #[.slice x len cap] w fun e w' => e = .returned (.bool true) ∧ Below w.heap.size w w' := by
  have hcap' : cap ≤ 9223372036854775807 := hcap
  by_cases hlen : (1048576 : Int) < len
  · go_enter Try.func7, Try.ntmps7
    go_wp2_with fail
    go_ret
    exact ⟨rfl, Below.refl _ _⟩
  go_enter Try.func7, Try.ntmps7
  go_wp2_with fail
  refine (draw_ioff x len cap _ hlc hcap hc).mono ?_
  rintro e w1 ⟨a, c, L, y, rfl, hD, hy⟩
  have hnil := hD.nil
  have hcp := hD.cap
  have hfit : Hid (∀ d ∈ L, d.fit) := hD.fit
  have hyf : y.fit := by unfold AEnt.fit maxLen; omega
  have hl16 := hD.len
  have hm : L.length ≤ maxLen := by unfold maxLen; omega
  have H1 : Hid (DrE w a c L (w1.alloc (.cells #[.int .i64 y.k, .int .i64 y.n, .string y.s, .int .i64 y.id] 29)) ∧ BoxE w1.heap.size y (w1.alloc (.cells #[.int .i64 y.k, .int .i64 y.n, .string y.s, .int .i64 y.id] 29))) := ⟨hD.next (alloc_below _ _), BoxE.new _ _ _⟩
  clear hD hc
  go_wp2_with fail
  refine (impl_off a c L y _ H1.out.1.ents hnil hfit.out (by omega)).mono ?_
  rintro e w2 ⟨v, rfl, hR, hb⟩
  generalize w1.heap.size = B at *
  obtain ⟨r, hr⟩ : ∃ r, r = (indexOk L && thereE L y) := ⟨_, rfl⟩
  rw [← hr]
  have HR : Hid (r = (indexOk L && thereE L y)) := hr
  obtain ⟨P, hP⟩ : ∃ P, P = if indexOk L then offE L y else [] := ⟨_, rfl⟩
  rw [← hP] at hR
  have HP : Hid (P = if indexOk L then offE L y else []) := hP
  have hPl : P.length ≤ 17 := by
    rw [hP]
    split
    · unfold offE
      split
      · rw [List.length_append, List.length_take, List.length_drop]; omega
      · omega
    · exact Nat.zero_le _
  obtain ⟨ay, cy, rfl, h0y, hcy, hEy⟩ := hR.slice
  have H2 : Hid (DrE w a c L w2 ∧ BoxE B y w2 ∧ EntsAt w2 ay P) := ⟨H1.out.1.next hb, H1.out.2.keep hb, hEy⟩
  have hbx := H2.out.2.1.all
  clear hb hR hEy H1 hr hP
  go_wp2_with fail
  refine (spec_off a c L y _ H2.out.1.ents hnil hcp hfit.out (by omega)).mono ?_
  rintro e w3 ⟨v, rfl, hR, hb⟩
  rw [← HR.out]
  rw [← HP.out] at hR
  obtain ⟨az, cz, rfl, -, hEz⟩ := hR.slice
  have H3 : Hid (DrE w a c L w3 ∧ BoxE B y w3 ∧ EntsAt w3 ay P ∧ EntsAt w3 az P) := ⟨H2.out.1.next hb, H2.out.2.1.keep hb, H2.out.2.2.keep hb, hEz⟩
  clear hb hR hEz H2 hbx
  go_wp2_with fail
  refine (wp_entries ay az cy cz P _ H3.out.2.2.1 H3.out.2.2.2 (by unfold maxLen; omega)).mono ?_
  rintro e w6 ⟨rfl, hb⟩
  have H6 : Hid (DrE w a c L w6 ∧ BoxE B y w6 ∧ EntsAt w6 ay P) := ⟨H3.out.1.next hb, H3.out.2.1.keep hb, H3.out.2.2.1.keep hb⟩
  clear hb H3
  obtain ⟨s, hs⟩ : ∃ s, s = indexOk L := ⟨_, rfl⟩
  have HS : Hid (s = indexOk L) := hs
  clear hs
  cases hr0 : r
  · subst hr0
    have hPo : Hid (P = if s then L else []) := by
      show P = if s then L else []
      rw [HP.out, HS.out]
      cases h : indexOk L
      · rfl
      · have ht : thereE L y = false := by have := HR.out; rw [h] at this; exact this.symm
        unfold offE
        rw [ht]
        rfl
    go_wp2_with fail
    refine (spec_index a c L _ H6.out.1.ents hfit.out hm).mono ?_
    rintro e w7 ⟨rfl, hb⟩
    rw [← HS.out]
    have H7 : Hid (DrE w a c L w7 ∧ EntsAt w7 ay P) := ⟨H6.out.1.next hb, H6.out.2.2.keep hb⟩
    clear hb H6
    cases hs0 : s
    · subst hs0
      have hPn : P = [] := by rw [hPo.out]; rfl
      subst hPn
      go_wp2_with fail
      refine (spec_index a c L _ H7.out.1.ents hfit.out hm).mono ?_
      rintro e w8 ⟨rfl, hb⟩
      rw [← HS.out]
      have H8 : Hid (DrE w a c L w8) := H7.out.1.next hb
      clear hb H7
      go_wp2_with fail
      go_ret
      exact ⟨rfl, H8.out.bel⟩
    · subst hs0
      have hPn : P = L := by rw [hPo.out]; rfl
      subst hPn
      clear HP HR hPo
      go_wp2_with fail
      refine (wp_entries ay a cy c P _ H7.out.2 H7.out.1.ents hm).mono ?_
      rintro e w8 ⟨rfl, hb⟩
      have H8 : Hid (DrE w a c P w8) := H7.out.1.next hb
      clear hb H7
      go_wp2_with fail
      go_ret
      exact ⟨rfl, H8.out.bel⟩
  · subst hr0
    have hri := HR.out.symm
    rw [Bool.and_eq_true] at hri
    obtain ⟨g1, g2⟩ := hri
    obtain ⟨k1, k2, k3, k4⟩ := off_good g1 g2
    have hPi : P = offE L y := by rw [HP.out, if_pos g1]
    rw [← hPi] at k1 k2 k3 k4
    have hQ : Hid (putL P y = L ∧ putOk P y = true ∧ indexOk P = true) := ⟨by rw [(put_good k2).2.2.1]; exact k1, k2, k3⟩
    have hN : Hid ((spanL y y L).length = (spanL y y P).length + 1) := by
      show (spanL y y L).length = (spanL y y P).length + 1
      unfold spanL
      rw [if_pos k3, if_pos g1]
      have := span_ins P y
      rw [k1] at this
      exact this
    have hPf : Hid (∀ d ∈ P, d.fit) := by
      show ∀ d ∈ P, d.fit
      rw [hPi]
      intro d hd
      unfold offE at hd
      rw [g2, if_pos rfl] at hd
      rcases List.mem_append.1 hd with h | h
      · exact hfit.out d (List.mem_of_mem_take h)
      · exact hfit.out d (List.mem_of_mem_drop h)
    have hLP : ((P.length : Int) == (L.length : Int) - 1) = true := beq_iff_eq.2 (by omega)
    have hLw : IntKind.i64.wrap ((L.length : Int) - 1) = (L.length : Int) - 1 := by
      simp [IntKind.wrap, IntKind.bits, IntKind.signed]
      omega
    clear g1 g2 k1 k2 k3 k4 hPi HR HP
    have hbx := H6.out.2.1.all
    go_wp2_with fail
    refine (impl_put ay cy P y _ H6.out.2.2 h0y hPf.out hyf (by omega)).mono ?_
    rintro e w7 ⟨v, rfl, hR, hb⟩
    rw [hQ.out.1] at hR
    rw [hQ.out.2.1]
    obtain ⟨ab, cb, rfl, -, -, hEb⟩ := hR.slice
    have H7 : OffW w a c L B y ay P ab w7 := offw_of ⟨H6.out.1.next hb, H6.out.2.1.keep hb, H6.out.2.2.keep hb, hEb⟩
    clear hb hR hEb H6 hbx
    obtain ⟨I, hI⟩ : ∃ I, I = spanL y y P := ⟨_, rfl⟩
    obtain ⟨J, hJ⟩ : ∃ J, J = spanL y y L := ⟨_, rfl⟩
    rw [← hI, ← hJ] at hN
    have HIJ : Hid (I = spanL y y P ∧ J = spanL y y L) := ⟨hI, hJ⟩
    have hIJ : ((I.length : Int) == (J.length : Int) - 1) = true := beq_iff_eq.2 (by have := hN.out; omega)
    have hJl : J.length ≤ 17 := by
      rw [hJ]
      unfold spanL
      split
      · have := spanIn_len y y L
        omega
      · exact Nat.zero_le _
    have hJw : IntKind.i64.wrap ((J.length : Int) - 1) = (J.length : Int) - 1 := by
      simp [IntKind.wrap, IntKind.bits, IntKind.signed]
      omega
    clear hI hJ
    go_wp2_with fail
    go_region_held3 (fun W => OffW w a c L B y ay P ab W) (first | assumption | exact offw_drew (by assumption))
      (first
        | (go_at_call 14; have hS := ‹OffW w a c L B y ay P ab _›; refine (impl_index ay cy P _ hS.1.2.2.1 h0y hPf.out (by unfold maxLen; omega)).mono ?_; rintro e wA ⟨rfl, hb⟩; rw [hQ.out.2.2]; have hCA := offw_next hS hb; clear hb hS)
        | (go_at_call 23; have hS := ‹OffW w a c L B y ay P ab _›; refine (wp_entries ab a cb c L _ hS.1.2.2.2 hS.1.1.ents hm).mono ?_; rintro e wB ⟨rfl, hb⟩; have hCB := offw_next hS hb; clear hb hS)
        | (go_at_call_of 12 P; have hS := ‹OffW w a c L B y ay P ab _›; refine (impl_find ay cy P y _ hS.1.2.2.1 h0y hPf.out (by omega)).mono ?_; rintro e wC ⟨v, rfl, hO, hb⟩; rw [← HIJ.out.1] at hO; obtain ⟨aC, cC, rfl, -⟩ := hO.slice; have hCC := offw_next hS hb; clear hb hS hO)
        | (go_at_call_of 12 L; have hS := ‹OffW w a c L B y ay P ab _›; refine (impl_find a c L y _ hS.1.1.ents hnil hfit.out (by omega)).mono ?_; rintro e wD ⟨v, rfl, hO, hb⟩; rw [← HIJ.out.2] at hO; obtain ⟨aD, cD, rfl, -⟩ := hO.slice; have hCD := offw_next hS hb; clear hb hS hO))
    all_goals
      have hZ : Hid (Below w.heap.size w _) := (‹OffW w a c L B y ay P ab _›).1.1.bel
      go_wp2_with fail
      go_ret
      exact ⟨rfl, hZ.out⟩

end Go.Proofs.Ytgjhmpgofmmniaa

/- A code that came in, as the draws read it. Over the seat's translation. -/
namespace Go.Proofs.Ytgjhmpgofmmniaa
open Go.ChangeShapes Go.WideShapes Go.ChangeAt Go.RowKit

/-- A slice of bytes that came in, as the draws read it. -/
theorem code_of {H : Type} {enc : TypeId × Value → H} {W : World} {a : Option Addr} {len cap : Nat} {d : DataW H} {p : List MemPlace}
    (h : DataW.Trod enc Try.prog W 0 (fun _ => true) true 22 (.slice a len cap) d p) : len ≤ cap ∧ cap ≤ maxLen ∧ IsCode W.heap.size a len W := by
  obtain ⟨fuel, hf⟩ := h
  rcases open_ints Try.underlying22 Try.underlying5 (by kernel_rfl) hf with ⟨hcs, _⟩ | ⟨x, l, c, zs, hcs, _, hl, hm, hz, _, hcell, hwz⟩
  · simp [Value.cells] at hcs
    obtain ⟨rfl, rfl, rfl⟩ := hcs
    exact ⟨Nat.le_refl _, Nat.zero_le _, Or.inl rfl⟩
  · simp [Value.cells] at hcs
    obtain ⟨rfl, rfl, rfl⟩ := hcs
    refine ⟨hl, hm, ?_⟩
    have hz' : zs.length = cap := by simpa using hz
    by_cases h0 : len = 0
    · exact Or.inl h0
    · obtain ⟨b, off, spot⟩ := x
      have hc := hcell 0 (by omega)
      have hspot : spot = none := by simpa [Addr.add] using World.cell?_spot hc
      subst hspot
      refine Or.inr ⟨b, off, rfl, ?_, fun i hi => ?_⟩
      · have := World.block_lt_of_cell? W _ hc
        simpa [Addr.add] using this
      · have hi' := hcell i (by omega)
        have hw := bounds_u8 (hwz (zs.getD i 0) (by rw [List.getD_eq_getElem?_getD, List.getElem?_eq_getElem (by omega)]; exact List.getElem_mem _))
        refine ⟨zs.getD i 0, ?_, hw.1, by omega⟩
        by_cases i0 : i = 0
        · subst i0; simpa [Addr.add] using hi'
        · simpa [Addr.add, i0] using hi'

end Go.Proofs.Ytgjhmpgofmmniaa
