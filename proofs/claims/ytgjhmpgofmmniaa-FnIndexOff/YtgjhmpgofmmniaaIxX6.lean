/- The walk of laws.FnIndexOff, over the seat's translation. -/
import Derived.Test.YtgjhmpgofmmniaaIxX5
namespace Go.Proofs.Ytgjhmpgofmmniaa
open Go.RowKit

theorem off_good {L : List AEnt} {y : AEnt} (hI : indexOk L = true) (hT : thereE L y = true) : insE (offE L y) y = L ∧ putOk (offE L y) y = true ∧ indexOk (offE L y) = true ∧ (offE L y).length + 1 = L.length := by
  have hA := index_asc hI
  have hx := (thereE_iff y).1 hT
  have hp : posE L y < L.length := (List.getElem?_eq_some_iff.1 hx).1
  have he : offE L y = L.take (posE L y) ++ L.drop (posE L y + 1) := by unfold offE; rw [hT]; rfl
  have hsub : ∀ d ∈ offE L y, d ∈ L := fun d hd => by
    rw [he] at hd
    rcases List.mem_append.1 hd with h | h
    · exact List.mem_of_mem_take h
    · exact List.mem_of_mem_drop h
  have hlen : (offE L y).length + 1 = L.length := by
    rw [he, List.length_append, List.length_take, List.length_drop]
    omega
  have hAP : Asc (offE L y) := by
    intro i c d hc hd
    rw [he] at hc hd
    have hget : ∀ (j : Nat) (e : AEnt), (L.take (posE L y) ++ L.drop (posE L y + 1))[j]? = some e → L[if j < posE L y then j else j + 1]? = some e := fun j e h => by
      have hl : (L.take (posE L y)).length = posE L y := by rw [List.length_take]; omega
      by_cases hj : j < posE L y
      · rw [if_pos hj]
        rw [List.getElem?_append_left (by omega), List.getElem?_take, if_pos hj] at h
        exact h
      · rw [if_neg hj]
        rw [List.getElem?_append_right (by omega), hl, List.getElem?_drop] at h
        rw [show j + 1 = posE L y + 1 + (j - posE L y) by omega]
        exact h
    refine hA.lt ?_ (hget i c hc) (hget (i + 1) d hd)
    split <;> split <;> omega
  have hall := hI
  unfold indexOk at hall
  simp only [Bool.and_eq_true, List.all_eq_true, decide_eq_true_eq] at hall
  have hIP : indexOk (offE L y) = true := by
    unfold indexOk
    simp only [Bool.and_eq_true, List.all_eq_true, decide_eq_true_eq]
    exact ⟨by omega, fun d hd => hall.2.1 d (hsub d hd), (ascB_iff _).2 hAP⟩
  have hins := ins_off hA hT
  have hnt : thereE (offE L y) y = false := by
    have h1 := ins_asc hAP y
    rw [hins, (ascB_iff L).2 hA] at h1
    cases h : thereE (offE L y) y
    · rfl
    · rw [h] at h1; cases h1
  have hyo : y.ok = true := hall.2.1 y (by
    rw [← (List.getElem?_eq_some_iff.1 hx).2]
    exact List.getElem_mem _)
  refine ⟨hins, ?_, hIP, hlen⟩
  unfold putOk
  rw [hIP, hyo, hnt]
  simp only [Bool.not_false, Bool.and_true, Bool.true_and, decide_eq_true_eq]
  omega

/-- What the last line of FnIndexOff reads. -/
abbrev OffW (w : World) (a : Option Addr) (c : Nat) (L : List AEnt) (B : Nat) (y : AEnt) (ay : Option Addr) (P : List AEnt) (ab : Option Addr) (W : World) : Prop :=
  (DrE w a c L W ∧ BoxE B y W ∧ EntsAt W ay P ∧ EntsAt W ab L) ∧ (W.cell? ⟨B, 0, none⟩ = some (.int .i64 y.k) ∧ W.cell? ⟨B, 1, none⟩ = some (.int .i64 y.n) ∧ W.cell? ⟨B, 2, none⟩ = some (.string y.s))
theorem offw_of {w : World} {a : Option Addr} {c : Nat} {L : List AEnt} {B : Nat} {y : AEnt} {ay : Option Addr} {P : List AEnt} {ab : Option Addr} {W : World} (h : DrE w a c L W ∧ BoxE B y W ∧ EntsAt W ay P ∧ EntsAt W ab L) : OffW w a c L B y ay P ab W := ⟨h, h.2.1.c0, h.2.1.c1, h.2.1.c2⟩
theorem offw_next {w : World} {a : Option Addr} {c : Nat} {L : List AEnt} {B : Nat} {y : AEnt} {ay : Option Addr} {P : List AEnt} {ab : Option Addr} {W W' : World} (h : OffW w a c L B y ay P ab W) (hb : Below W.heap.size W W') : OffW w a c L B y ay P ab W' :=
  offw_of ⟨h.1.1.next hb, h.1.2.1.keep hb, h.1.2.2.1.keep hb, h.1.2.2.2.keep hb⟩
theorem offw_drew {w : World} {a : Option Addr} {c : Nat} {L : List AEnt} {B : Nat} {y : AEnt} {ay : Option Addr} {P : List AEnt} {ab : Option Addr} {W : World} (h : OffW w a c L B y ay P ab W) : OffW w a c L B y ay P ab W.drew := offw_next h (Below.refl _ _).drew

set_option maxRecDepth 100000 in
set_option maxHeartbeats 4000000 in
theorem law_ioff (x : Option Addr) (len cap : Nat) (w : World) (hlc : len ≤ cap) (hcap : cap ≤ maxLen) (hc : IsCode w.heap.size x len w) :
    Calls Try.prog 7 #[.slice x len cap] w fun e w' => e = .returned (.bool true) ∧ Below w.heap.size w w' := by
  have hcap' : cap ≤ 9223372036854775807 := hcap
  by_cases hlen : (1048576 : Int) < len
  · go_enter Try.func7, Try.ntmps7
    go_wp2_with fail
    go_ret
    exact ⟨rfl, Below.refl _ _⟩
  go_enter Try.func7, Try.ntmps7
  go_wp2_with fail
  refine (draw_ioff x len cap _ hlc hcap hc).mono ?_
  rintro e w1 ⟨a, c, L, y, rfl, hD, hy⟩
  have hnil := hD.nil
  have hcp := hD.cap
  have hfit : Hid (∀ d ∈ L, d.fit) := hD.fit
  have hyf : y.fit := by unfold AEnt.fit maxLen; omega
  have hl16 := hD.len
  have hm : L.length ≤ maxLen := by unfold maxLen; omega
  have H1 : Hid (DrE w a c L (w1.alloc (.cells #[.int .i64 y.k, .int .i64 y.n, .string y.s, .int .i64 y.id] 29)) ∧ BoxE w1.heap.size y (w1.alloc (.cells #[.int .i64 y.k, .int .i64 y.n, .string y.s, .int .i64 y.id] 29))) := ⟨hD.next (alloc_below _ _), BoxE.new _ _ _⟩
  clear hD hc
  go_wp2_with fail
  refine (impl_off a c L y _ H1.out.1.ents hnil hfit.out (by omega)).mono ?_
  rintro e w2 ⟨v, rfl, hR, hb⟩
  generalize w1.heap.size = B at *
  obtain ⟨r, hr⟩ : ∃ r, r = (indexOk L && thereE L y) := ⟨_, rfl⟩
  rw [← hr]
  have HR : Hid (r = (indexOk L && thereE L y)) := hr
  obtain ⟨P, hP⟩ : ∃ P, P = if indexOk L then offE L y else [] := ⟨_, rfl⟩
  rw [← hP] at hR
  have HP : Hid (P = if indexOk L then offE L y else []) := hP
  have hPl : P.length ≤ 17 := by
    rw [hP]
    split
    · unfold offE
      split
      · rw [List.length_append, List.length_take, List.length_drop]; omega
      · omega
    · exact Nat.zero_le _
  obtain ⟨ay, cy, rfl, h0y, hcy, hEy⟩ := hR.slice
  have H2 : Hid (DrE w a c L w2 ∧ BoxE B y w2 ∧ EntsAt w2 ay P) := ⟨H1.out.1.next hb, H1.out.2.keep hb, hEy⟩
  have hbx := H2.out.2.1.all
  clear hb hR hEy H1 hr hP
  go_wp2_with fail
  refine (spec_off a c L y _ H2.out.1.ents hnil hcp hfit.out (by omega)).mono ?_
  rintro e w3 ⟨v, rfl, hR, hb⟩
  rw [← HR.out]
  rw [← HP.out] at hR
  obtain ⟨az, cz, rfl, -, hEz⟩ := hR.slice
  have H3 : Hid (DrE w a c L w3 ∧ BoxE B y w3 ∧ EntsAt w3 ay P ∧ EntsAt w3 az P) := ⟨H2.out.1.next hb, H2.out.2.1.keep hb, H2.out.2.2.keep hb, hEz⟩
  clear hb hR hEz H2 hbx
  go_wp2_with fail
  refine (wp_entries ay az cy cz P _ H3.out.2.2.1 H3.out.2.2.2 (by unfold maxLen; omega)).mono ?_
  rintro e w6 ⟨rfl, hb⟩
  have H6 : Hid (DrE w a c L w6 ∧ BoxE B y w6 ∧ EntsAt w6 ay P) := ⟨H3.out.1.next hb, H3.out.2.1.keep hb, H3.out.2.2.1.keep hb⟩
  clear hb H3
  obtain ⟨s, hs⟩ : ∃ s, s = indexOk L := ⟨_, rfl⟩
  have HS : Hid (s = indexOk L) := hs
  clear hs
  cases hr0 : r
  · subst hr0
    have hPo : Hid (P = if s then L else []) := by
      show P = if s then L else []
      rw [HP.out, HS.out]
      cases h : indexOk L
      · rfl
      · have ht : thereE L y = false := by have := HR.out; rw [h] at this; exact this.symm
        unfold offE
        rw [ht]
        rfl
    go_wp2_with fail
    refine (spec_index a c L _ H6.out.1.ents hfit.out hm).mono ?_
    rintro e w7 ⟨rfl, hb⟩
    rw [← HS.out]
    have H7 : Hid (DrE w a c L w7 ∧ EntsAt w7 ay P) := ⟨H6.out.1.next hb, H6.out.2.2.keep hb⟩
    clear hb H6
    cases hs0 : s
    · subst hs0
      have hPn : P = [] := by rw [hPo.out]; rfl
      subst hPn
      go_wp2_with fail
      refine (spec_index a c L _ H7.out.1.ents hfit.out hm).mono ?_
      rintro e w8 ⟨rfl, hb⟩
      rw [← HS.out]
      have H8 : Hid (DrE w a c L w8) := H7.out.1.next hb
      clear hb H7
      go_wp2_with fail
      go_ret
      exact ⟨rfl, H8.out.bel⟩
    · subst hs0
      have hPn : P = L := by rw [hPo.out]; rfl
      subst hPn
      clear HP HR hPo
      go_wp2_with fail
      refine (wp_entries ay a cy c P _ H7.out.2 H7.out.1.ents hm).mono ?_
      rintro e w8 ⟨rfl, hb⟩
      have H8 : Hid (DrE w a c P w8) := H7.out.1.next hb
      clear hb H7
      go_wp2_with fail
      go_ret
      exact ⟨rfl, H8.out.bel⟩
  · subst hr0
    have hri := HR.out.symm
    rw [Bool.and_eq_true] at hri
    obtain ⟨g1, g2⟩ := hri
    obtain ⟨k1, k2, k3, k4⟩ := off_good g1 g2
    have hPi : P = offE L y := by rw [HP.out, if_pos g1]
    rw [← hPi] at k1 k2 k3 k4
    have hQ : Hid (putL P y = L ∧ putOk P y = true ∧ indexOk P = true) := ⟨by rw [(put_good k2).2.2.1]; exact k1, k2, k3⟩
    have hN : Hid ((spanL y y L).length = (spanL y y P).length + 1) := by
      show (spanL y y L).length = (spanL y y P).length + 1
      unfold spanL
      rw [if_pos k3, if_pos g1]
      have := span_ins P y
      rw [k1] at this
      exact this
    have hPf : Hid (∀ d ∈ P, d.fit) := by
      show ∀ d ∈ P, d.fit
      rw [hPi]
      intro d hd
      unfold offE at hd
      rw [g2, if_pos rfl] at hd
      rcases List.mem_append.1 hd with h | h
      · exact hfit.out d (List.mem_of_mem_take h)
      · exact hfit.out d (List.mem_of_mem_drop h)
    have hLP : ((P.length : Int) == (L.length : Int) - 1) = true := beq_iff_eq.2 (by omega)
    have hLw : IntKind.i64.wrap ((L.length : Int) - 1) = (L.length : Int) - 1 := by
      simp [IntKind.wrap, IntKind.bits, IntKind.signed]
      omega
    clear g1 g2 k1 k2 k3 k4 hPi HR HP
    have hbx := H6.out.2.1.all
    go_wp2_with fail
    refine (impl_put ay cy P y _ H6.out.2.2 h0y hPf.out hyf (by omega)).mono ?_
    rintro e w7 ⟨v, rfl, hR, hb⟩
    rw [hQ.out.1] at hR
    rw [hQ.out.2.1]
    obtain ⟨ab, cb, rfl, -, -, hEb⟩ := hR.slice
    have H7 : OffW w a c L B y ay P ab w7 := offw_of ⟨H6.out.1.next hb, H6.out.2.1.keep hb, H6.out.2.2.keep hb, hEb⟩
    clear hb hR hEb H6 hbx
    obtain ⟨I, hI⟩ : ∃ I, I = spanL y y P := ⟨_, rfl⟩
    obtain ⟨J, hJ⟩ : ∃ J, J = spanL y y L := ⟨_, rfl⟩
    rw [← hI, ← hJ] at hN
    have HIJ : Hid (I = spanL y y P ∧ J = spanL y y L) := ⟨hI, hJ⟩
    have hIJ : ((I.length : Int) == (J.length : Int) - 1) = true := beq_iff_eq.2 (by have := hN.out; omega)
    have hJl : J.length ≤ 17 := by
      rw [hJ]
      unfold spanL
      split
      · have := spanIn_len y y L
        omega
      · exact Nat.zero_le _
    have hJw : IntKind.i64.wrap ((J.length : Int) - 1) = (J.length : Int) - 1 := by
      simp [IntKind.wrap, IntKind.bits, IntKind.signed]
      omega
    clear hI hJ
    go_wp2_with fail
    go_region_held3 (fun W => OffW w a c L B y ay P ab W) (first | assumption | exact offw_drew (by assumption))
      (first
        | (go_at_call 14; have hS := ‹OffW w a c L B y ay P ab _›; refine (impl_index ay cy P _ hS.1.2.2.1 h0y hPf.out (by unfold maxLen; omega)).mono ?_; rintro e wA ⟨rfl, hb⟩; rw [hQ.out.2.2]; have hCA := offw_next hS hb; clear hb hS)
        | (go_at_call 23; have hS := ‹OffW w a c L B y ay P ab _›; refine (wp_entries ab a cb c L _ hS.1.2.2.2 hS.1.1.ents hm).mono ?_; rintro e wB ⟨rfl, hb⟩; have hCB := offw_next hS hb; clear hb hS)
        | (go_at_call_of 12 P; have hS := ‹OffW w a c L B y ay P ab _›; refine (impl_find ay cy P y _ hS.1.2.2.1 h0y hPf.out (by omega)).mono ?_; rintro e wC ⟨v, rfl, hO, hb⟩; rw [← HIJ.out.1] at hO; obtain ⟨aC, cC, rfl, -⟩ := hO.slice; have hCC := offw_next hS hb; clear hb hS hO)
        | (go_at_call_of 12 L; have hS := ‹OffW w a c L B y ay P ab _›; refine (impl_find a c L y _ hS.1.1.ents hnil hfit.out (by omega)).mono ?_; rintro e wD ⟨v, rfl, hO, hb⟩; rw [← HIJ.out.2] at hO; obtain ⟨aD, cD, rfl, -⟩ := hO.slice; have hCD := offw_next hS hb; clear hb hS hO))
    all_goals
      have hZ : Hid (Below w.heap.size w _) := (‹OffW w a c L B y ay P ab _›).1.1.bel
      go_wp2_with fail
      go_ret
      exact ⟨rfl, hZ.out⟩

end Go.Proofs.Ytgjhmpgofmmniaa
