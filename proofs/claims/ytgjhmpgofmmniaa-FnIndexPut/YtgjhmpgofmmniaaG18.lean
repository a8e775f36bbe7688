/- The contract of spec.IndexPut, over the seat's translation. -/
import Derived.Test.YtgjhmpgofmmniaaIxR1
import Derived.Test.YtgjhmpgofmmniaaG16
import Derived.Test.YtgjhmpgofmmniaaG14
import Derived.Test.YtgjhmpgofmmniaaG17
import Derived.Test.YtgjhmpgofmmniaaG11
import Derived.Test.YtgjhmpgofmmniaaRows
import Derived.Test.YtgjhmpgofmmniaaG02
import Derived.ProofKit
import Derived.OpenShut
import Derived.ChangeOld
import Derived.Below
namespace Go.Proofs.Ytgjhmpgofmmniaa
open Go.RowKit

theorem ins_fit {L : List AEnt} {x : AEnt} (hf : ∀ c ∈ L, c.fit) (hx : x.fit) : ∀ c ∈ insE L x, c.fit := fun c hc => by
  unfold insE at hc
  rcases List.mem_append.1 hc with h | h
  · exact hf c (List.mem_of_mem_take h)
  · rcases List.mem_cons.1 h with h | h
    · rw [h]; exact hx
    · exact hf c (List.mem_of_mem_drop h)

set_option maxRecDepth 100000 in
set_option maxHeartbeats 2000000 in
theorem spec_put (a : Option Addr) (cap : Nat) (L : List AEnt) (x : AEnt) (w : World) (hL : EntsAt w a L) (h0 : a = none → cap = 0) (hc : L.length ≤ cap) (hf : ∀ c ∈ L, c.fit) (hx : x.fit) (hm : L.length ≤ 1048576) :
    Calls Try.prog 22 #[.slice a L.length cap, .agg #[.int .i64 x.k, .int .i64 x.n, .string x.s, .int .i64 x.id]] w
      fun e w' => ∃ v, e = .returned (.tuple #[v, .bool (putOk L x)]) ∧ OwnE w.heap.size v (putL L x) w' ∧ Below w.heap.size w w' := by
  have hm' : L.length ≤ maxLen := by unfold maxLen; omega
  have bA : Below w.heap.size w (w.alloc (.cells #[.int .i64 x.k, .int .i64 x.n, .string x.s, .int .i64 x.id] 29)) := (Below.refl _ _).alloc (Nat.le_refl _) _
  have nB := Box.start w [.int .i64 x.k, .int .i64 x.n, .string x.s, .int .i64 x.id] 29
  cases hI : indexOk L
  · have hP : putOk L x = false := by rw [putOk, hI]; rfl
    have hQ : putL L x = [] := by rw [putL, hP, if_neg (by decide), okE, hI]; rfl
    rw [hP, hQ]
    have hLA := hL.keep bA
    have HB : Hid (Below w.heap.size w (w.alloc (.cells #[.int .i64 x.k, .int .i64 x.n, .string x.s, .int .i64 x.id] 29))) := bA
    clear bA hL nB hP hQ
    go_enter Try.func22, Try.ntmps22
    go_wp2_with fail
    refine (spec_index _ _ _ _ hLA hf hm').mono ?_
    rintro e w1 ⟨rfl, hb⟩
    rw [hI]
    have hB : Hid (Below w.heap.size w w1) := HB.out.trans (hb.mono (by simp))
    clear hb hLA HB
    have hM := OwnE.made w.heap.size w1 hB.out.size
    go_wp2_with fail
    go_ret2
    exact ⟨_, rfl, hM, hB.out.alloc hB.out.size _⟩
  have hOk : Hid (indexOk L = true) := hI
  have hLA : Hid (EntsAt _ a L) := hL.keep bA
  have HB : Hid (Below w.heap.size w (w.alloc (.cells #[.int .i64 x.k, .int .i64 x.n, .string x.s, .int .i64 x.id] 29)) ∧ Box w.heap.size [.int .i64 x.k, .int .i64 x.n, .string x.s, .int .i64 x.id] (w.alloc (.cells #[.int .i64 x.k, .int .i64 x.n, .string x.s, .int .i64 x.id] 29))) := ⟨bA, nB⟩
  clear bA hL nB
  go_enter Try.func22, Try.ntmps22
  go_wp2_with fail
  refine (spec_index _ _ _ _ hLA.out hf hm').mono ?_
  rintro e w1 ⟨rfl, hb⟩
  rw [hI]
  have hB1 : Hid (Below w.heap.size w w1) := HB.out.1.trans (hb.mono (by simp))
  have hL1 : Hid (EntsAt w1 a L) := hLA.out.keep hb
  have hX := (HB.out.2.next hb).four
  clear hb hLA HB
  go_wp2_with fail
  refine (l8_put a cap L x _ hL1.out h0 hc hm).mono ?_
  rintro e w2 ⟨v, rfl, hv, hb⟩
  obtain ⟨a2, c2, hV, -, hE2⟩ := hv.slice
  subst hV
  have hB2 : Hid (Below w.heap.size w w2) := hB1.out.trans (hb.mono hB1.out.size)
  have hL2 : Hid (EntsAt w2 a L) := hL1.out.keep hb
  have hO2 : Hid (OwnE w.heap.size (.slice a2 (insE L x).length c2) (insE L x) w2) := hv.mono hB1.out.size
  clear hb hB1 hL1 hX hv
  go_wp2_with fail
  refine (spec_index a2 c2 (insE L x) _ hE2 (ins_fit hf hx) (by rw [ins_len]; unfold maxLen; omega)).mono ?_
  rintro e w3 ⟨rfl, hb⟩
  have hB3 : Hid (Below w.heap.size w w3) := hB2.out.trans (hb.mono hB2.out.size)
  have hL3 : Hid (EntsAt w3 a L) := hL2.out.keep hb
  have hO3 : Hid (OwnE w.heap.size (.slice a2 (insE L x).length c2) (insE L x) w3) := hO2.out.next hb
  have hP : Hid (indexOk (insE L x) = putOk L x) := by
    show indexOk (insE L x) = putOk L x
    rw [ins_ok hOk.out, putOk, hOk.out, Bool.true_and]
  clear hb hB2 hL2 hO2 hE2 hI
  rw [hP.out]
  cases hT : putOk L x
  · have hQ : Hid (putL L x = L) := by show putL L x = L; rw [putL, hT, if_neg (by decide), okE, hOk.out]; rfl
    clear hO3
    go_wp2_with (at_builtin; refine append_ents rfl _ _ rfl w.heap.size _ [] rfl (OwnE.made w.heap.size w3 hB3.out.size) a _ cap L rfl rfl (hL3.out.keep ((Below.refl _ _).alloc (Nat.le_refl _) _)) h0 (by simp; omega) (by have := hB3.out.size; simp; omega) ?_; intro a4 n4 c4 w4 ho hg hn hc')
    have hn' : n4 = L.length := by simpa using hn
    subst hn'
    have hB4 : Hid (Below w.heap.size w w4) := (hB3.out.alloc hB3.out.size _).trans hg
    have ho4 : Hid (OwnE w.heap.size (.slice a4 L.length c4) L w4) := ho
    clear ho hg
    go_ret2
    exact ⟨.slice a4 L.length c4, by rw [hT]; rfl, by rw [hQ.out]; exact ho4.out, hB4.out⟩
  · have hQ : Hid (putL L x = insE L x) := by show putL L x = insE L x; rw [putL, hT, if_pos rfl]
    go_wp2_with fail
    go_ret2
    exact ⟨.slice a2 (insE L x).length c2, by rw [hT]; rfl, by rw [hQ.out]; exact hO3.out, hB3.out⟩

end Go.Proofs.Ytgjhmpgofmmniaa

/- Facts on lists in order: what is put in and taken out; what has one value. -/
namespace Go.Proofs.Ytgjhmpgofmmniaa
open Go.RowKit

theorem ins_at (L : List AEnt) (x : AEnt) (hA : Asc L) : (insE L x)[posE L x]? = some x := by
  rw [ins_get L x _ (isAt_pos hA x).1, if_neg (by omega), if_pos rfl]

/-- What is put in and taken out again is as it was. -/
theorem off_ins {L : List AEnt} (hA : Asc L) {x : AEnt} (hT : thereE L x = false) : offE (insE L x) x = L := by
  have hp := (isAt_pos hA x).1
  have hI : Asc (insE L x) := (ascB_iff _).1 (by rw [ins_asc hA, hT]; rfl)
  have hx := ins_at L x hA
  rw [offE, at_there hI hx, if_pos rfl, ← at_pos hI hx]
  have hl : (L.take (posE L x)).length = posE L x := by rw [List.length_take, Nat.min_eq_left hp]
  have h1 : (insE L x).take (posE L x) = L.take (posE L x) := by
    unfold insE
    rw [List.take_append_of_le_length (by omega), List.take_of_length_le (by omega)]
  have h2 : (insE L x).drop (posE L x + 1) = L.drop (posE L x) := by
    unfold insE
    rw [List.drop_append, List.drop_of_length_le (by omega), List.nil_append, hl, show posE L x + 1 - posE L x = 1 by omega]
    rfl
  rw [h1, h2, List.take_append_drop]

/-- What is taken out and put in again is as it was. -/
theorem ins_off {L : List AEnt} (hA : Asc L) {x : AEnt} (hT : thereE L x = true) : insE (offE L x) x = L := by
  have hx := (thereE_iff x).1 hT
  have hp : posE L x < L.length := (List.getElem?_eq_some_iff.1 hx).1
  have hl : (L.take (posE L x)).length = posE L x := by rw [List.length_take]; omega
  have hO : offE L x = L.take (posE L x) ++ L.drop (posE L x + 1) := by rw [offE, hT, if_pos rfl]
  have hq : posE (offE L x) x = posE L x := by
    rw [hO]
    refine tw_len (p := fun c => lessE c x) _ _ (by simp; omega) (fun t c ht hc => ?_) (fun c hc => ?_)
    · rw [List.getElem?_append_left (by omega), List.getElem?_take, if_pos ht] at hc
      exact hA.lt ht hc hx
    · rw [List.getElem?_append_right (by omega), hl, Nat.sub_self, List.getElem?_drop] at hc
      exact lessE_asym _ _ (hA.lt (by omega) hx hc)
  unfold insE
  rw [hq, hO, List.take_append_of_le_length (by omega), List.take_of_length_le (by omega), List.drop_append, List.drop_of_length_le (by omega), List.nil_append, hl, Nat.sub_self, List.drop_zero]
  have hd : x :: L.drop (posE L x + 1) = L.drop (posE L x) := by
    rw [List.drop_eq_getElem_cons hp]
    congr 1
    rw [List.getElem?_eq_getElem hp] at hx
    exact (Option.some.inj hx).symm
  rw [hd, List.take_append_drop]

/-- By what is put in the entries of its value grow by one. -/
theorem span_ins (L : List AEnt) (x : AEnt) : (spanIn x x (insE L x)).length = (spanIn x x L).length + 1 := by
  unfold spanIn insE
  have h := congrArg (fun l => (l.filter (inSpan x x)).length) (List.take_append_drop (posE L x) L)
  simp only [List.filter_append, List.length_append] at h
  have hx : inSpan x x x = true := by rw [inSpan_self, eqV_refl]
  simp only [List.length_map, List.filter_append, List.length_append, List.filter_cons, hx, if_true, List.length_cons]
  omega

/-- Of the entries of x's value one alone has x's Id. -/
theorem ids_one {M : List AEnt} (hA : Asc M) {x : AEnt} (hx : M[posE M x]? = some x) : ((spanIn x x M).filter fun i => decide (i = x.id)).length = 1 := by
  have hp : posE M x < M.length := (List.getElem?_eq_some_iff.1 hx).1
  have hM : M = M.take (posE M x) ++ x :: M.drop (posE M x + 1) := by
    have hd : x :: M.drop (posE M x + 1) = M.drop (posE M x) := by
      rw [List.drop_eq_getElem_cons hp]
      congr 1
      rw [List.getElem?_eq_getElem hp] at hx
      exact (Option.some.inj hx).symm
    rw [hd, List.take_append_drop]
  have hl : (M.take (posE M x)).length = posE M x := by rw [List.length_take]; omega
  unfold spanIn
  rw [List.filter_map, List.length_map, List.filter_filter]
  have hq : (fun c : AEnt => ((fun i => decide (i = x.id)) ∘ AEnt.id) c && inSpan x x c) = fun c => eqE c x := by
    funext c
    rw [inSpan_self]
    unfold eqE
    show (decide (c.id = x.id) && eqV c x) = _
    rw [Bool.and_comm]
    rfl
  rw [hq]
  have h1 : (M.take (posE M x)).filter (fun c => eqE c x) = [] := by
    rw [List.filter_eq_nil_iff]
    intro c hc
    obtain ⟨t, ht, rfl⟩ := List.mem_iff_getElem.1 hc
    have hlt : lessE (M.take (posE M x))[t] x = true := by
      refine hA.lt (i := t) (j := posE M x) (by omega) ?_ hx
      rw [List.getElem_take, List.getElem?_eq_getElem (by omega)]
    intro he
    rw [eqE_ext he, lessE_irr] at hlt
    cases hlt
  have h2 : (M.drop (posE M x + 1)).filter (fun c => eqE c x) = [] := by
    rw [List.filter_eq_nil_iff]
    intro c hc
    obtain ⟨t, ht, rfl⟩ := List.mem_iff_getElem.1 hc
    rw [List.length_drop] at ht
    have hlt : lessE x (M.drop (posE M x + 1))[t] = true := by
      refine hA.lt (i := posE M x) (j := posE M x + 1 + t) (by omega) hx ?_
      rw [List.getElem_drop, List.getElem?_eq_getElem (by omega)]
    intro he
    rw [eqE_ext he, lessE_irr] at hlt
    cases hlt
  generalize M.drop (posE M x + 1) = B at h2 hM
  generalize M.take (posE M x) = A at h1 hM
  rw [hM, List.filter_append, List.filter_cons, h1, h2, eqE_refl]
  rfl

end Go.Proofs.Ytgjhmpgofmmniaa

/- The walk of laws.FnIndexPut, over the seat's translation. -/
namespace Go.Proofs.Ytgjhmpgofmmniaa
open Go.RowKit

/-- How many of the first k ids are this one. -/
def cntI (z : Int) (I : List Int) (k : Nat) : Nat := ((I.take k).filter fun i => decide (i = z)).length
theorem cntI_next {z : Int} {I : List Int} {k : Nat} {i : Int} (h : I[k]? = some i) : cntI z I (k + 1) = cntI z I k + (if i = z then 1 else 0) := by
  obtain ⟨hk, rfl⟩ := List.getElem?_eq_some_iff.1 h
  unfold cntI
  rw [List.take_succ_eq_append_getElem hk, List.filter_append, List.length_append]
  congr 1
  by_cases e : I[k] = z <;> simp [e]
theorem cntI_le (z : Int) (I : List Int) (k : Nat) : cntI z I k ≤ I.length := by
  unfold cntI
  have h1 := List.length_filter_le (fun i => decide (i = z)) (I.take k)
  have h2 : (I.take k).length ≤ I.length := by rw [List.length_take]; omega
  omega
theorem cntI_all (z : Int) (I : List Int) : cntI z I I.length = (I.filter fun i => decide (i = z)).length := by
  unfold cntI
  rw [List.take_length]

theorem put_bad {L : List AEnt} {x : AEnt} (h : putOk L x = false) : putL L x = okE L := by
  unfold putL
  rw [h]
  rfl
theorem put_good {L : List AEnt} {x : AEnt} (h : putOk L x = true) : indexOk L = true ∧ thereE L x = false ∧ putL L x = insE L x ∧ indexOk (insE L x) = true := by
  have h' := h
  unfold putOk at h
  simp only [Bool.and_eq_true, Bool.not_eq_true', decide_eq_true_eq] at h
  obtain ⟨h1, h2, h3, h4⟩ := h
  refine ⟨h1, h4, by unfold putL; rw [h']; rfl, ?_⟩
  rw [ins_ok h1, h2, h4]
  simp [h3]
theorem there_ins {L : List AEnt} {x : AEnt} (hA : Asc L) (hI : indexOk (insE L x) = true) : thereE (insE L x) x = true := at_there (index_asc hI) (ins_at L x hA)
theorem okE_good {L : List AEnt} (h : indexOk L = true) : okE L = L := by unfold okE; rw [h]; rfl
theorem okE_bad {L : List AEnt} (h : indexOk L = false) : okE L = [] := by unfold okE; rw [h]; rfl

set_option maxRecDepth 100000 in
set_option maxHeartbeats 4000000 in
theorem law_iput (x : Option Addr) (len cap : Nat) (w : World) (hlc : len ≤ cap) (hcap : cap ≤ maxLen) (hc : IsCode w.heap.size x len w) :
    Calls Try.prog 6 #[.slice x len cap] w fun e w' => e = .returned (.bool true) ∧ Below w.heap.size w w' := by
  have hcap' : cap ≤ 9223372036854775807 := hcap
  by_cases hlen : (1048576 : Int) < len
  · go_enter Try.func6, Try.ntmps6
    go_wp2_with fail
    go_ret
    exact ⟨rfl, Below.refl _ _⟩
  go_enter Try.func6, Try.ntmps6
  go_wp2_with fail
  refine (draw_iput x len cap _ hlc hcap hc).mono ?_
  rintro e w1 ⟨a, c, L, y, rfl, hD, hy⟩
  have hnil := hD.nil
  have hcp := hD.cap
  have hfit : Hid (∀ d ∈ L, d.fit) := hD.fit
  have hyf : y.fit := by unfold AEnt.fit maxLen; omega
  have hl16 := hD.len
  have hm : L.length ≤ maxLen := by unfold maxLen; omega
  have H1 : Hid (DrE w a c L (w1.alloc (.cells #[.int .i64 y.k, .int .i64 y.n, .string y.s, .int .i64 y.id] 29)) ∧ BoxE w1.heap.size y (w1.alloc (.cells #[.int .i64 y.k, .int .i64 y.n, .string y.s, .int .i64 y.id] 29))) := ⟨hD.next (alloc_below _ _), BoxE.new _ _ _⟩
  clear hD hc
  go_wp2_with fail
  refine (impl_put a c L y _ H1.out.1.ents hnil hfit.out hyf (by omega)).mono ?_
  rintro e w2 ⟨v, rfl, hR, hb⟩
  generalize w1.heap.size = B at *
  obtain ⟨r, hr⟩ : ∃ r, r = putOk L y := ⟨_, rfl⟩
  rw [← hr]
  have HR : Hid (r = putOk L y) := hr
  obtain ⟨P, hP⟩ : ∃ P, P = putL L y := ⟨_, rfl⟩
  rw [← hP] at hR
  have HP : Hid (P = putL L y) := hP
  have hPl : P.length ≤ 17 := by rw [hP]; exact putL_len L y
  obtain ⟨ay, cy, rfl, h0y, hcy, hEy⟩ := hR.slice
  have H2 : Hid (DrE w a c L w2 ∧ BoxE B y w2 ∧ EntsAt w2 ay P) := ⟨H1.out.1.next hb, H1.out.2.keep hb, hEy⟩
  have hbx := H2.out.2.1.all
  clear hb hR hEy H1 hr hP
  go_wp2_with fail
  refine (spec_put a c L y _ H2.out.1.ents hnil hcp hfit.out hyf (by omega)).mono ?_
  rintro e w3 ⟨v, rfl, hR, hb⟩
  rw [← HR.out]
  rw [← HP.out] at hR
  obtain ⟨az, cz, rfl, -, hEz⟩ := hR.slice
  have H3 : Hid (DrE w a c L w3 ∧ BoxE B y w3 ∧ EntsAt w3 ay P ∧ EntsAt w3 az P) := ⟨H2.out.1.next hb, H2.out.2.1.keep hb, H2.out.2.2.keep hb, hEz⟩
  clear hb hR hEz H2 hbx
  go_wp2_with fail
  refine (wp_entries ay az cy cz P _ H3.out.2.2.1 H3.out.2.2.2 (by unfold maxLen; omega)).mono ?_
  rintro e w4 ⟨rfl, hb⟩
  have H4 : Hid (DrE w a c L w4 ∧ BoxE B y w4 ∧ EntsAt w4 ay P) := ⟨H3.out.1.next hb, H3.out.2.1.keep hb, H3.out.2.2.1.keep hb⟩
  clear hb H3
  go_wp2_with fail
  refine (impl_index a c L _ H4.out.1.ents hnil hfit.out hm).mono ?_
  rintro e w5 ⟨rfl, hb⟩
  have H5 : Hid (DrE w a c L w5 ∧ BoxE B y w5 ∧ EntsAt w5 ay P) := ⟨H4.out.1.next hb, H4.out.2.1.keep hb, H4.out.2.2.keep hb⟩
  clear hb H4
  obtain ⟨s, hs⟩ : ∃ s, s = indexOk L := ⟨_, rfl⟩
  rw [← hs]
  have HS : Hid (s = indexOk L) := hs
  clear hs
  go_wp2_with fail
  refine (spec_index a c L _ H5.out.1.ents hfit.out hm).mono ?_
  rintro e w6 ⟨rfl, hb⟩
  rw [← HS.out]
  have H6 : Hid (DrE w a c L w6 ∧ BoxE B y w6 ∧ EntsAt w6 ay P) := ⟨H5.out.1.next hb, H5.out.2.1.keep hb, H5.out.2.2.keep hb⟩
  clear hb H5
  cases hr0 : r
  · subst hr0
    have hPo : Hid (P = okE L) := by show P = okE L; rw [HP.out, put_bad HR.out.symm]
    go_wp2_with fail
    refine (spec_index a c L _ H6.out.1.ents hfit.out hm).mono ?_
    rintro e w7 ⟨rfl, hb⟩
    rw [← HS.out]
    have H7 : Hid (DrE w a c L w7 ∧ EntsAt w7 ay P) := ⟨H6.out.1.next hb, H6.out.2.2.keep hb⟩
    clear hb H6
    cases hs0 : s
    · subst hs0
      have hPn : P = [] := by rw [hPo.out, okE_bad HS.out.symm]
      subst hPn
      go_wp2_with fail
      refine (spec_index a c L _ H7.out.1.ents hfit.out hm).mono ?_
      rintro e w8 ⟨rfl, hb⟩
      rw [← HS.out]
      have H8 : Hid (DrE w a c L w8) := H7.out.1.next hb
      clear hb H7
      go_wp2_with fail
      go_ret
      exact ⟨rfl, H8.out.bel⟩
    · subst hs0
      have hPn : P = L := by rw [hPo.out, okE_good HS.out.symm]
      subst hPn
      clear HP HR hPo
      go_wp2_with fail
      refine (wp_entries ay a cy c P _ H7.out.2 H7.out.1.ents hm).mono ?_
      rintro e w8 ⟨rfl, hb⟩
      have H8 : Hid (DrE w a c P w8) := H7.out.1.next hb
      clear hb H7
      go_wp2_with fail
      go_ret
      exact ⟨rfl, H8.out.bel⟩
  · subst hr0
    obtain ⟨g1, g2, g3, g4⟩ := put_good HR.out.symm
    have hPi : P = insE L y := by rw [HP.out, g3]
    have hAs := index_asc g1
    have hF : Hid (offE P y = L) := by show offE P y = L; rw [hPi]; exact off_ins hAs g2
    have hT : Hid (thereE P y = true) := by show thereE P y = true; rw [hPi]; exact there_ins hAs g4
    have hG : Hid (indexOk P = true) := by show indexOk P = true; rw [hPi]; exact g4
    have hN : Hid ((spanL y y P).length = (spanL y y L).length + 1 ∧ ((spanL y y P).filter fun i => decide (i = y.id)).length = 1) := by
      unfold spanL
      rw [if_pos hG.out, if_pos g1]
      refine ⟨by rw [hPi]; exact span_ins L y, ids_one (index_asc hG.out) ((thereE_iff y).1 hT.out)⟩
    have hPf : Hid (∀ d ∈ P, d.fit) := by show ∀ d ∈ P, d.fit; rw [hPi]; exact ins_fit hfit.out hyf
    have hSL : s = true := by rw [HS.out, g1]
    subst hSL
    clear g1 g2 g3 g4 hPi hAs HR HP
    have hbx := H6.out.2.1.all
    go_wp2_with fail
    refine (impl_off ay cy P y _ H6.out.2.2 h0y hPf.out (by omega)).mono ?_
    rintro e w7 ⟨v, rfl, hR, hb⟩
    rw [hG.out, if_pos rfl, hF.out] at hR
    rw [hG.out, hT.out]
    obtain ⟨ab, cb, rfl, -, -, hEb⟩ := hR.slice
    have H7 : Hid (DrE w a c L w7 ∧ BoxE B y w7 ∧ EntsAt w7 ay P ∧ EntsAt w7 ab L) := ⟨H6.out.1.next hb, H6.out.2.1.keep hb, H6.out.2.2.keep hb, hEb⟩
    clear hb hR hEb H6 hbx
    have hbx := H7.out.2.1.all
    go_wp2_with fail
    refine (impl_find ay cy P y _ H7.out.2.2.1 h0y hPf.out (by omega)).mono ?_
    rintro e w8 ⟨v, rfl, hO, hb⟩
    obtain ⟨ai, ci, rfl, hI⟩ := hO.slice
    have H8 : Hid (DrE w a c L w8 ∧ BoxE B y w8 ∧ EntsAt w8 ay P ∧ EntsAt w8 ab L ∧ IntsAt w8 ai (spanL y y P)) := ⟨H7.out.1.next hb, H7.out.2.1.keep hb, H7.out.2.2.1.keep hb, H7.out.2.2.2.keep hb, hI⟩
    clear hb hO hI H7 hbx
    obtain ⟨I, hI⟩ : ∃ I, I = spanL y y P := ⟨_, rfl⟩
    obtain ⟨J, hJ⟩ : ∃ J, J = spanL y y L := ⟨_, rfl⟩
    have hIl : I.length ≤ 17 := by
      rw [hI]
      unfold spanL
      rw [if_pos hG.out]
      have := spanIn_len y y P
      omega
    rw [← hI] at H8 hN ⊢
    rw [← hJ] at hN
    have HJ : Hid (J = spanL y y L) := hJ
    clear hI hJ
    go_wp2_with fail
    go_loopw [11, 13] (fun n i wr => ∃ k : Nat, k ≤ I.length ∧ i = .int .i64 k ∧ n = .int .i64 ((cntI y.id I k : Nat) : Int) ∧ Hid (DrE w a c L wr ∧ BoxE B y wr ∧ EntsAt wr ay P ∧ EntsAt wr ab L ∧ IntsAt wr ai I)) (fun _ i _ => I.length - (intOf i).toNat)
    case atStart => exact ⟨0, Nat.zero_le _, rfl, rfl, H8.out⟩
    case round =>
      obtain ⟨k, hk, rfl, rfl, hH⟩ := hrel
      clear H8
      by_cases hlt : k < I.length
      · obtain ⟨b2, o2, hab2, hbl2, hr2⟩ := hH.out.2.2.2.2.at hlt
        have hIk : I[k]? = some I[k] := List.getElem?_eq_getElem hlt
        revert hr2 hIk
        generalize I[k] = z
        intro hr2 hIk
        have hix : ∀ wx, (Instr.indexAt 30 (.slice ai I.length ci) (.int .i64 k)).run Try.prog wx = .ok (.pointer (some ⟨b2, o2 + k, none⟩)) wx := fun wx => by
          rw [hab2]; exact run_ix1 _ _ _ _ _ _ _ wx hlt Try.underlying30 (Try.sizeOf3 wx)
        have hbx := hH.out.2.1.all
        have hcn := cntI_next (z := y.id) hIk
        have hcl := cntI_le y.id I k
        obtain ⟨m, hm0⟩ : ∃ m, m = cntI y.id I k := ⟨_, rfl⟩
        rw [← hm0] at hcn hcl ⊢
        have hC : Hid (cntI y.id I (k + 1) = m + if z = y.id then 1 else 0) := hcn
        clear hab2 hbl2 hIk hcn hm0
        by_cases hz : z = y.id
        · have hC2 : Hid (cntI y.id I (k + 1) = m + 1) := by show cntI y.id I (k + 1) = m + 1; rw [hC.out, if_pos hz]
          subst hz
          go_wp2_with fail
          go_quiet (fail)
          have hP : Hid (DrE w a c L (wr.drewN nq) ∧ BoxE B y (wr.drewN nq) ∧ EntsAt (wr.drewN nq) ay P ∧ EntsAt (wr.drewN nq) ab L ∧ IntsAt (wr.drewN nq) ai I) := by
            have hb : Below wr.heap.size wr (wr.drewN nq) := quiet_below _ _ _
            exact ⟨hH.out.1.next hb, hH.out.2.1.keep hb, hH.out.2.2.1.keep hb, hH.out.2.2.2.1.keep hb, hH.out.2.2.2.2.keep hb⟩
          clear hbx hr2
          go_wp2_with fail
          go_roundw
          case rel => exact ⟨k + 1, by omega, by go_num, by rw [hC2.out]; go_num, hP.out⟩
          case measure => simp [intOf]; omega
        · have hC2 : Hid (cntI y.id I (k + 1) = m) := by show cntI y.id I (k + 1) = m; rw [hC.out, if_neg hz]; rfl
          have hzb : (z == y.id) = false := by simp [hz]
          go_wp2_with fail
          go_quiet (fail)
          have hP : Hid (DrE w a c L (wr.drewN nq) ∧ BoxE B y (wr.drewN nq) ∧ EntsAt (wr.drewN nq) ay P ∧ EntsAt (wr.drewN nq) ab L ∧ IntsAt (wr.drewN nq) ai I) := by
            have hb : Below wr.heap.size wr (wr.drewN nq) := quiet_below _ _ _
            exact ⟨hH.out.1.next hb, hH.out.2.1.keep hb, hH.out.2.2.1.keep hb, hH.out.2.2.2.1.keep hb, hH.out.2.2.2.2.keep hb⟩
          clear hbx hr2
          go_wp2_with fail
          go_roundw
          case rel => exact ⟨k + 1, by omega, by go_num, by rw [hC2.out], hP.out⟩
          case measure => simp [intOf]; omega
      · have hkl : k = I.length := by omega
        subst hkl
        rw [cntI_all, hN.out.2]
        have hIJ : (I.length : Int) = (J.length : Int) + 1 := by have := hN.out.1; omega
        have hH9 : Hid (DrE w a c L wr ∧ BoxE B y wr ∧ EntsAt wr ay P ∧ EntsAt wr ab L) := ⟨hH.out.1, hH.out.2.1, hH.out.2.2.1, hH.out.2.2.2.1⟩
        clear hH hlt hk hN hF hT
        go_wp2_with fail
        refine (impl_index ay cy P _ hH9.out.2.2.1 h0y hPf.out (by unfold maxLen; omega)).mono ?_
        rintro e w9 ⟨rfl, hb⟩
        rw [hG.out]
        have H9 : Hid (DrE w a c L w9 ∧ BoxE B y w9 ∧ EntsAt w9 ab L) := ⟨hH9.out.1.next hb, hH9.out.2.1.keep hb, hH9.out.2.2.2.keep hb⟩
        clear hb hH9
        go_wp2_with fail
        refine (wp_entries ab a cb c L _ H9.out.2.2 H9.out.1.ents hm).mono ?_
        rintro e w10 ⟨rfl, hb⟩
        have H10 : Hid (DrE w a c L w10 ∧ BoxE B y w10) := ⟨H9.out.1.next hb, H9.out.2.1.keep hb⟩
        clear hb H9
        have hbx := H10.out.2.all
        go_wp2_with fail
        refine (impl_find a c L y _ H10.out.1.ents hnil hfit.out (by omega)).mono ?_
        rintro e w11 ⟨v, rfl, hO, hb⟩
        rw [← HJ.out] at hO
        obtain ⟨aj, cj, rfl, -⟩ := hO.slice
        have H11 : Hid (DrE w a c L w11) := H10.out.1.next hb
        clear hb hO H10 hbx
        go_wp2_with fail
        go_ret
        exact ⟨rfl, H11.out.bel⟩

end Go.Proofs.Ytgjhmpgofmmniaa

/- A code that came in, as the draws read it. Over the seat's translation. -/
namespace Go.Proofs.Ytgjhmpgofmmniaa
open Go.ChangeShapes Go.WideShapes Go.ChangeAt Go.RowKit

/-- A slice of bytes that came in, as the draws read it. -/
theorem code_of {H : Type} {enc : TypeId × Value → H} {W : World} {a : Option Addr} {len cap : Nat} {d : DataW H} {p : List MemPlace}
    (h : DataW.Trod enc Try.prog W 0 (fun _ => true) true 22 (.slice a len cap) d p) : len ≤ cap ∧ cap ≤ maxLen ∧ IsCode W.heap.size a len W := by
  obtain ⟨fuel, hf⟩ := h
  rcases open_ints Try.underlying22 Try.underlying5 (by kernel_rfl) hf with ⟨hcs, _⟩ | ⟨x, l, c, zs, hcs, _, hl, hm, hz, _, hcell, hwz⟩
  · simp [Value.cells] at hcs
    obtain ⟨rfl, rfl, rfl⟩ := hcs
    exact ⟨Nat.le_refl _, Nat.zero_le _, Or.inl rfl⟩
  · simp [Value.cells] at hcs
    obtain ⟨rfl, rfl, rfl⟩ := hcs
    refine ⟨hl, hm, ?_⟩
    have hz' : zs.length = cap := by simpa using hz
    by_cases h0 : len = 0
    · exact Or.inl h0
    · obtain ⟨b, off, spot⟩ := x
      have hc := hcell 0 (by omega)
      have hspot : spot = none := by simpa [Addr.add] using World.cell?_spot hc
      subst hspot
      refine Or.inr ⟨b, off, rfl, ?_, fun i hi => ?_⟩
      · have := World.block_lt_of_cell? W _ hc
        simpa [Addr.add] using this
      · have hi' := hcell i (by omega)
        have hw := bounds_u8 (hwz (zs.getD i 0) (by rw [List.getD_eq_getElem?_getD, List.getElem?_eq_getElem (by omega)]; exact List.getElem_mem _))
        refine ⟨zs.getD i 0, ?_, hw.1, by omega⟩
        by_cases i0 : i = 0
        · subst i0; simpa [Addr.add] using hi'
        · simpa [Addr.add, i0] using hi'

end Go.Proofs.Ytgjhmpgofmmniaa
