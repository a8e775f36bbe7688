/- The contract of spec.DrawIndexOnce and the walk of laws.FnIndexOnce, over the seat's translation. -/
import Derived.Test.YtgjhmpgofmmniaaG11
import Derived.Test.YtgjhmpgofmmniaaG14
import Derived.Test.YtgjhmpgofmmniaaRows
import Derived.Test.YtgjhmpgofmmniaaG01
import Derived.ProofKit
import Derived.OpenShut
import Derived.ChangeOld
import Derived.Below
namespace Go.Proofs.Ytgjhmpgofmmniaa
open Go.RowKit

/-- While entries are picked: the list, those picked, and that all lies over w. -/
structure PkE (w : World) (base : Nat) (a : Option Addr) (c : Nat) (L : List AEnt) (v : Value) (M : List AEnt) (W : World) : Prop where
  dr : DrE w a c L W
  far : FarE base a L W
  own : OwnE base v M W
  sub : ∀ d ∈ M, d ∈ L
  le : base ≤ W.heap.size
  lo : w.heap.size ≤ base
theorem PkE.next {w : World} {base : Nat} {a : Option Addr} {c : Nat} {L : List AEnt} {v : Value} {M : List AEnt} {W W' : World} (h : PkE w base a c L v M W) (hb : Below W.heap.size W W') : PkE w base a c L v M W' :=
  ⟨h.dr.next hb, h.far.next (hb.mono h.le), h.own.next hb, h.sub, Nat.le_trans h.le hb.size, h.lo⟩
theorem PkE.put {w : World} {base : Nat} {a : Option Addr} {c : Nat} {L : List AEnt} {v v' : Value} {M M' : List AEnt} {W W' : World} (h : PkE w base a c L v M W) (hb : Below base W W') (hO : OwnE base v' M' W') (hs : ∀ d ∈ M', d ∈ L) : PkE w base a c L v' M' W' := by
  have hf := h.far.next hb
  exact ⟨⟨hf.ents (Nat.le_trans h.le hb.size), h.dr.nil, h.dr.cap, h.dr.len, h.dr.small, h.dr.bel.trans (hb.mono h.lo)⟩, hf, hO, hs, Nat.le_trans h.le hb.size, h.lo⟩

set_option maxRecDepth 100000 in
set_option maxHeartbeats 2000000 in
theorem draw_ionce (x : Option Addr) (len cap : Nat) (w : World) (hlc : len ≤ cap) (hcap : cap ≤ maxLen) (hc : IsCode w.heap.size x len w) :
    Calls Try.prog 8 #[.slice x len cap] w fun e w' => ∃ a c L, e = .returned (.slice a (List.length L) c) ∧ DrE w a c L w' := by
  go_enter Try.func8, Try.ntmps8
  go_wp2_with fail
  refine (l10_open w.heap.size w.heap.size x len cap w rfl (Nat.le_refl _) hlc hcap hc).mono ?_
  rintro e w1 ⟨rfl, hr1, hb1⟩
  have H1 : Hid (Rd w.heap.size w.heap.size 0 w1 ∧ Below w.heap.size w w1) := ⟨hr1, hb1⟩
  clear hr1 hb1 hc
  go_wp2_with fail
  refine (l8_some w.heap.size w.heap.size 0 w1 H1.out.1 (by omega)).mono ?_
  rintro e w2 ⟨a, c, L, y, q, rfl, hR, hl, hs, hy, hq, hr2, hu2⟩
  have ba := alloc_below w2 (.cells #[.int .i64 y.k, .int .i64 y.n, .string y.s, .int .i64 y.id] 29)
  have hz1 : w.heap.size < w1.heap.size := H1.out.1.2.1
  have H2 : Hid (RowE w1.heap.size (.slice a L.length c) L (w2.alloc (.cells #[.int .i64 y.k, .int .i64 y.n, .string y.s, .int .i64 y.id] 29)) ∧ Rd w.heap.size w.heap.size q (w2.alloc (.cells #[.int .i64 y.k, .int .i64 y.n, .string y.s, .int .i64 y.id] 29)) ∧ Below w.heap.size w (w2.alloc (.cells #[.int .i64 y.k, .int .i64 y.n, .string y.s, .int .i64 y.id] 29)) ∧ ∀ d ∈ L, d.s.size ≤ 5) :=
    ⟨hR.next ba, hr2.keep ba, (H1.out.2.trans (hu2.below (Nat.le_refl _) H1.out.2.size)).trans (ba.mono (by have := hu2.size; omega)), hs⟩
  clear hR hr2 hu2 H1 ba hs
  go_wp2_with fail
  refine (pick_any w.heap.size w.heap.size q _ _ H2.out.2.1 (by omega) (by omega) (by omega)).mono ?_
  rintro e w3 ⟨v3, rfl, hv3, hr3, hu3⟩
  have hD : Hid (DrE w a c L w3) := by
    have hR := H2.out.1.upd hu3 (by omega)
    obtain ⟨h0, hcc⟩ := hR.caps rfl
    exact ⟨hR.same, h0, hcc, hl, H2.out.2.2.2, H2.out.2.2.1.trans (hu3.below (Nat.le_refl _) H2.out.2.2.1.size)⟩
  clear hr3 hu3 H2
  by_cases hv0 : ¬ v3 = 0
  · go_wp2_with fail
    go_ret
    exact ⟨_, _, _, rfl, hD.out⟩
  have hv1 : v3 = 0 := by omega
  subst hv1
  clear hv0
  have ba := alloc_below w3 (.cells #[] 29)
  have H3 : Hid (PkE w w3.heap.size a c L (.slice (some ⟨w3.heap.size, 0, none⟩) 0 0) [] (w3.alloc (.cells #[] 29))) :=
    ⟨hD.out.next ba, FarE.of hD.out.ents |>.next ba, OwnE.made _ _ (Nat.le_refl _), fun d hd => by simp at hd, ba.size, hD.out.bel.size⟩
  clear ba hD
  go_wp2_with fail
  generalize w3.heap.size = base at *
  go_loopw [6, 7] (fun out i wr => ∃ (k : Nat) (M : List AEnt), k ≤ L.length ∧ i = .int .i64 k ∧ M.length ≤ k ∧ Hid (PkE w base a c L out M wr)) (fun _ i _ => L.length - (intOf i).toNat)
  case atStart => exact ⟨0, [], Nat.zero_le _, rfl, Nat.le_refl _, H3.out⟩
  case round =>
    obtain ⟨k, M, hk, rfl, hMk, hH⟩ := hrel
    clear H3
    obtain ⟨am, cm, rfl, -, hEm⟩ := hH.out.own.slice
    have hl16 := hH.out.dr.len
    by_cases hlt : k < L.length
    · obtain ⟨b, o, hab, hbl, hr⟩ := hH.out.dr.ents.at hlt
      have hcd0 := List.getElem?_eq_getElem hlt
      revert hr hcd0
      generalize hdd : L[k] = d
      intro hr hcd0
      have hcd : Hid (L[k]? = some d) := hcd0
      have hix : ∀ wx, (Instr.indexAt 23 (.slice a L.length c) (.int .i64 k)).run Try.prog wx = .ok (.pointer (some ⟨b, o + k * 4, none⟩)) wx := fun wx => by
        rw [hab]; exact run_ix4 _ _ _ _ _ _ _ wx hlt Try.underlying23 (Try.sizeOf29 wx)
      have hT2 := cells4_of hr
      have Hab : Hid (a = some ⟨b, o, none⟩) := hab
      clear hr hbl hcd0 hdd hab
      by_cases hM0 : M.length = 0
      · have hM1 : M = [] := List.length_eq_zero_iff.1 hM0
        subst hM1
        clear hEm hM0
        go_wp2_with fail
        go_quiet (fail)
        have hP : Hid (PkE w base a c L (.slice am ([] : List AEnt).length cm) [] (wr.drewN nq)) := hH.out.next (quiet_below _ _ _)
        obtain ⟨b4, o4, hab4, -, hr4⟩ := hP.out.dr.ents.at hlt
        have hc4 := List.getElem?_eq_getElem hlt
        have hdL : L[k] ∈ L := List.getElem_mem hlt
        clear hT2
        generalize wr.drewN nq = wq at *
        rw [Hab.out] at hab4
        cases hab4
        have hTq : Cells4 wq b (o + k * 4) d := cells4_of (by have h := hr4; have e : L[k] = d := Option.some.inj (hc4.symm.trans hcd.out); rw [e] at h; exact h)
        have hdL2 : Hid (d ∈ L) := List.mem_of_getElem? hcd.out
        clear hr4 hc4 hdL
        go_wp2_with (at_builtin; refine append_ents rfl _ _ rfl base _ [] rfl (hP.out.own.next (alloc_below _ _)) (some ⟨wq.heap.size, 0, none⟩) 1 1 [d] rfl rfl (OneE.new wq d).ents (fun h => by cases h) (by simp <;> omega) (by have := hP.out.le; simp; omega) ?_; intro a5 n5 c5 w5 ho hg hn hcc)
        have hn' : n5 = 1 := by simpa using hn
        subst hn'
        have HN : Hid (PkE w base a c L (.slice a5 1 c5) ([] ++ [d]) w5) := (hP.out.next (alloc_below _ _)).put hg ho (fun z hz => by
          rcases List.mem_append.1 hz with h | h
          · exact hP.out.sub z h
          · rw [List.mem_singleton.1 h]; exact hdL2.out)
        clear hTq ho hg hP
        go_wp2_with fail
        go_roundw
        case rel => exact ⟨k + 1, [] ++ [d], by omega, by go_num, by simp <;> omega, HN.out⟩
        case measure => simp [intOf]; omega
      · obtain ⟨j, hj⟩ : ∃ j, j = M.length - 1 := ⟨_, rfl⟩
        have hjl : j < M.length := by omega
        obtain ⟨bm, om, habm, -, hrm⟩ := hEm.at hjl
        revert hrm
        generalize M[j] = e
        intro hrm
        have hji : ((M.length : Int) - 1) = ((j : Nat) : Int) := by omega
        have hiy : ∀ wx, (Instr.indexAt 23 (.slice am M.length cm) (.int .i64 ((M.length : Int) - 1))).run Try.prog wx = .ok (.pointer (some ⟨bm, om + j * 4, none⟩)) wx := fun wx => by
          rw [habm, hji]; exact run_ix4 _ _ _ _ _ _ _ wx hjl Try.underlying23 (Try.sizeOf29 wx)
        have hT3 := cells4_of hrm
        have hnz : ((M.length : Int) == 0) = false := beq_eq_false_iff_ne.2 (by omega)
        have hwk : IntKind.i64.wrap ((M.length : Int) - 1) = (M.length : Int) - 1 := by
          simp [IntKind.wrap, IntKind.bits, IntKind.signed]
          omega
        have hnq := neq_val e d
        have hM0' : ¬ M = [] := fun h => hM0 (by rw [h]; rfl)
        clear hrm habm hji hj hEm hjl hM0
        cases hv : eqV e d
        · rw [hv] at hnq
          go_wp2_with fail
          go_quiet (fail)
          have hP : Hid (PkE w base a c L (.slice am M.length cm) M (wr.drewN nq)) := hH.out.next (quiet_below _ _ _)
          obtain ⟨b4, o4, hab4, -, hr4⟩ := hP.out.dr.ents.at hlt
          have hc4 := List.getElem?_eq_getElem hlt
          have hdL : L[k] ∈ L := List.getElem_mem hlt
          clear hT2 hT3 hiy hnz hwk hnq hM0'
          generalize wr.drewN nq = wq at *
          rw [Hab.out] at hab4
          cases hab4
          have hTq : Cells4 wq b (o + k * 4) d := cells4_of (by have h := hr4; have e : L[k] = d := Option.some.inj (hc4.symm.trans hcd.out); rw [e] at h; exact h)
          have hdL2 : Hid (d ∈ L) := List.mem_of_getElem? hcd.out
          clear hr4 hc4 hdL
          go_wp2_with (at_builtin; refine append_ents rfl _ _ rfl base _ M rfl (hP.out.own.next (alloc_below _ _)) (some ⟨wq.heap.size, 0, none⟩) 1 1 [d] rfl rfl (OneE.new wq d).ents (fun h => by cases h) (by simp <;> omega) (by have := hP.out.le; simp; omega) ?_; intro a5 n5 c5 w5 ho hg hn hcc)
          have hn' : n5 = M.length + 1 := by simpa using hn
          subst hn'
          have HN : Hid (PkE w base a c L (.slice a5 (M.length + 1) c5) (M ++ [d]) w5) := (hP.out.next (alloc_below _ _)).put hg ho (fun z hz => by
            rcases List.mem_append.1 hz with h | h
            · exact hP.out.sub z h
            · rw [List.mem_singleton.1 h]; exact hdL2.out)
          clear hTq ho hg hP
          go_wp2_with fail
          go_roundw
          case rel => exact ⟨k + 1, M ++ [d], by omega, by go_num, by simp <;> omega, HN.out⟩
          case measure => simp [intOf]; omega
        · rw [hv] at hnq
          go_wp2_with fail
          go_quiet (fail)
          have hP : Hid (PkE w base a c L (.slice am M.length cm) M (wr.drewN nq)) := hH.out.next (quiet_below _ _ _)
          clear hT2 hT3 hiy hnz hwk hnq hM0' hix
          go_wp2_with fail
          go_roundw
          case rel => exact ⟨k + 1, M, by omega, by go_num, by omega, hP.out⟩
          case measure => simp [intOf]; omega
    · have hkl : k = L.length := by omega
      subst hkl
      have hF : Hid (DrE w am cm M wr) := by
        have hd := hH.out.dr
        obtain ⟨h0, hcc⟩ := hH.out.own.row.caps rfl
        exact ⟨hEm, h0, hcc, by have := hd.len; omega, fun z hz => hd.small z (hH.out.sub z hz), hd.bel⟩
      clear hEm hH
      go_wp2_with fail
      go_ret
      exact ⟨_, _, _, rfl, hF.out⟩

end Go.Proofs.Ytgjhmpgofmmniaa

/- The walk of laws.FnIndexOnce, over the seat's translation. -/
namespace Go.Proofs.Ytgjhmpgofmmniaa
open Go.RowKit

/-- A value is nothing, or found once. -/
def onceP (L : List AEnt) (c : AEnt) : Bool := (c.k == 0) || ((spanIn c c L).length == 1)
theorem all_next {P : AEnt → Bool} {L : List AEnt} {k : Nat} {d : AEnt} (h : L[k]? = some d) : (L.take (k + 1)).all P = ((L.take k).all P && P d) := by
  obtain ⟨hk, rfl⟩ := List.getElem?_eq_some_iff.1 h
  rw [List.take_succ_eq_append_getElem hk, List.all_append]
  simp

set_option maxRecDepth 100000 in
set_option maxHeartbeats 4000000 in
theorem law_ionce (x : Option Addr) (len cap : Nat) (w : World) (hlc : len ≤ cap) (hcap : cap ≤ maxLen) (hc : IsCode w.heap.size x len w) :
    Calls Try.prog 3 #[.slice x len cap] w fun e w' => e = .returned (.bool true) ∧ Below w.heap.size w w' := by
  have hcap' : cap ≤ 9223372036854775807 := hcap
  by_cases hlen : (1048576 : Int) < len
  · go_enter Try.func3, Try.ntmps3
    go_wp2_with fail
    go_ret
    exact ⟨rfl, Below.refl _ _⟩
  go_enter Try.func3, Try.ntmps3
  go_wp2_with fail
  refine (draw_ionce x len cap _ hlc hcap hc).mono ?_
  rintro e w1 ⟨a, c, L, rfl, hD⟩
  have H1 : Hid (DrE w a c L w1) := hD
  have hnil := hD.nil
  have hfit : Hid (∀ d ∈ L, d.fit) := hD.fit
  have hl16 := hD.len
  have hm : L.length ≤ maxLen := by unfold maxLen; omega
  clear hD hc
  go_wp2_with fail
  refine (impl_once a c L _ H1.out.ents hnil hfit.out hm).mono ?_
  rintro e w2 ⟨rfl, hb⟩
  have H2 : Hid (DrE w a c L w2) := H1.out.next hb
  clear hb H1
  obtain ⟨r, hr⟩ : ∃ r, r = onceOk L := ⟨_, rfl⟩
  rw [← hr]
  have HR : Hid (r = onceOk L) := hr
  clear hr
  go_wp2_with fail
  refine (spec_once a c L _ H2.out.ents hfit.out hm).mono ?_
  rintro e w3 ⟨rfl, hb⟩
  rw [← HR.out]
  have H3 : Hid (DrE w a c L w3) := H2.out.next hb
  clear hb H2
  go_wp2_with fail
  refine (spec_index a c L _ H3.out.ents hfit.out hm).mono ?_
  rintro e w4 ⟨rfl, hb⟩
  have H4 : Hid (DrE w a c L w4) := H3.out.next hb
  clear hb H3
  cases hs : indexOk L
  · have hr0 : r = false := by rw [HR.out]; unfold onceOk; rw [hs]; rfl
    subst hr0
    go_wp2_with fail
    go_ret
    exact ⟨rfl, H4.out.bel⟩
  have HE : Hid (r = L.all (onceP L)) := by
    show r = L.all (onceP L)
    rw [HR.out]
    unfold onceOk
    rw [hs, once_all (index_asc hs)]
    rfl
  have HS : Hid (∀ d, spanL d d L = spanIn d d L) := fun d => by unfold spanL; rw [hs]; rfl
  clear hs HR
  go_wp2_with fail
  go_loopw [5, 6] (fun o i wr => ∃ (k : Nat) (s : Bool), k ≤ L.length ∧ i = .int .i64 k ∧ o = .bool s ∧ Hid (s = (L.take k).all (onceP L)) ∧ Hid (DrE w a c L wr)) (fun _ i _ => L.length - (intOf i).toNat)
  case atStart => exact ⟨0, true, Nat.zero_le _, rfl, rfl, rfl, H4.out⟩
  case round =>
    obtain ⟨k, s, hk, rfl, rfl, hA, hH⟩ := hrel
    clear H4
    by_cases hlt : k < L.length
    · obtain ⟨b, o, hab, hbl, hr⟩ := hH.out.ents.at hlt
      have hcd := List.getElem?_eq_getElem hlt
      revert hr hcd
      generalize L[k] = d
      intro hr hcd
      have hix : ∀ wx, (Instr.indexAt 23 (.slice a L.length c) (.int .i64 k)).run Try.prog wx = .ok (.pointer (some ⟨b, o + k * 4, none⟩)) wx := fun wx => by
        rw [hab]; exact run_ix4 _ _ _ _ _ _ _ wx hlt Try.underlying23 (Try.sizeOf29 wx)
      have hT := cells4_of hr
      have hNx : Hid ((L.take (k + 1)).all (onceP L) = (s && onceP L d)) := by show (L.take (k + 1)).all (onceP L) = (s && onceP L d); rw [hA.out]; exact all_next hcd
      clear hab hr hbl hcd
      cases hs0 : s
      · subst hs0
        go_wp2_with fail
        go_roundw
        case rel => exact ⟨k + 1, false, by omega, by go_num, rfl, by show false = _; rw [hNx.out]; rfl, hH.out⟩
        case measure => simp [intOf]; omega
      · subst hs0
        by_cases hk0 : d.k = 0
        · have hP : Hid (onceP L d = true) := by show onceP L d = true; unfold onceP; rw [hk0]; rfl
          go_wp2_with fail
          go_roundw
          case rel => exact ⟨k + 1, true, by omega, by go_num, rfl, by show true = _; rw [hNx.out, hP.out]; rfl, hH.out⟩
          case measure => simp [intOf]; omega
        · have hkb : (d.k == 0) = false := beq_eq_false_iff_ne.2 hk0
          have hP : Hid (onceP L d = ((spanIn d d L).length == 1)) := by show onceP L d = _; unfold onceP; rw [hkb]; rfl
          go_wp2_with fail
          refine (impl_find a c L d _ hH.out.ents hnil hfit.out (by omega)).mono ?_
          rintro e w5 ⟨v, rfl, hO, hb⟩
          rw [HS.out] at hO
          obtain ⟨ai, ci, rfl, -⟩ := hO.slice
          have H5 : Hid (DrE w a c L w5) := hH.out.next hb
          clear hb hO hT
          obtain ⟨n, hn⟩ : ∃ n, n = (spanIn d d L).length := ⟨_, rfl⟩
          rw [← hn] at hP ⊢
          have e1 : ((n : Int) == 1) = (n == 1) := by
            rw [Bool.eq_iff_iff]
            simp only [beq_iff_eq]
            omega
          have E1 : Hid (((n : Int) == 1) = (n == 1)) := e1
          clear hn e1
          go_wp2_with fail
          go_roundw
          case rel => exact ⟨k + 1, n == 1, by omega, by go_num, by simp [E1.out], by show (n == 1) = _; rw [hNx.out, hP.out]; rfl, H5.out⟩
          case measure => simp [intOf]; omega
    · have hkl : k = L.length := by omega
      subst hkl
      have hAA : s = r := by rw [hA.out, HE.out, List.take_length]
      subst hAA
      go_wp2_with fail
      go_ret
      exact ⟨by simp, hH.out.bel⟩

end Go.Proofs.Ytgjhmpgofmmniaa

/- A code that came in, as the draws read it. Over the seat's translation. -/
namespace Go.Proofs.Ytgjhmpgofmmniaa
open Go.ChangeShapes Go.WideShapes Go.ChangeAt Go.RowKit

/-- A slice of bytes that came in, as the draws read it. -/
theorem code_of {H : Type} {enc : TypeId × Value → H} {W : World} {a : Option Addr} {len cap : Nat} {d : DataW H} {p : List MemPlace}
    (h : DataW.Trod enc Try.prog W 0 (fun _ => true) true 22 (.slice a len cap) d p) : len ≤ cap ∧ cap ≤ maxLen ∧ IsCode W.heap.size a len W := by
  obtain ⟨fuel, hf⟩ := h
  rcases open_ints Try.underlying22 Try.underlying5 (by kernel_rfl) hf with ⟨hcs, _⟩ | ⟨x, l, c, zs, hcs, _, hl, hm, hz, _, hcell, hwz⟩
  · simp [Value.cells] at hcs
    obtain ⟨rfl, rfl, rfl⟩ := hcs
    exact ⟨Nat.le_refl _, Nat.zero_le _, Or.inl rfl⟩
  · simp [Value.cells] at hcs
    obtain ⟨rfl, rfl, rfl⟩ := hcs
    refine ⟨hl, hm, ?_⟩
    have hz' : zs.length = cap := by simpa using hz
    by_cases h0 : len = 0
    · exact Or.inl h0
    · obtain ⟨b, off, spot⟩ := x
      have hc := hcell 0 (by omega)
      have hspot : spot = none := by simpa [Addr.add] using World.cell?_spot hc
      subst hspot
      refine Or.inr ⟨b, off, rfl, ?_, fun i hi => ?_⟩
      · have := World.block_lt_of_cell? W _ hc
        simpa [Addr.add] using this
      · have hi' := hcell i (by omega)
        have hw := bounds_u8 (hwz (zs.getD i 0) (by rw [List.getD_eq_getElem?_getD, List.getElem?_eq_getElem (by omega)]; exact List.getElem_mem _))
        refine ⟨zs.getD i 0, ?_, hw.1, by omega⟩
        by_cases i0 : i = 0
        · subst i0; simpa [Addr.add] using hi'
        · simpa [Addr.add, i0] using hi'

end Go.Proofs.Ytgjhmpgofmmniaa
