/- The contract of spec.DrawIndexOnce and the walk of laws.FnIndexOnce, over the seat's translation. -/
import Derived.Test.YtgjhmpgofmmniaaIxX3
import Derived.Test.YtgjhmpgofmmniaaIxFn0
import Derived.Test.YtgjhmpgofmmniaaIxLo
import Derived.Test.YtgjhmpgofmmniaaIxO2
namespace Go.Proofs.Ytgjhmpgofmmniaa
open Go.RowKit

/-- While entries are picked: the list, those picked, and that all lies over w. -/
structure PkE (w : World) (base : Nat) (a : Option Addr) (c : Nat) (L : List AEnt) (v : Value) (M : List AEnt) (W : World) : Prop where
  dr : DrE w a c L W
  far : FarE base a L W
  own : OwnE base v M W
  sub : ∀ d ∈ M, d ∈ L
  le : base ≤ W.heap.size
  lo : w.heap.size ≤ base
theorem PkE.next {w : World} {base : Nat} {a : Option Addr} {c : Nat} {L : List AEnt} {v : Value} {M : List AEnt} {W W' : World} (h : PkE w base a c L v M W) (hb : Below W.heap.size W W') : PkE w base a c L v M W' :=
  ⟨h.dr.next hb, h.far.next (hb.mono h.le), h.own.next hb, h.sub, Nat.le_trans h.le hb.size, h.lo⟩
theorem PkE.put {w : World} {base : Nat} {a : Option Addr} {c : Nat} {L : List AEnt} {v v' : Value} {M M' : List AEnt} {W W' : World} (h : PkE w base a c L v M W) (hb : Below base W W') (hO : OwnE base v' M' W') (hs : ∀ d ∈ M', d ∈ L) : PkE w base a c L v' M' W' := by
  have hf := h.far.next hb
  exact ⟨⟨hf.ents (Nat.le_trans h.le hb.size), h.dr.nil, h.dr.cap, h.dr.len, h.dr.small, h.dr.bel.trans (hb.mono h.lo)⟩, hf, hO, hs, Nat.le_trans h.le hb.size, h.lo⟩

set_option maxRecDepth 100000 in
set_option maxHeartbeats 2000000 in
theorem draw_ionce (x : Option Addr) (len cap : Nat) (w : World) (hlc : len ≤ cap) (hcap : cap ≤ maxLen) (hc : IsCode w.heap.size x len w) :
    Calls Try.prog 8 #[.slice x len cap] w fun e w' => ∃ a c L, e = .returned (.slice a (List.length L) c) ∧ DrE w a c L w' := by
  go_enter Try.func8, Try.ntmps8
  go_wp2_with fail
  refine (l10_open w.heap.size w.heap.size x len cap w rfl (Nat.le_refl _) hlc hcap hc).mono ?_
  rintro e w1 ⟨rfl, hr1, hb1⟩
  have H1 : Hid (Rd w.heap.size w.heap.size 0 w1 ∧ Below w.heap.size w w1) := ⟨hr1, hb1⟩
  clear hr1 hb1 hc
  go_wp2_with fail
  refine (l8_some w.heap.size w.heap.size 0 w1 H1.out.1 (by omega)).mono ?_
  rintro e w2 ⟨a, c, L, y, q, rfl, hR, hl, hs, hy, hq, hr2, hu2⟩
  have ba := alloc_below w2 (.cells #[.int .i64 y.k, .int .i64 y.n, .string y.s, .int .i64 y.id] 29)
  have hz1 : w.heap.size < w1.heap.size := H1.out.1.2.1
  have H2 : Hid (RowE w1.heap.size (.slice a L.length c) L (w2.alloc (.cells #[.int .i64 y.k, .int .i64 y.n, .string y.s, .int .i64 y.id] 29)) ∧ Rd w.heap.size w.heap.size q (w2.alloc (.cells #[.int .i64 y.k, .int .i64 y.n, .string y.s, .int .i64 y.id] 29)) ∧ Below w.heap.size w (w2.alloc (.cells #[.int .i64 y.k, .int .i64 y.n, .string y.s, .int .i64 y.id] 29)) ∧ ∀ d ∈ L, d.s.size ≤ 5) :=
    ⟨hR.next ba, hr2.keep ba, (H1.out.2.trans (hu2.below (Nat.le_refl _) H1.out.2.size)).trans (ba.mono (by have := hu2.size; omega)), hs⟩
  clear hR hr2 hu2 H1 ba hs
  go_wp2_with fail
  refine (pick_any w.heap.size w.heap.size q _ _ H2.out.2.1 (by omega) (by omega) (by omega)).mono ?_
  rintro e w3 ⟨v3, rfl, hv3, hr3, hu3⟩
  have hD : Hid (DrE w a c L w3) := by
    have hR := H2.out.1.upd hu3 (by omega)
    obtain ⟨h0, hcc⟩ := hR.caps rfl
    exact ⟨hR.same, h0, hcc, hl, H2.out.2.2.2, H2.out.2.2.1.trans (hu3.below (Nat.le_refl _) H2.out.2.2.1.size)⟩
  clear hr3 hu3 H2
  by_cases hv0 : ¬ v3 = 0
  · go_wp2_with fail
    go_ret
    exact ⟨_, _, _, rfl, hD.out⟩
  have hv1 : v3 = 0 := by omega
  subst hv1
  clear hv0
  have ba := alloc_below w3 (.cells #[] 29)
  have H3 : Hid (PkE w w3.heap.size a c L (.slice (some ⟨w3.heap.size, 0, none⟩) 0 0) [] (w3.alloc (.cells #[] 29))) :=
    ⟨hD.out.next ba, FarE.of hD.out.ents |>.next ba, OwnE.made _ _ (Nat.le_refl _), fun d hd => by simp at hd, ba.size, hD.out.bel.size⟩
  clear ba hD
  go_wp2_with fail
  generalize w3.heap.size = base at *
  go_loopw [6, 7] (fun out i wr => ∃ (k : Nat) (M : List AEnt), k ≤ L.length ∧ i = .int .i64 k ∧ M.length ≤ k ∧ Hid (PkE w base a c L out M wr)) (fun _ i _ => L.length - (intOf i).toNat)
  case atStart => exact ⟨0, [], Nat.zero_le _, rfl, Nat.le_refl _, H3.out⟩
  case round =>
    obtain ⟨k, M, hk, rfl, hMk, hH⟩ := hrel
    clear H3
    obtain ⟨am, cm, rfl, -, hEm⟩ := hH.out.own.slice
    have hl16 := hH.out.dr.len
    by_cases hlt : k < L.length
    · obtain ⟨b, o, hab, hbl, hr⟩ := hH.out.dr.ents.at hlt
      have hcd0 := List.getElem?_eq_getElem hlt
      revert hr hcd0
      generalize hdd : L[k] = d
      intro hr hcd0
      have hcd : Hid (L[k]? = some d) := hcd0
      have hix : ∀ wx, (Instr.indexAt 23 (.slice a L.length c) (.int .i64 k)).run Try.prog wx = .ok (.pointer (some ⟨b, o + k * 4, none⟩)) wx := fun wx => by
        rw [hab]; exact run_ix4 _ _ _ _ _ _ _ wx hlt Try.underlying23 (Try.sizeOf29 wx)
      have hT2 := cells4_of hr
      have Hab : Hid (a = some ⟨b, o, none⟩) := hab
      clear hr hbl hcd0 hdd hab
      by_cases hM0 : M.length = 0
      · have hM1 : M = [] := List.length_eq_zero_iff.1 hM0
        subst hM1
        clear hEm hM0
        go_wp2_with fail
        go_quiet (fail)
        have hP : Hid (PkE w base a c L (.slice am ([] : List AEnt).length cm) [] (wr.drewN nq)) := hH.out.next (quiet_below _ _ _)
        obtain ⟨b4, o4, hab4, -, hr4⟩ := hP.out.dr.ents.at hlt
        have hc4 := List.getElem?_eq_getElem hlt
        have hdL : L[k] ∈ L := List.getElem_mem hlt
        clear hT2
        generalize wr.drewN nq = wq at *
        rw [Hab.out] at hab4
        cases hab4
        have hTq : Cells4 wq b (o + k * 4) d := cells4_of (by have h := hr4; have e : L[k] = d := Option.some.inj (hc4.symm.trans hcd.out); rw [e] at h; exact h)
        have hdL2 : Hid (d ∈ L) := List.mem_of_getElem? hcd.out
        clear hr4 hc4 hdL
        go_wp2_with (at_builtin; refine append_ents rfl _ _ rfl base _ [] rfl (hP.out.own.next (alloc_below _ _)) (some ⟨wq.heap.size, 0, none⟩) 1 1 [d] rfl rfl (OneE.new wq d).ents (fun h => by cases h) (by simp <;> omega) (by have := hP.out.le; simp; omega) ?_; intro a5 n5 c5 w5 ho hg hn hcc)
        have hn' : n5 = 1 := by simpa using hn
        subst hn'
        have HN : Hid (PkE w base a c L (.slice a5 1 c5) ([] ++ [d]) w5) := (hP.out.next (alloc_below _ _)).put hg ho (fun z hz => by
          rcases List.mem_append.1 hz with h | h
          · exact hP.out.sub z h
          · rw [List.mem_singleton.1 h]; exact hdL2.out)
        clear hTq ho hg hP
        go_wp2_with fail
        go_roundw
        case rel => exact ⟨k + 1, [] ++ [d], by omega, by go_num, by simp <;> omega, HN.out⟩
        case measure => simp [intOf]; omega
      · obtain ⟨j, hj⟩ : ∃ j, j = M.length - 1 := ⟨_, rfl⟩
        have hjl : j < M.length := by omega
        obtain ⟨bm, om, habm, -, hrm⟩ := hEm.at hjl
        revert hrm
        generalize M[j] = e
        intro hrm
        have hji : ((M.length : Int) - 1) = ((j : Nat) : Int) := by omega
        have hiy : ∀ wx, (Instr.indexAt 23 (.slice am M.length cm) (.int .i64 ((M.length : Int) - 1))).run Try.prog wx = .ok (.pointer (some ⟨bm, om + j * 4, none⟩)) wx := fun wx => by
          rw [habm, hji]; exact run_ix4 _ _ _ _ _ _ _ wx hjl Try.underlying23 (Try.sizeOf29 wx)
        have hT3 := cells4_of hrm
        have hnz : ((M.length : Int) == 0) = false := beq_eq_false_iff_ne.2 (by omega)
        have hwk : IntKind.i64.wrap ((M.length : Int) - 1) = (M.length : Int) - 1 := by
          simp [IntKind.wrap, IntKind.bits, IntKind.signed]
          omega
        have hnq := neq_val e d
        have hM0' : ¬ M = [] := fun h => hM0 (by rw [h]; rfl)
        clear hrm habm hji hj hEm hjl hM0
        cases hv : eqV e d
        · rw [hv] at hnq
          go_wp2_with fail
          go_quiet (fail)
          have hP : Hid (PkE w base a c L (.slice am M.length cm) M (wr.drewN nq)) := hH.out.next (quiet_below _ _ _)
          obtain ⟨b4, o4, hab4, -, hr4⟩ := hP.out.dr.ents.at hlt
          have hc4 := List.getElem?_eq_getElem hlt
          have hdL : L[k] ∈ L := List.getElem_mem hlt
          clear hT2 hT3 hiy hnz hwk hnq hM0'
          generalize wr.drewN nq = wq at *
          rw [Hab.out] at hab4
          cases hab4
          have hTq : Cells4 wq b (o + k * 4) d := cells4_of (by have h := hr4; have e : L[k] = d := Option.some.inj (hc4.symm.trans hcd.out); rw [e] at h; exact h)
          have hdL2 : Hid (d ∈ L) := List.mem_of_getElem? hcd.out
          clear hr4 hc4 hdL
          go_wp2_with (at_builtin; refine append_ents rfl _ _ rfl base _ M rfl (hP.out.own.next (alloc_below _ _)) (some ⟨wq.heap.size, 0, none⟩) 1 1 [d] rfl rfl (OneE.new wq d).ents (fun h => by cases h) (by simp <;> omega) (by have := hP.out.le; simp; omega) ?_; intro a5 n5 c5 w5 ho hg hn hcc)
          have hn' : n5 = M.length + 1 := by simpa using hn
          subst hn'
          have HN : Hid (PkE w base a c L (.slice a5 (M.length + 1) c5) (M ++ [d]) w5) := (hP.out.next (alloc_below _ _)).put hg ho (fun z hz => by
            rcases List.mem_append.1 hz with h | h
            · exact hP.out.sub z h
            · rw [List.mem_singleton.1 h]; exact hdL2.out)
          clear hTq ho hg hP
          go_wp2_with fail
          go_roundw
          case rel => exact ⟨k + 1, M ++ [d], by omega, by go_num, by simp <;> omega, HN.out⟩
          case measure => simp [intOf]; omega
        · rw [hv] at hnq
          go_wp2_with fail
          go_quiet (fail)
          have hP : Hid (PkE w base a c L (.slice am M.length cm) M (wr.drewN nq)) := hH.out.next (quiet_below _ _ _)
          clear hT2 hT3 hiy hnz hwk hnq hM0' hix
          go_wp2_with fail
          go_roundw
          case rel => exact ⟨k + 1, M, by omega, by go_num, by omega, hP.out⟩
          case measure => simp [intOf]; omega
    · have hkl : k = L.length := by omega
      subst hkl
      have hF : Hid (DrE w am cm M wr) := by
        have hd := hH.out.dr
        obtain ⟨h0, hcc⟩ := hH.out.own.row.caps rfl
        exact ⟨hEm, h0, hcc, by have := hd.len; omega, fun z hz => hd.small z (hH.out.sub z hz), hd.bel⟩
      clear hEm hH
      go_wp2_with fail
      go_ret
      exact ⟨_, _, _, rfl, hF.out⟩

end Go.Proofs.Ytgjhmpgofmmniaa
