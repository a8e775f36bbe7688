/- The walk of laws.FnIndexOnce, over the seat's translation. -/
import Derived.Test.YtgjhmpgofmmniaaIxY1
namespace Go.Proofs.Ytgjhmpgofmmniaa
open Go.RowKit

/-- A value is nothing, or found once. -/
def onceP (L : List AEnt) (c : AEnt) : Bool := (c.k == 0) || ((spanIn c c L).length == 1)
theorem all_next {P : AEnt → Bool} {L : List AEnt} {k : Nat} {d : AEnt} (h : L[k]? = some d) : (L.take (k + 1)).all P = ((L.take k).all P && P d) := by
  obtain ⟨hk, rfl⟩ := List.getElem?_eq_some_iff.1 h
  rw [List.take_succ_eq_append_getElem hk, List.all_append]
  simp

set_option maxRecDepth 100000 in
set_option maxHeartbeats 4000000 in
theorem law_ionce (x : Option Addr) (len cap : Nat) (w : World) (hlc : len ≤ cap) (hcap : cap ≤ maxLen) (hc : IsCode w.heap.size x len w) :
    Calls Try.prog 3 #[.slice x len cap] w fun e w' => e = .returned (.bool true) ∧ Below w.heap.size w w' := by
  have hcap' : cap ≤ 9223372036854775807 := hcap
  by_cases hlen : (1048576 : Int) < len
  · go_enter Try.func3, Try.ntmps3
    go_wp2_with fail
    go_ret
    exact ⟨rfl, Below.refl _ _⟩
  go_enter Try.func3, Try.ntmps3
  go_wp2_with fail
  refine (draw_ionce x len cap _ hlc hcap hc).mono ?_
  rintro e w1 ⟨a, c, L, rfl, hD⟩
  have H1 : Hid (DrE w a c L w1) := hD
  have hnil := hD.nil
  have hfit : Hid (∀ d ∈ L, d.fit) := hD.fit
  have hl16 := hD.len
  have hm : L.length ≤ maxLen := by unfold maxLen; omega
  clear hD hc
  go_wp2_with fail
  refine (impl_once a c L _ H1.out.ents hnil hfit.out hm).mono ?_
  rintro e w2 ⟨rfl, hb⟩
  have H2 : Hid (DrE w a c L w2) := H1.out.next hb
  clear hb H1
  obtain ⟨r, hr⟩ : ∃ r, r = onceOk L := ⟨_, rfl⟩
  rw [← hr]
  have HR : Hid (r = onceOk L) := hr
  clear hr
  go_wp2_with fail
  refine (spec_once a c L _ H2.out.ents hfit.out hm).mono ?_
  rintro e w3 ⟨rfl, hb⟩
  rw [← HR.out]
  have H3 : Hid (DrE w a c L w3) := H2.out.next hb
  clear hb H2
  go_wp2_with fail
  refine (spec_index a c L _ H3.out.ents hfit.out hm).mono ?_
  rintro e w4 ⟨rfl, hb⟩
  have H4 : Hid (DrE w a c L w4) := H3.out.next hb
  clear hb H3
  cases hs : indexOk L
  · have hr0 : r = false := by rw [HR.out]; unfold onceOk; rw [hs]; rfl
    subst hr0
    go_wp2_with fail
    go_ret
    exact ⟨rfl, H4.out.bel⟩
  have HE : Hid (r = L.all (onceP L)) := by
    show r = L.all (onceP L)
    rw [HR.out]
    unfold onceOk
    rw [hs, once_all (index_asc hs)]
    rfl
  have HS : Hid (∀ d, spanL d d L = spanIn d d L) := fun d => by unfold spanL; rw [hs]; rfl
  clear hs HR
  go_wp2_with fail
  go_loopw [5, 6] (fun o i wr => ∃ (k : Nat) (s : Bool), k ≤ L.length ∧ i = .int .i64 k ∧ o = .bool s ∧ Hid (s = (L.take k).all (onceP L)) ∧ Hid (DrE w a c L wr)) (fun _ i _ => L.length - (intOf i).toNat)
  case atStart => exact ⟨0, true, Nat.zero_le _, rfl, rfl, rfl, H4.out⟩
  case round =>
    obtain ⟨k, s, hk, rfl, rfl, hA, hH⟩ := hrel
    clear H4
    by_cases hlt : k < L.length
    · obtain ⟨b, o, hab, hbl, hr⟩ := hH.out.ents.at hlt
      have hcd := List.getElem?_eq_getElem hlt
      revert hr hcd
      generalize L[k] = d
      intro hr hcd
      have hix : ∀ wx, (Instr.indexAt 23 (.slice a L.length c) (.int .i64 k)).run Try.prog wx = .ok (.pointer (some ⟨b, o + k * 4, none⟩)) wx := fun wx => by
        rw [hab]; exact run_ix4 _ _ _ _ _ _ _ wx hlt Try.underlying23 (Try.sizeOf29 wx)
      have hT := cells4_of hr
      have hNx : Hid ((L.take (k + 1)).all (onceP L) = (s && onceP L d)) := by show (L.take (k + 1)).all (onceP L) = (s && onceP L d); rw [hA.out]; exact all_next hcd
      clear hab hr hbl hcd
      cases hs0 : s
      · subst hs0
        go_wp2_with fail
        go_roundw
        case rel => exact ⟨k + 1, false, by omega, by go_num, rfl, by show false = _; rw [hNx.out]; rfl, hH.out⟩
        case measure => simp [intOf]; omega
      · subst hs0
        by_cases hk0 : d.k = 0
        · have hP : Hid (onceP L d = true) := by show onceP L d = true; unfold onceP; rw [hk0]; rfl
          go_wp2_with fail
          go_roundw
          case rel => exact ⟨k + 1, true, by omega, by go_num, rfl, by show true = _; rw [hNx.out, hP.out]; rfl, hH.out⟩
          case measure => simp [intOf]; omega
        · have hkb : (d.k == 0) = false := beq_eq_false_iff_ne.2 hk0
          have hP : Hid (onceP L d = ((spanIn d d L).length == 1)) := by show onceP L d = _; unfold onceP; rw [hkb]; rfl
          go_wp2_with fail
          refine (impl_find a c L d _ hH.out.ents hnil hfit.out (by omega)).mono ?_
          rintro e w5 ⟨v, rfl, hO, hb⟩
          rw [HS.out] at hO
          obtain ⟨ai, ci, rfl, -⟩ := hO.slice
          have H5 : Hid (DrE w a c L w5) := hH.out.next hb
          clear hb hO hT
          obtain ⟨n, hn⟩ : ∃ n, n = (spanIn d d L).length := ⟨_, rfl⟩
          rw [← hn] at hP ⊢
          have e1 : ((n : Int) == 1) = (n == 1) := by
            rw [Bool.eq_iff_iff]
            simp only [beq_iff_eq]
            omega
          have E1 : Hid (((n : Int) == 1) = (n == 1)) := e1
          clear hn e1
          go_wp2_with fail
          go_roundw
          case rel => exact ⟨k + 1, n == 1, by omega, by go_num, by simp [E1.out], by show (n == 1) = _; rw [hNx.out, hP.out]; rfl, H5.out⟩
          case measure => simp [intOf]; omega
    · have hkl : k = L.length := by omega
      subst hkl
      have hAA : s = r := by rw [hA.out, HE.out, List.take_length]
      subst hAA
      go_wp2_with fail
      go_ret
      exact ⟨by simp, hH.out.bel⟩

end Go.Proofs.Ytgjhmpgofmmniaa
