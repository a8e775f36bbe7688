/- The walk of laws.FnIndexAll, over the seat's translation. -/
import Derived.Test.YtgjhmpgofmmniaaIxX3
import Derived.Test.YtgjhmpgofmmniaaIxFn0
namespace Go.Proofs.Ytgjhmpgofmmniaa
open Go.RowKit

theorem ok_least {k n : Int} {s : ByteArray} (h : valOk k n s = true) : lessV k n s 0 0 ⟨#[]⟩ = false := by
  rw [less_eq]
  unfold valOk at h
  by_cases h0 : k = 0
  · subst h0
    simp only [if_true, Bool.and_eq_true, beq_iff_eq] at h
    obtain ⟨rfl, hs⟩ := h
    rw [if_pos rfl, if_pos rfl]
    unfold bad
    rw [hs, Lib.toList_data]
    exact bl_irr _
  · rw [if_neg h0] at h ⊢
    by_cases h1 : k = 1
    · subst h1; rfl
    · rw [if_neg h1] at h
      by_cases h2 : k = 2
      · subst h2; rfl
      · rw [if_neg h2] at h; cases h
theorem last_most {L : List AEnt} (hA : Asc L) {c d : AEnt} (hc : c ∈ L) (hd : L[L.length - 1]? = some d) : lessV d.k d.n d.s c.k c.n c.s = false := by
  cases h : lessV d.k d.n d.s c.k c.n c.s
  · rfl
  · have he : eqV d c = false := by
      cases k : eqV d c
      · rfl
      · obtain ⟨h1, h2, h3⟩ := eqV_ext k
        rw [h1, h2, h3, lessV_same] at h
        cases h
    have hl : lessE d c = true := by unfold lessE; rw [he]; exact h
    obtain ⟨i, hi, hic⟩ := List.getElem_of_mem hc
    by_cases hlt : i = L.length - 1
    · subst hlt
      rw [List.getElem?_eq_getElem hi, hic] at hd
      cases hd
      rw [lessE_irr] at hl; cases hl
    · have := hA.lt (i := i) (j := L.length - 1) (by omega) (by rw [List.getElem?_eq_getElem hi, hic]) hd
      rw [lessE_asym _ _ this] at hl; cases hl
theorem span_all {L : List AEnt} (h : indexOk L = true) {d : AEnt} (hd : L[L.length - 1]? = some d) : spanL ⟨0, 0, ⟨#[]⟩, 0⟩ d L = L.map AEnt.id := by
  unfold spanL spanIn
  rw [if_pos h, List.filter_eq_self.2]
  intro c hc
  unfold inSpan
  rw [ok_least (index_val h hc), last_most (index_asc h) hc hd]
  rfl
theorem span_none {L : List AEnt} (h : indexOk L = false ∨ L = []) (lo hi : AEnt) : spanL lo hi L = [] := by
  unfold spanL
  rcases h with h | h
  · rw [h]; rfl
  · subst h; unfold spanIn; simp

/-- What a round of FnIndexAll reads. -/
abbrev AlW (w : World) (a : Option Addr) (c : Nat) (L : List AEnt) (a1 : Option Addr) (b o : Nat) (d : AEnt) (bi oi : Nat) (W : World) : Prop :=
  (DrE w a c L W ∧ IntsAt W a1 (L.map AEnt.id) ∧ b < W.heap.size ∧ bi < W.heap.size) ∧ Cells4 W b o d ∧ W.cell? ⟨bi, oi, none⟩ = some (.int .i64 d.id)
theorem alw_next {w : World} {a : Option Addr} {c : Nat} {L : List AEnt} {a1 : Option Addr} {b o : Nat} {d : AEnt} {bi oi : Nat} {W W' : World} (h : AlW w a c L a1 b o d bi oi W) (hb : Below W.heap.size W W') : AlW w a c L a1 b o d bi oi W' := by
  obtain ⟨⟨h1, h2, h3, h4⟩, h5, h6⟩ := h
  exact ⟨⟨h1.next hb, h2.keep hb, Nat.lt_of_lt_of_le h3 hb.size, Nat.lt_of_lt_of_le h4 hb.size⟩, cells4_next h5 h3 hb, by rw [(bcell hb).1 _ _ h4]; exact h6⟩
theorem alw_drew {w : World} {a : Option Addr} {c : Nat} {L : List AEnt} {a1 : Option Addr} {b o : Nat} {d : AEnt} {bi oi : Nat} {W : World} (h : AlW w a c L a1 b o d bi oi W) : AlW w a c L a1 b o d bi oi W.drew := alw_next h (Below.refl _ _).drew

set_option maxRecDepth 100000 in
set_option maxHeartbeats 4000000 in
theorem law_iall (x : Option Addr) (len cap : Nat) (w : World) (hlc : len ≤ cap) (hcap : cap ≤ maxLen) (hc : IsCode w.heap.size x len w) :
    Calls Try.prog 4 #[.slice x len cap] w fun e w' => e = .returned (.bool true) ∧ Below w.heap.size w w' := by
  have hcap' : cap ≤ 9223372036854775807 := hcap
  by_cases hlen : (1048576 : Int) < len
  · go_enter Try.func4, Try.ntmps4
    go_wp2_with fail
    go_ret
    exact ⟨rfl, Below.refl _ _⟩
  go_enter Try.func4, Try.ntmps4
  go_wp2_with fail
  refine (draw_iok x len cap _ hlc hcap hc).mono ?_
  rintro e w1 ⟨a, c, L, rfl, hD⟩
  have H1 : Hid (DrE w a c L w1) := hD
  have hnil := hD.nil
  have hfit : Hid (∀ d ∈ L, d.fit) := hD.fit
  have hl16 := hD.len
  have hm : L.length ≤ maxLen := by unfold maxLen; omega
  clear hD hc
  go_wp2_with fail
  refine (impl_index a c L _ H1.out.ents hnil hfit.out hm).mono ?_
  rintro e w2 ⟨rfl, hb⟩
  have H2 : Hid (DrE w a c L w2) := H1.out.next hb
  clear hb H1
  obtain ⟨r, hr⟩ : ∃ r, r = indexOk L := ⟨_, rfl⟩
  rw [← hr]
  have HR : Hid (r = indexOk L) := hr
  clear hr
  go_wp2_with fail
  refine (spec_index a c L _ H2.out.ents hfit.out hm).mono ?_
  rintro e w3 ⟨rfl, hb⟩
  rw [← HR.out]
  have H3 : Hid (DrE w a c L w3) := H2.out.next hb
  clear hb H2
  go_wp2_with fail
  refine (spec_index a c L _ H3.out.ents hfit.out hm).mono ?_
  rintro e w4 ⟨rfl, hb⟩
  rw [← HR.out]
  have H4 : Hid (DrE w a c L w4) := H3.out.next hb
  clear hb H3
  cases hr0 : r
  · subst hr0
    have hS : Hid (∀ lo hi, spanL lo hi L = []) := span_none (Or.inl HR.out.symm)
    go_wp2_with fail
    refine (impl_span a c L ⟨0, 0, ⟨#[]⟩, 0⟩ ⟨2, 0, ⟨#[122, 122, 122, 122]⟩, 0⟩ _ H4.out.ents hnil hfit.out (by omega)).mono ?_
    rintro e w5 ⟨v, rfl, hO, hb⟩
    rw [hS.out] at hO
    obtain ⟨a1, c1, rfl, -⟩ := hO.slice
    have H5 : Hid (DrE w a c L w5) := H4.out.next hb
    clear hb hO H4
    go_wp2_with fail
    go_ret
    exact ⟨rfl, H5.out.bel⟩
  by_cases hl0 : L.length = 0
  · have hL0 : L = [] := List.length_eq_zero_iff.1 hl0
    subst hL0
    have hS : Hid (∀ lo hi, spanL lo hi ([] : List AEnt) = []) := span_none (Or.inr rfl)
    go_wp2_with fail
    refine (impl_span a c ([] : List AEnt) ⟨0, 0, ⟨#[]⟩, 0⟩ ⟨2, 0, ⟨#[122, 122, 122, 122]⟩, 0⟩ _ H4.out.ents hnil hfit.out (by omega)).mono ?_
    rintro e w5 ⟨v, rfl, hO, hb⟩
    rw [hS.out] at hO
    obtain ⟨a1, c1, rfl, -⟩ := hO.slice
    have H5 : Hid (DrE w a c ([] : List AEnt) w5) := H4.out.next hb
    clear hb hO H4
    go_wp2_with fail
    go_ret
    exact ⟨rfl, H5.out.bel⟩
  subst hr0
  have hix1 : Hid (indexOk L = true) := HR.out.symm
  obtain ⟨n1, hn1⟩ : ∃ n1, n1 = L.length - 1 := ⟨_, rfl⟩
  have hlt1 : n1 < L.length := by omega
  obtain ⟨b, o, hab, -, hrr⟩ := H4.out.ents.at hlt1
  have hd : L[n1]? = some L[n1] := List.getElem?_eq_getElem hlt1
  revert hrr hd
  generalize L[n1] = d
  intro hrr hd
  have hni : ((L.length : Int) - 1) = ((n1 : Nat) : Int) := by omega
  have hix : ∀ wx, (Instr.indexAt 23 (.slice a L.length c) (.int .i64 ((L.length : Int) - 1))).run Try.prog wx = .ok (.pointer (some ⟨b, o + n1 * 4, none⟩)) wx := fun wx => by
    rw [hab, hni]; exact run_ix4 _ _ _ _ _ _ _ wx hlt1 Try.underlying23 (Try.sizeOf29 wx)
  have hT := cells4_of hrr
  have hS : Hid (spanL ⟨0, 0, ⟨#[]⟩, 0⟩ d L = L.map AEnt.id) := span_all hix1.out (by rw [← hn1]; exact hd)
  clear hrr hd hab hni hn1
  go_wp2_with fail
  refine (impl_span a c L ⟨0, 0, ⟨#[]⟩, 0⟩ d _ H4.out.ents hnil hfit.out (by omega)).mono ?_
  rintro e w5 ⟨v, rfl, hO, hb⟩
  rw [hS.out] at hO
  obtain ⟨a1, c1, rfl, hI⟩ := hO.slice
  have H5 : Hid (DrE w a c L w5 ∧ IntsAt w5 a1 (L.map AEnt.id)) := ⟨H4.out.next hb, hI⟩
  clear hb hO hI H4 hT hix hlt1 hS
  rw [List.length_map]
  go_wp2_with fail
  go_loopw [5] (fun i wr => ∃ k : Nat, k ≤ L.length ∧ i = .int .i64 k ∧ Hid (DrE w a c L wr ∧ IntsAt wr a1 (L.map AEnt.id))) (fun i _ => L.length - (intOf i).toNat)
  case atStart => exact ⟨0, Nat.zero_le _, rfl, H5.out⟩
  case round =>
    obtain ⟨k, hk, rfl, hH⟩ := hrel
    clear H5
    by_cases hlt : k < L.length
    · obtain ⟨b1, o1, hab1, hbl1, hr1⟩ := hH.out.1.ents.at hlt
      obtain ⟨b2, o2, hab2, hbl2, hr2⟩ := hH.out.2.at (k := k) (by rw [List.length_map]; exact hlt)
      rw [List.getElem_map] at hr2
      revert hr1 hr2
      generalize L[k] = d
      intro hr1 hr2
      have hix : ∀ wx, (Instr.indexAt 23 (.slice a L.length c) (.int .i64 k)).run Try.prog wx = .ok (.pointer (some ⟨b1, o1 + k * 4, none⟩)) wx := fun wx => by
        rw [hab1]; exact run_ix4 _ _ _ _ _ _ _ wx hlt Try.underlying23 (Try.sizeOf29 wx)
      have hiy : ∀ wx, (Instr.indexAt 30 (.slice a1 L.length c1) (.int .i64 k)).run Try.prog wx = .ok (.pointer (some ⟨b2, o2 + k, none⟩)) wx := fun wx => by
        rw [hab2]; exact run_ix1 _ _ _ _ _ _ _ wx hlt Try.underlying30 (Try.sizeOf3 wx)
      have hT : AlW w a c L a1 b1 (o1 + k * 4) d b2 (o2 + k) wr := ⟨⟨hH.out.1, hH.out.2, hbl1, hbl2⟩, cells4_of hr1, hr2⟩
      have hsl : (spanL d d L).length ≤ maxLen := by
        unfold spanL maxLen
        rw [if_pos hix1.out]
        have := spanIn_len d d L
        omega
      clear hab1 hab2 hr1 hr2 hH hbl1 hbl2
      go_wp2_with fail
      go_region_held3 (fun W => AlW w a c L a1 b1 (o1 + k * 4) d b2 (o2 + k) W) (first | assumption | exact alw_drew (by assumption))
        (first
          | (go_at_call 15; have hS := ‹AlW w a c L a1 b1 (o1 + k * 4) d b2 (o2 + k) _›; refine (impl_span a c L d d _ hS.1.1.ents hnil hfit.out (by omega)).mono ?_; rintro e wA ⟨vA, rfl, hO, hb⟩; obtain ⟨aA, cA, rfl, hIA⟩ := hO.slice; have hCA := alw_next hS hb; (try have hIB := hIB.keep hb); clear hO hb hS)
          | (go_at_call 12; have hS := ‹AlW w a c L a1 b1 (o1 + k * 4) d b2 (o2 + k) _›; refine (impl_find a c L d _ hS.1.1.ents hnil hfit.out (by omega)).mono ?_; rintro e wB ⟨vB, rfl, hO, hb⟩; obtain ⟨aB, cB, rfl, hIB⟩ := hO.slice; have hCB := alw_next hS hb; (try have hIA := hIA.keep hb); clear hO hb hS)
          | (go_at_call 16; have hS := ‹AlW w a c L a1 b1 (o1 + k * 4) d b2 (o2 + k) _›; refine (wp_nums _ _ _ _ (spanL d d L) _ hIA hIB hsl).mono ?_; rintro e wC ⟨rfl, hb⟩; have hCC := alw_next hS hb; clear hb hS))
      all_goals
        have hP : Hid (DrE w a c L wC ∧ IntsAt wC a1 (L.map AEnt.id)) := ⟨hCC.1.1, hCC.1.2.1⟩
        go_wp2_with fail
        go_roundw
        case rel => exact ⟨k + 1, by omega, by go_num, hP.out⟩
        case measure => simp [intOf]; omega
    · have hkl : k = L.length := by omega
      subst hkl
      go_wp2_with fail
      go_ret
      exact ⟨rfl, hH.out.1.bel⟩

end Go.Proofs.Ytgjhmpgofmmniaa
