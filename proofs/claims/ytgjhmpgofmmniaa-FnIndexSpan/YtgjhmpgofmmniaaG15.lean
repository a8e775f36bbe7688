/- The walk of laws.FnIndexSpan, over the seat's translation. -/
import Derived.Test.YtgjhmpgofmmniaaG11
import Derived.Test.YtgjhmpgofmmniaaG14
import Derived.Test.YtgjhmpgofmmniaaRows
import Derived.Test.YtgjhmpgofmmniaaG01
import Derived.ProofKit
import Derived.OpenShut
import Derived.ChangeOld
import Derived.Below
namespace Go.Proofs.Ytgjhmpgofmmniaa
open Go.RowKit

theorem impl_less (k1 n1 : Int) (s1 : ByteArray) (k2 n2 : Int) (s2 : ByteArray) (w : World) :
    Calls Try.prog 19 #[.agg #[.int .i64 k1, .int .i64 n1, .string s1], .agg #[.int .i64 k2, .int .i64 n2, .string s2]] w fun e w' => e = .returned (.bool (lessV k1 n1 s1 k2 n2 s2)) ∧ Below w.heap.size w w' := by
  go_enter Try.func19, Try.ntmps19
  go_wp2_with fail
  refine (compare_vals _ _ _ _ _ _ _).mono ?_
  rintro e w' ⟨rfl, hb⟩
  go_wp2_with fail
  go_ret
  refine ⟨rfl, ?_⟩
  exact ((((Below.refl _ _).alloc (Nat.le_refl _) _).alloc (by simp) _).trans (hb.mono (by simp; omega)))

theorem lessV_lessE (a b : AEnt) : lessE ⟨a.k, a.n, a.s, 0⟩ ⟨b.k, b.n, b.s, 0⟩ = lessV a.k a.n a.s b.k b.n b.s := by
  unfold lessE
  cases h : eqV ⟨a.k, a.n, a.s, 0⟩ ⟨b.k, b.n, b.s, 0⟩
  · rfl
  · obtain ⟨h1, h2, h3⟩ := eqV_ext h
    simp only at h1 h2 h3
    rw [h1, h2, h3, lessV_same]
    rfl
theorem lessV_mid {a b c : AEnt} (h : lessV a.k a.n a.s c.k c.n c.s = true) (k : lessV b.k b.n b.s c.k c.n c.s = false) : lessV a.k a.n a.s b.k b.n b.s = true := by
  rw [← lessV_lessE] at h k ⊢
  cases hb : lessE ⟨c.k, c.n, c.s, 0⟩ ⟨b.k, b.n, b.s, 0⟩
  · have := lessE_tri _ _ k hb
    rw [this]
    exact h
  · exact lessE_trans _ _ _ h hb
theorem span_back {lo hi : AEnt} (h : lessV hi.k hi.n hi.s lo.k lo.n lo.s = true) (L : List AEnt) : spanIn lo hi L = [] := by
  unfold spanIn
  rw [List.filter_eq_nil_iff.2, List.map_nil]
  intro c _ hc
  unfold inSpan at hc
  simp only [Bool.and_eq_true, Bool.not_eq_true'] at hc
  rw [lessV_mid h hc.1] at hc
  cases hc.2
theorem spanIn_at {lo hi : AEnt} {L : List AEnt} {k : Nat} {c : AEnt} (hc : L[k]? = some c) (h : inSpan lo hi c = true) : (spanIn lo hi L)[(spanIn lo hi (L.take k)).length]? = some c.id := by
  obtain ⟨hk, rfl⟩ := List.getElem?_eq_some_iff.1 hc
  have he : spanIn lo hi L = spanIn lo hi (L.take k) ++ spanIn lo hi (L.drop k) := by
    unfold spanIn
    rw [← List.map_append, ← List.filter_append, List.take_append_drop]
  rw [he, List.getElem?_append_right (Nat.le_refl _), Nat.sub_self]
  rw [List.drop_eq_getElem_cons hk]
  unfold spanIn
  rw [List.filter_cons, if_pos h]
  rfl

/-- What FnIndexSpan carries: entries, two values in their boxes, and the ids. -/
abbrev SnW (w : World) (a : Option Addr) (c : Nat) (L : List AEnt) (B : Nat) (lo hi : AEnt) (ai : Option Addr) (I : List Int) (W : World) : Prop :=
  (DrE w a c L W ∧ IntsAt W ai I ∧ B + 1 < W.heap.size) ∧ (W.cell? ⟨B, 0, none⟩ = some (.int .i64 lo.k) ∧ W.cell? ⟨B, 1, none⟩ = some (.int .i64 lo.n) ∧ W.cell? ⟨B, 2, none⟩ = some (.string lo.s)) ∧ (W.cell? ⟨B + 1, 0, none⟩ = some (.int .i64 hi.k) ∧ W.cell? ⟨B + 1, 1, none⟩ = some (.int .i64 hi.n) ∧ W.cell? ⟨B + 1, 2, none⟩ = some (.string hi.s))
theorem snw_next {w : World} {a : Option Addr} {c : Nat} {L : List AEnt} {B : Nat} {lo hi : AEnt} {ai : Option Addr} {I : List Int} {W W' : World} (h : SnW w a c L B lo hi ai I W) (hb : Below W.heap.size W W') : SnW w a c L B lo hi ai I W' := by
  obtain ⟨⟨h1, h2, h3⟩, h4, h5⟩ := h
  have c0 := fun o => (bcell hb).1 B o (by omega)
  have c1 := fun o => (bcell hb).1 (B + 1) o h3
  refine ⟨⟨h1.next hb, h2.keep hb, Nat.lt_of_lt_of_le h3 hb.size⟩, ?_, ?_⟩
  · simp only [c0]; exact h4
  · simp only [c1]; exact h5
theorem snw_drew {w : World} {a : Option Addr} {c : Nat} {L : List AEnt} {B : Nat} {lo hi : AEnt} {ai : Option Addr} {I : List Int} {W : World} (h : SnW w a c L B lo hi ai I W) : SnW w a c L B lo hi ai I W.drew := snw_next h (Below.refl _ _).drew
/-- Besides, an entry of a round. -/
abbrev SnR (w : World) (a : Option Addr) (c : Nat) (L : List AEnt) (B : Nat) (lo hi : AEnt) (ai : Option Addr) (I : List Int) (b o : Nat) (d : AEnt) (W : World) : Prop :=
  (SnW w a c L B lo hi ai I W ∧ b < W.heap.size) ∧ Cells4 W b o d
theorem snr_next {w : World} {a : Option Addr} {c : Nat} {L : List AEnt} {B : Nat} {lo hi : AEnt} {ai : Option Addr} {I : List Int} {b o : Nat} {d : AEnt} {W W' : World} (h : SnR w a c L B lo hi ai I b o d W) (hb : Below W.heap.size W W') : SnR w a c L B lo hi ai I b o d W' :=
  ⟨⟨snw_next h.1.1 hb, Nat.lt_of_lt_of_le h.1.2 hb.size⟩, cells4_next h.2 h.1.2 hb⟩
theorem snr_drew {w : World} {a : Option Addr} {c : Nat} {L : List AEnt} {B : Nat} {lo hi : AEnt} {ai : Option Addr} {I : List Int} {b o : Nat} {d : AEnt} {W : World} (h : SnR w a c L B lo hi ai I b o d W) : SnR w a c L B lo hi ai I b o d W.drew := snr_next h (Below.refl _ _).drew

set_option maxRecDepth 100000 in
set_option maxHeartbeats 16000000 in
theorem law_ispan (x : Option Addr) (len cap : Nat) (w : World) (hlc : len ≤ cap) (hcap : cap ≤ maxLen) (hc : IsCode w.heap.size x len w) :
    Calls Try.prog 5 #[.slice x len cap] w fun e w' => e = .returned (.bool true) ∧ Below w.heap.size w w' := by
  have hcap' : cap ≤ 9223372036854775807 := hcap
  by_cases hlen : (1048576 : Int) < len
  · go_enter Try.func5, Try.ntmps5
    go_wp2_with fail
    go_ret
    exact ⟨rfl, Below.refl _ _⟩
  go_enter Try.func5, Try.ntmps5
  go_wp2_with fail
  refine (draw_ispan x len cap _ hlc hcap hc).mono ?_
  rintro e w1 ⟨a, c, L, lo, hi, rfl, hD, hlo, hhi⟩
  have hnil := hD.nil
  have hfit : Hid (∀ d ∈ L, d.fit) := hD.fit
  have hl16 := hD.len
  have hm : L.length ≤ maxLen := by unfold maxLen; omega
  have ba := alloc_below w1 (.cells #[.int .i64 lo.k, .int .i64 lo.n, .string lo.s] 27)
  have bb := alloc_below (w1.alloc (.cells #[.int .i64 lo.k, .int .i64 lo.n, .string lo.s] 27)) (.cells #[.int .i64 hi.k, .int .i64 hi.n, .string hi.s] 27)
  have H1 : Hid (SnW w a c L w1.heap.size lo hi none [] ((w1.alloc (.cells #[.int .i64 lo.k, .int .i64 lo.n, .string lo.s] 27)).alloc (.cells #[.int .i64 hi.k, .int .i64 hi.n, .string hi.s] 27))) := by
    obtain ⟨-, p0, p1, p2, -⟩ := (box3 w1 (.int .i64 lo.k) (.int .i64 lo.n) (.string lo.s) 27).keep bb
    obtain ⟨hl, q0, q1, q2, -⟩ := box3b w1 (.cells #[.int .i64 lo.k, .int .i64 lo.n, .string lo.s] 27) (.int .i64 hi.k) (.int .i64 hi.n) (.string hi.s) 27
    exact ⟨⟨(hD.next ba).next bb, Or.inl rfl, hl⟩, ⟨p0, p1, p2⟩, q0, q1, q2⟩
  clear hD hc ba bb
  have hx := H1.out.2
  go_wp2_with fail
  refine (impl_span a c L lo hi _ H1.out.1.1.ents hnil hfit.out (by omega)).mono ?_
  rintro e w2 ⟨v, rfl, hO, hb⟩
  generalize w1.heap.size = B at *
  obtain ⟨I, hI⟩ : ∃ I, I = spanL lo hi L := ⟨_, rfl⟩
  have HI : Hid (I = spanL lo hi L) := hI
  have hIl : I.length ≤ 16 := by
    rw [hI]
    unfold spanL
    split
    · have := spanIn_len lo hi L
      omega
    · exact Nat.zero_le _
  have hIm : I.length ≤ maxLen := by unfold maxLen; omega
  rw [← hI] at hO
  obtain ⟨ai, ci, rfl, hIA⟩ := hO.slice
  have H2 : SnW w a c L B lo hi ai I w2 := ⟨⟨(snw_next H1.out hb).1.1, hIA, (snw_next H1.out hb).1.2.2⟩, (snw_next H1.out hb).2⟩
  clear hb hO hIA H1 hx hI
  have H2 : Hid _ := H2
  have hx := H2.out.2
  go_wp2_with fail
  refine (spec_span a c L lo hi _ H2.out.1.1.ents hfit.out (by omega)).mono ?_
  rintro e w3 ⟨v, rfl, hO, hb⟩
  rw [← HI.out] at hO
  obtain ⟨aj, cj, rfl, hJA⟩ := hO.slice
  have H3 : Hid (SnW w a c L B lo hi ai I w3 ∧ IntsAt w3 aj I) := ⟨snw_next H2.out hb, hJA⟩
  clear hb hO hJA H2 hx
  go_wp2_with fail
  refine (wp_nums ai aj ci cj I _ H3.out.1.1.2.1 H3.out.2 hIm).mono ?_
  rintro e w4 ⟨rfl, hb⟩
  have H4 : Hid (SnW w a c L B lo hi ai I w4) := snw_next H3.out.1 hb
  clear hb H3
  go_wp2_with fail
  refine (spec_index a c L _ H4.out.1.1.ents hfit.out hm).mono ?_
  rintro e w5 ⟨rfl, hb⟩
  have H5 : Hid (SnW w a c L B lo hi ai I w5) := snw_next H4.out hb
  clear hb H4
  cases hs : indexOk L
  · have hI0 : I = [] := by rw [HI.out]; unfold spanL; rw [hs]; rfl
    subst hI0
    go_wp2_with fail
    go_ret
    exact ⟨rfl, H5.out.1.1.bel⟩
  have HI2 : Hid (I = spanIn lo hi L) := by show I = spanIn lo hi L; rw [HI.out]; unfold spanL; rw [hs]; rfl
  have hOk : Hid (indexOk L = true) := hs
  clear hs HI
  go_wp2_with fail
  go_loopw [7, 8] (fun n i wr => ∃ k m : Nat, k ≤ L.length ∧ i = .int .i64 k ∧ n = .int .i64 m ∧ m ≤ I.length ∧ Hid (SnW w a c L B lo hi ai I wr ∧ m = (spanIn lo hi (L.take k)).length)) (fun _ i _ => L.length - (intOf i).toNat)
  case atStart => exact ⟨0, 0, Nat.zero_le _, rfl, rfl, Nat.zero_le _, H5.out, rfl⟩
  case round =>
    obtain ⟨k, m, hk, rfl, rfl, hmI, hH⟩ := hrel
    clear H5
    by_cases hlt : k < L.length
    · obtain ⟨b, o, hab, hbl, hr⟩ := hH.out.1.1.1.ents.at hlt
      have hc := List.getElem?_eq_getElem hlt
      revert hr hc
      generalize L[k] = d
      intro hr hc
      have hix : ∀ wx, (Instr.indexAt 23 (.slice a L.length c) (.int .i64 k)).run Try.prog wx = .ok (.pointer (some ⟨b, o + k * 4, none⟩)) wx := fun wx => by
        rw [hab]; exact run_ix4 _ _ _ _ _ _ _ wx hlt Try.underlying23 (Try.sizeOf29 wx)
      have hT : SnR w a c L B lo hi ai I b (o + k * 4) d wr := ⟨⟨hH.out.1, hbl⟩, cells4_of hr⟩
      have hNx : Hid (spanIn lo hi (L.take (k + 1)) = spanIn lo hi (L.take k) ++ if inSpan lo hi d then [d.id] else []) := spanIn_next hc
      have hAt : Hid (inSpan lo hi d = true → I[m]? = some d.id) := fun h => by rw [HI2.out, hH.out.2]; exact spanIn_at hc h
      have inh : Nonempty (Over (SnR w a c L B lo hi ai I b (o + k * 4) d)) := ⟨⟨wr, hT⟩⟩
      have f0 : ∀ p : Over (SnR w a c L B lo hi ai I b (o + k * 4) d), Cells4 p.W b (o + k * 4) d := fun p => p.ok.2
      have f1 : ∀ p : Over (SnR w a c L B lo hi ai I b (o + k * 4) d), p.W.cell? ⟨B, 0, none⟩ = some (.int .i64 lo.k) ∧ p.W.cell? ⟨B, 1, none⟩ = some (.int .i64 lo.n) ∧ p.W.cell? ⟨B, 2, none⟩ = some (.string lo.s) := fun p => p.ok.1.1.2.1
      have f2 : ∀ p : Over (SnR w a c L B lo hi ai I b (o + k * 4) d), p.W.cell? ⟨B + 1, 0, none⟩ = some (.int .i64 hi.k) ∧ p.W.cell? ⟨B + 1, 1, none⟩ = some (.int .i64 hi.n) ∧ p.W.cell? ⟨B + 1, 2, none⟩ = some (.string hi.s) := fun p => p.ok.1.1.2.2
      have hcA : ∀ W, Calls Try.prog 19 #[.agg #[.int .i64 d.k, .int .i64 d.n, .string d.s], .agg #[.int .i64 lo.k, .int .i64 lo.n, .string lo.s]] W fun e w' => e = .returned (.bool (lessV d.k d.n d.s lo.k lo.n lo.s)) ∧ Below W.heap.size W w' := fun W => impl_less _ _ _ _ _ _ W
      have hcB : ∀ W, Calls Try.prog 19 #[.agg #[.int .i64 hi.k, .int .i64 hi.n, .string hi.s], .agg #[.int .i64 d.k, .int .i64 d.n, .string d.s]] W fun e w' => e = .returned (.bool (lessV hi.k hi.n hi.s d.k d.n d.s)) ∧ Below W.heap.size W w' := fun W => impl_less _ _ _ _ _ _ W
      have hdef : inSpan lo hi d = (!lessV d.k d.n d.s lo.k lo.n lo.s && !lessV hi.k hi.n hi.s d.k d.n d.s) := rfl
      clear hab hr hbl hc
      cases h1 : lessV d.k d.n d.s lo.k lo.n lo.s
      · cases h2 : lessV hi.k hi.n hi.s d.k d.n d.s
        · rw [h1] at hcA
          rw [h2] at hcB
          have hin : Hid (inSpan lo hi d = true) := by show inSpan lo hi d = true; rw [hdef, h1, h2]; rfl
          clear hdef h1 h2
          go_wp2_with fail
          refine wp_region_over (S := SnR w a c L B lo hi ai I b (o + k * 4) d) (by kernel_rfl) (by kernel_rfl) (snr_drew hT) ?_
          repeat (go_big_quiet_step (first | with_reducible exact over_call (hcA _) (fun _ h => snr_next (Over.ok _) h) | with_reducible exact over_call (hcB _) (fun _ h => snr_next (Over.ok _) h)))
          refine wpQuiet_nil ?_
          rintro wq ⟨p, hp⟩
          have hq := p.ok
          rw [← hp] at hq
          clear hp p f0 f1 f2 inh hcA hcB hT
          have hIm2 := hAt.out hin.out
          obtain ⟨hmlt, hmv⟩ := List.getElem?_eq_some_iff.1 hIm2
          obtain ⟨b2, o2, hab2, hbl2, hr2⟩ := hq.1.1.1.2.1.at hmlt
          rw [hmv] at hr2
          have hiy : ∀ wx, (Instr.indexAt 30 (.slice ai I.length ci) (.int .i64 m)).run Try.prog wx = .ok (.pointer (some ⟨b2, o2 + m, none⟩)) wx := fun wx => by
            rw [hab2]; exact run_ix1 _ _ _ _ _ _ _ wx hmlt Try.underlying30 (Try.sizeOf3 wx)
          have hT2 := hq.2
          have hge : decide (I.length ≤ m) = false := decide_eq_false (by omega)
          have HQ : Hid (SnW w a c L B lo hi ai I wq) := hq.1.1
          clear hIm2 hmv hab2 hbl2 hq
          go_wp2_with fail
          go_quiet (fail)
          have HQ2 : Hid (SnW w a c L B lo hi ai I (wq.drewN nq)) := snw_next HQ.out (quiet_below _ _ _)
          clear hT2 hr2 hix hiy HQ
          go_wp2_with fail
          go_roundw
          case rel => exact ⟨k + 1, m + 1, by omega, by go_num, by go_num, by omega, HQ2.out, by rw [hNx.out, hin.out, List.length_append, ← hH.out.2]; rfl⟩
          case measure => simp [intOf]; omega
        · rw [h1] at hcA
          rw [h2] at hcB
          have hin : Hid (inSpan lo hi d = false) := by show inSpan lo hi d = false; rw [hdef, h1, h2]; rfl
          clear hdef h1 h2
          go_wp2_with fail
          refine wp_region_over (S := SnR w a c L B lo hi ai I b (o + k * 4) d) (by kernel_rfl) (by kernel_rfl) (snr_drew hT) ?_
          repeat (go_big_quiet_step (first | with_reducible exact over_call (hcA _) (fun _ h => snr_next (Over.ok _) h) | with_reducible exact over_call (hcB _) (fun _ h => snr_next (Over.ok _) h)))
          refine wpQuiet_nil ?_
          rintro wq ⟨p, hp⟩
          have hq := p.ok
          rw [← hp] at hq
          clear hp p f0 f1 f2 inh hcA hcB hT
          have HQ : Hid (SnW w a c L B lo hi ai I wq) := hq.1.1
          clear hq hix
          go_wp2_with fail
          go_roundw
          case rel => exact ⟨k + 1, m, by omega, by go_num, rfl, hmI, HQ.out, by rw [hNx.out, hin.out]; simpa using hH.out.2⟩
          case measure => simp [intOf]; omega
      · rw [h1] at hcA
        have hin : Hid (inSpan lo hi d = false) := by show inSpan lo hi d = false; rw [hdef, h1]; rfl
        clear hdef h1
        go_wp2_with fail
        refine wp_region_over (S := SnR w a c L B lo hi ai I b (o + k * 4) d) (by kernel_rfl) (by kernel_rfl) (snr_drew hT) ?_
        repeat (go_big_quiet_step (first | with_reducible exact over_call (hcA _) (fun _ h => snr_next (Over.ok _) h) | with_reducible exact over_call (hcB _) (fun _ h => snr_next (Over.ok _) h)))
        refine wpQuiet_nil ?_
        rintro wq ⟨p, hp⟩
        have hq := p.ok
        rw [← hp] at hq
        clear hp p f0 f1 f2 inh hcA hcB hT
        have HQ : Hid (SnW w a c L B lo hi ai I wq) := hq.1.1
        clear hq hix
        go_wp2_with fail
        go_roundw
        case rel => exact ⟨k + 1, m, by omega, by go_num, rfl, hmI, HQ.out, by rw [hNx.out, hin.out]; simpa using hH.out.2⟩
        case measure => simp [intOf]; omega
    · have hkl : k = L.length := by omega
      subst hkl
      have hmI2 : m = I.length := by rw [HI2.out, hH.out.2, List.take_length]
      subst hmI2
      have hcL : ∀ W, Calls Try.prog 19 #[.agg #[.int .i64 hi.k, .int .i64 hi.n, .string hi.s], .agg #[.int .i64 lo.k, .int .i64 lo.n, .string lo.s]] W fun e w' => e = .returned (.bool (lessV hi.k hi.n hi.s lo.k lo.n lo.s)) ∧ Below W.heap.size W w' := fun W => impl_less _ _ _ _ _ _ W
      have hlo2 : (spanL lo lo L).length ≤ maxLen := by
        unfold spanL maxLen
        rw [if_pos hOk.out]
        have := spanIn_len lo lo L
        omega
      have hT := hH.out.1
      have hI0 : Hid (lessV hi.k hi.n hi.s lo.k lo.n lo.s = true → I = []) := fun h => by rw [HI2.out]; exact span_back h L
      clear hH HI2
      have hx := hT.2
      cases h1 : lessV hi.k hi.n hi.s lo.k lo.n lo.s
      · rw [h1] at hcL
        clear hI0 h1 hmI hIl hIm hlt hk hcap' hlen hlo hhi
        go_wp2_with fail
        first
          | (go_region_with (first
          | (go_at_call 15; refine (impl_span a c L lo lo _ (by first | exact hT.1.1.ents | exact (snw_drew hT).1.1.ents) hnil hfit.out (by omega)).mono ?_; rintro e wA ⟨v, rfl, hO, hb⟩; obtain ⟨aA, cA, rfl, hIA⟩ := hO.slice; replace hT := snw_next (by first | exact hT | exact snw_drew hT) hb; (try replace hIB := IntsAt.keep (by first | exact hIB) hb); clear hO hb)
          | (go_at_call 12; refine (impl_find a c L lo _ (by first | exact hT.1.1.ents | exact (snw_drew hT).1.1.ents) hnil hfit.out (by omega)).mono ?_; rintro e wB ⟨v, rfl, hO, hb⟩; obtain ⟨aB, cB, rfl, hIB⟩ := hO.slice; replace hT := snw_next (by first | exact hT | exact snw_drew hT) hb; (try replace hIA := IntsAt.keep (by first | exact hIA) hb); clear hO hb)
          | (go_at_call 16; refine (wp_nums _ _ _ _ (spanL lo lo L) _ hIA hIB hlo2).mono ?_; rintro e wC ⟨rfl, hb⟩; replace hT := snw_next (by first | exact hT | exact snw_drew hT) hb; clear hb hIA hIB)
          | (go_at_call 19; refine (hcL _).mono ?_; rintro e wD ⟨rfl, hb⟩; replace hT := snw_next (by first | exact hT | exact snw_drew hT) hb; clear hb)))
          | fail
        all_goals
          have hZ : Hid (Below w.heap.size w _) := hT.1.1.bel
          clear hT
          go_wp2_with fail
          go_ret
          exact ⟨rfl, hZ.out⟩
      · rw [h1] at hcL
        have hl0 : I.length = 0 := by rw [hI0.out h1]; rfl
        rw [hl0]
        clear hI0 h1 hl0 hmI hIl hIm hlt hk
        go_wp2_with fail
        go_region_held3 (fun W => SnW w a c L B lo hi ai I W) (first | assumption | exact snw_drew (by assumption))
          (first
            | (go_at_call 15; have hS := ‹SnW w a c L B lo hi ai I _›; refine (impl_span a c L lo lo _ hS.1.1.ents hnil hfit.out (by omega)).mono ?_; rintro e wA ⟨v, rfl, hO, hb⟩; obtain ⟨aA, cA, rfl, hIA⟩ := hO.slice; have hCA := snw_next hS hb; (try replace hIB := IntsAt.keep hIB hb); clear hO hb hS)
            | (go_at_call 12; have hS := ‹SnW w a c L B lo hi ai I _›; refine (impl_find a c L lo _ hS.1.1.ents hnil hfit.out (by omega)).mono ?_; rintro e wB ⟨v, rfl, hO, hb⟩; obtain ⟨aB, cB, rfl, hIB⟩ := hO.slice; have hCB := snw_next hS hb; (try replace hIA := IntsAt.keep hIA hb); clear hO hb hS)
            | (go_at_call 16; have hS := ‹SnW w a c L B lo hi ai I _›; refine (wp_nums _ _ _ _ (spanL lo lo L) _ hIA hIB hlo2).mono ?_; rintro e wC ⟨rfl, hb⟩; have hCC := snw_next hS hb; clear hb hS hIA hIB)
            | (go_at_call 19; have hS := ‹SnW w a c L B lo hi ai I _›; refine (hcL _).mono ?_; rintro e wD ⟨rfl, hb⟩; have hCD := snw_next hS hb; clear hb hS))
        all_goals
          have hZ : Hid (Below w.heap.size w _) := (‹SnW w a c L B lo hi ai I _›).1.1.bel
          go_wp2_with fail
          go_ret
          exact ⟨rfl, hZ.out⟩

end Go.Proofs.Ytgjhmpgofmmniaa

/- A code that came in, as the draws read it. Over the seat's translation. -/
namespace Go.Proofs.Ytgjhmpgofmmniaa
open Go.ChangeShapes Go.WideShapes Go.ChangeAt Go.RowKit

/-- A slice of bytes that came in, as the draws read it. -/
theorem code_of {H : Type} {enc : TypeId × Value → H} {W : World} {a : Option Addr} {len cap : Nat} {d : DataW H} {p : List MemPlace}
    (h : DataW.Trod enc Try.prog W 0 (fun _ => true) true 22 (.slice a len cap) d p) : len ≤ cap ∧ cap ≤ maxLen ∧ IsCode W.heap.size a len W := by
  obtain ⟨fuel, hf⟩ := h
  rcases open_ints Try.underlying22 Try.underlying5 (by kernel_rfl) hf with ⟨hcs, _⟩ | ⟨x, l, c, zs, hcs, _, hl, hm, hz, _, hcell, hwz⟩
  · simp [Value.cells] at hcs
    obtain ⟨rfl, rfl, rfl⟩ := hcs
    exact ⟨Nat.le_refl _, Nat.zero_le _, Or.inl rfl⟩
  · simp [Value.cells] at hcs
    obtain ⟨rfl, rfl, rfl⟩ := hcs
    refine ⟨hl, hm, ?_⟩
    have hz' : zs.length = cap := by simpa using hz
    by_cases h0 : len = 0
    · exact Or.inl h0
    · obtain ⟨b, off, spot⟩ := x
      have hc := hcell 0 (by omega)
      have hspot : spot = none := by simpa [Addr.add] using World.cell?_spot hc
      subst hspot
      refine Or.inr ⟨b, off, rfl, ?_, fun i hi => ?_⟩
      · have := World.block_lt_of_cell? W _ hc
        simpa [Addr.add] using this
      · have hi' := hcell i (by omega)
        have hw := bounds_u8 (hwz (zs.getD i 0) (by rw [List.getD_eq_getElem?_getD, List.getElem?_eq_getElem (by omega)]; exact List.getElem_mem _))
        refine ⟨zs.getD i 0, ?_, hw.1, by omega⟩
        by_cases i0 : i = 0
        · subst i0; simpa [Addr.add] using hi'
        · simpa [Addr.add, i0] using hi'

end Go.Proofs.Ytgjhmpgofmmniaa
