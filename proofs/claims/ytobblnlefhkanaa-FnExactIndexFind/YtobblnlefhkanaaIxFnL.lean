/- The walk of laws.FnExactIndexFind, over the seat's translation. -/
import Derived.Test.YtobblnlefhkanaaIxE
import Derived.Test.YtobblnlefhkanaaIxFnV
import Derived.Test.YtobblnlefhkanaaIxFn1
import Derived.Test.YtobblnlefhkanaaIxZ
namespace Go.Proofs.Ytobblnlefhkanaa
open Go.RowKit

set_option maxRecDepth 100000 in
set_option maxHeartbeats 4000000 in
theorem law_find (a : Option Addr) (cap : Nat) (L : List AEnt) (lo : AEnt) (w : World) (hL : EntsAt w a L) (hf : ∀ c ∈ L, c.fit) (hm : L.length ≤ maxLen) (hlo : lo.fit) :
    Calls Try.prog 8 #[.slice a L.length cap, .agg #[.int .i64 lo.k, .int .i64 lo.n, .string lo.s]] w fun e w' => e = .returned (.bool true) ∧ Below w.heap.size w w' := by
  have I0 := InF.start lo hL 30
  obtain ⟨N, hN⟩ : ∃ N, N = spanL lo lo L := ⟨_, rfl⟩
  have hspec : ∀ (g : Nat) (w : World), L.length ≤ 1048576 → EntsAt w (some ⟨g, 0, none⟩) L → Calls Try.prog 31 #[.slice (some ⟨g, 0, none⟩) L.length L.length, .agg #[.int .i64 lo.k, .int .i64 lo.n, .string lo.s]] w
      fun e w' => ∃ aw cw, e = .returned (.slice aw N.length cw) ∧ IntsAt w' aw N ∧ Below w.heap.size w w' := fun g w h20 hE => by
    rw [hN]
    exact (spec_find _ _ L lo w hE hf h20).mono fun e w' ⟨v, he, hv, hb⟩ => by
      obtain ⟨a, c, h1, h2⟩ := hv.slice
      exact ⟨a, c, by rw [he, h1], h2, hb⟩
  have himpl : ∀ (g : Nat) (w : World), L.length ≤ 1048576 → EntsAt w (some ⟨g, 0, none⟩) L → Calls Try.prog 32 #[.slice (some ⟨g, 0, none⟩) L.length L.length, .agg #[.int .i64 lo.k, .int .i64 lo.n, .string lo.s]] w
      fun e w' => ∃ ag cg, e = .returned (.slice ag N.length cg) ∧ OwnI w.heap.size (.slice ag N.length cg) N w' ∧ Below w.heap.size w w' := fun g w h20 hE => by
    rw [hN]
    exact (impl_find _ _ L lo w hE (fun h => by cases h) hf h20).mono fun e w' ⟨v, he, hv, hb⟩ => by
      obtain ⟨a, c, h1, h2⟩ := hv.slice
      exact ⟨a, c, by rw [he, h1], by rw [← h1]; exact hv, hb⟩
  have hNl : N.length ≤ 16 := by
    rw [hN]
    unfold spanL
    cases hI : indexOk L
    · simp
    · have h1 := spanIn_len lo lo L
      simp only [indexOk, Bool.and_eq_true, decide_eq_true_eq] at hI
      rw [if_pos rfl]
      omega
  clear hN
  clear hL
  go_enter Try.func8, Try.ntmps8
  go_wp2_with fail
  refine (sz_entries _ _ _ _ _ I0.ents hf hm (by omega) (by omega)).mono ?_
  rintro e w1 ⟨z, rfl, hR, hb⟩
  have I1 : Hid (InF w (w.heap.size + 1) a L lo w1) := I0.later hb
  clear I0 hb
  rcases hR with rfl | ⟨hz, hzl, h20⟩
  · go_wp2_with fail
    go_ret
    exact ⟨rfl, I1.out.bel⟩
  have H20 : Hid (L.length ≤ 1048576) := h20
  have c1 := I1.out.cells
  clear h20
  go_wp2_with fail
  refine (sz_val lo.k lo.n lo.s z _ hlo hz hzl).mono ?_
  rintro e w2 ⟨z2, rfl, hR, hb⟩
  have I2 : Hid (InF w (w.heap.size + 1) a L lo w2) := I1.out.later hb
  clear I1 hb c1
  rcases hR with rfl | ⟨hz2, hzl2, -⟩
  · go_wp2_with fail
    go_ret
    exact ⟨rfl, I2.out.bel⟩
  have J3 := I2.out.c
  have h20 : L.length ≤ 1048576 := H20.out
  clear I2
  go_wp2_with fail
  go_region_held3 (fun W => InFC w (w.heap.size + 1) a L lo W) (first | assumption | exact inf_drew (by assumption))
    (first
      | (go_at_call 11; have hS := ‹InFC w (w.heap.size + 1) a L lo _›; refine (to_entries _ _ _ _ hS.1.ents h20).mono ?_; rintro e wA' ⟨rfl, hN⟩; have hC := inf_later hS hN.1; have hRA := hN.ents; clear hN hS)
      | (go_at_call 26; have hS := ‹InFC w (w.heap.size + 1) a L lo _›; refine (to_val _ _ _ _).mono ?_; rintro e wB' ⟨rfl, hq⟩; have hC2 := inf_later hS hq; have hRA2 := hRA.keep hq; clear hq hS hRA)
      | (go_at_call 31; have hS := ‹InFC w (w.heap.size + 1) a L lo _›; refine (hspec _ _ h20 hRA2).mono ?_; rintro e wZ ⟨aZ, cZ, rfl, hEZ, hq⟩; have hC4 := inf_later hS hq; clear hq hS hRA2))
  obtain ⟨p, hp⟩ : ∃ p, p = wZ.heap.size := ⟨_, rfl⟩
  obtain ⟨aw, haw⟩ : ∃ aw, aw = aZ := ⟨_, rfl⟩
  have S3 : Hid (SpF w p a L lo aw N wZ) := by rw [hp, haw]; exact ⟨hC4.1.up, FarI.of hEZ⟩
  rw [← haw]
  rename_i hHeld
  clear hHeld hC hC2 hC4 hEZ J3 haw
  go_wp2_with fail
  refine (to_entries _ _ _ _ S3.out.inv.ents h20).mono ?_
  rintro e w4 ⟨rfl, hM⟩
  rw [← hp] at hM ⊢
  have S4 := S3.out.next hM.1
  have X4 : XF w p a L lo aw N w4 := ⟨⟨S4, hM.2.1, hM.ents, hM.2.2.1⟩, S4.inv.cells⟩
  clear hM S4 S3 hp
  have x4 := X4.2
  go_wp2_with fail
  refine (to_val _ _ _ _).mono ?_
  rintro e w5 ⟨rfl, hb⟩
  have X5 := xf_later X4 hb
  clear hb
  go_wp2_with fail
  refine (himpl _ _ h20 X5.1.2.2.1).mono ?_
  rintro e w6 ⟨ag, cg, rfl, hRG, hb⟩
  have hD4 := xf_later X5 hb
  have hRG2 : OwnI (p + 1) (.slice ag N.length cg) N w6 := hRG.mono X5.1.2.1
  clear hb hRG X5
  have X6 : Hid (XF w p a L lo aw N w6 ∧ OwnI (p + 1) (.slice ag N.length cg) N w6) := ⟨hD4, hRG2⟩
  clear hRG2 hD4 X4 x4
  have hNm : N.length ≤ maxLen := by unfold maxLen; omega
  go_wp2_with fail
  refine (eq_ints _ _ _ _ N _ X6.out.2.same X6.out.1.1.1.ints hNm).mono ?_
  rintro e w7 ⟨rfl, hb⟩
  have X7 : Hid (XF w p a L lo aw N w7 ∧ OwnI (p + 1) (.slice ag N.length cg) N w7) := ⟨xf_later X6.out.1 hb, X6.out.2.next hb⟩
  clear X6 hb
  go_wp2_with fail
  refine (to_entries _ _ _ _ X7.out.1.1.1.inv.ents h20).mono ?_
  rintro e w8 ⟨rfl, hM⟩
  have X8 : Hid (XF w p a L lo aw N w8 ∧ OwnI (p + 1) (.slice ag N.length cg) N w8) := ⟨xf_later X7.out.1 hM.1, X7.out.2.next hM.1⟩
  have hE8 := hM.ents
  clear X7 hM
  go_wp2_with fail
  refine (eq_entries _ _ _ _ L _ X8.out.1.1.2.2.1 hE8 hm).mono ?_
  rintro e w9 ⟨rfl, hb⟩
  have X9 : Hid (XF w p a L lo aw N w9 ∧ OwnI (p + 1) (.slice ag N.length cg) N w9) := ⟨xf_later X8.out.1 hb, X8.out.2.next hb⟩
  clear X8 hb hE8
  go_wp2_with fail
  refine (mark_entries (some ⟨p, 0, none⟩) p L.length L.length 1 _ (Or.inl rfl) X9.out.1.1.2.1 X9.out.1.1.2.2.2 (by omega) (by omega)).mono ?_
  rintro e wA ⟨rfl, hM⟩
  have XA : Hid (SpF w p a L lo aw N wA ∧ OwnI (p + 1) (.slice ag N.length cg) N wA ∧ p < wA.heap.size) :=
    ⟨X9.out.1.1.1.next (hM.1.below (Nat.le_refl _) X9.out.1.1.1.inv.le), X9.out.2.turn hM.1 (Nat.lt_succ_self _), hM.2.1⟩
  clear X9 hM
  have hk1 : ¬ ((1 + 4 * L.length : Nat) : Int) < 0 := by omega
  go_wp2_with fail
  refine (eq_ints _ _ _ _ N _ XA.out.2.1.same XA.out.1.ints hNm).mono ?_
  rintro e wB ⟨rfl, hb⟩
  have XB : Hid (SpF w p a L lo aw N wB ∧ OwnI (p + 1) (.slice ag N.length cg) N wB ∧ p < wB.heap.size) := ⟨XA.out.1.later hb, XA.out.2.1.next hb, Nat.lt_of_lt_of_le XA.out.2.2 hb.size⟩
  clear XA hb
  obtain ⟨gb, hgb, hgp, hgz, hgt⟩ := (XB.out.2.1.mono (Nat.le_succ p)).block XB.out.2.2 rfl
  go_wp2_with fail
  refine (mark_ints ag gb N.length cg 1 _ hgb hgz hgt (by omega)).mono ?_
  rintro e wD ⟨rfl, hM⟩
  have XD : Hid (YF w p a L lo aw N gb N.length wD) := by
    have h1 := XB.out.1.next (hM.1.below hgp XB.out.1.inv.le)
    exact ⟨⟨h1, hM.2.1, hM.2.2.2⟩, h1.inv.cells⟩
  clear XB hM hgz hgt
  go_wp2_with fail
  refine (held_ints ag gb N.length cg 1 _ hgb XD.out.1.2.1 XD.out.1.2.2 (by omega)).mono ?_
  rintro e wE ⟨rfl, hb⟩
  have XE' : YF w p a L lo aw N gb N.length wE := yf_later XD.out hb
  clear XD hb
  have hk2 : ¬ ((1 + N.length : Nat) : Int) < 0 := by omega
  go_wp2_with fail
  go_region_held3 (fun W => YF w p a L lo aw N gb N.length W) (first | assumption | exact yf_drew (by assumption))
    (first
      | (go_at_call 11; have hS := ‹YF w p a L lo aw N gb N.length _›; refine (to_entries _ _ _ _ hS.1.1.inv.ents h20).mono ?_; rintro e wA' ⟨rfl, hN⟩; have hC := yf_later hS hN.1; have hRA := hN.ents; clear hN hS)
      | (go_at_call 26; have hS := ‹YF w p a L lo aw N gb N.length _›; refine (to_val _ _ _ _).mono ?_; rintro e wB' ⟨rfl, hq⟩; have hC2 := yf_later hS hq; have hRA2 := hRA.keep hq; clear hq hS hRA)
      | (go_at_call 32; have hS := ‹YF w p a L lo aw N gb N.length _›; refine (himpl _ _ h20 hRA2).mono ?_; rintro e wF ⟨ah, ch, rfl, hRH, hq⟩; have hC4 := yf_later hS hq; have hEH := hRH.same; clear hq hS hRA2 hRH))
  have XF : Hid (YF w p a L lo aw N gb N.length wF) := hC4
  rename_i hHeld
  clear hHeld hC hC2 hC4 XE'
  go_wp2_with fail
  refine (eq_ints _ _ _ _ N _ hEH XF.out.1.1.ints hNm).mono ?_
  rintro e wH ⟨rfl, hb⟩
  have XH : Hid (YF w p a L lo aw N gb N.length wH) := yf_later XF.out hb
  clear XF hb hEH
  go_wp2_with fail
  refine (held_ints ag gb N.length cg 1 _ hgb XH.out.1.2.1 XH.out.1.2.2 (by omega)).mono ?_
  rintro e wI ⟨rfl, hb⟩
  have XI : Hid (YF w p a L lo aw N gb N.length wI) := yf_later XH.out hb
  clear XH hb
  go_wp2_with fail
  go_ret
  exact ⟨rfl, XI.out.1.1.inv.bel⟩

end Go.Proofs.Ytobblnlefhkanaa
