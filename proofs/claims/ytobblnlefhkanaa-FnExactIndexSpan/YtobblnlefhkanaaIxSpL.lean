/- The walk of laws.FnExactIndexSpan, over the seat's translation. -/
import Derived.Test.YtobblnlefhkanaaIxE
import Derived.Test.YtobblnlefhkanaaIxSpV
import Derived.Test.YtobblnlefhkanaaIxU2
import Derived.Test.YtobblnlefhkanaaIxZ
namespace Go.Proofs.Ytobblnlefhkanaa
open Go.RowKit

set_option maxRecDepth 100000 in
set_option maxHeartbeats 4000000 in
theorem law_span (a : Option Addr) (cap : Nat) (L : List AEnt) (lo hi : AEnt) (w : World) (hL : EntsAt w a L) (hf : ∀ c ∈ L, c.fit) (hm : L.length ≤ maxLen) (hlo : lo.fit) (hhi : hi.fit) :
    Calls Try.prog 7 #[.slice a L.length cap, .agg #[.int .i64 lo.k, .int .i64 lo.n, .string lo.s], .agg #[.int .i64 hi.k, .int .i64 hi.n, .string hi.s]] w fun e w' => e = .returned (.bool true) ∧ Below w.heap.size w w' := by
  have I0 := InV.start lo hi hL 30
  obtain ⟨N, hN⟩ : ∃ N, N = spanL lo hi L := ⟨_, rfl⟩
  have hspec : ∀ (g : Nat) (w : World), L.length ≤ 1048576 → EntsAt w (some ⟨g, 0, none⟩) L → Calls Try.prog 25 #[.slice (some ⟨g, 0, none⟩) L.length L.length, .agg #[.int .i64 lo.k, .int .i64 lo.n, .string lo.s], .agg #[.int .i64 hi.k, .int .i64 hi.n, .string hi.s]] w
      fun e w' => ∃ aw cw, e = .returned (.slice aw N.length cw) ∧ IntsAt w' aw N ∧ Below w.heap.size w w' := fun g w h20 hE => by
    rw [hN]
    exact (spec_span _ _ L lo hi w hE hf h20).mono fun e w' ⟨v, he, hv, hb⟩ => by
      obtain ⟨a, c, h1, h2⟩ := hv.slice
      exact ⟨a, c, by rw [he, h1], h2, hb⟩
  have himpl : ∀ (g : Nat) (w : World), L.length ≤ 1048576 → EntsAt w (some ⟨g, 0, none⟩) L → Calls Try.prog 27 #[.slice (some ⟨g, 0, none⟩) L.length L.length, .agg #[.int .i64 lo.k, .int .i64 lo.n, .string lo.s], .agg #[.int .i64 hi.k, .int .i64 hi.n, .string hi.s]] w
      fun e w' => ∃ ag cg, e = .returned (.slice ag N.length cg) ∧ OwnI w.heap.size (.slice ag N.length cg) N w' ∧ Below w.heap.size w w' := fun g w h20 hE => by
    rw [hN]
    exact (impl_span _ _ L lo hi w hE (fun h => by cases h) hf h20).mono fun e w' ⟨v, he, hv, hb⟩ => by
      obtain ⟨a, c, h1, h2⟩ := hv.slice
      exact ⟨a, c, by rw [he, h1], by rw [← h1]; exact hv, hb⟩
  have hNl : N.length ≤ 16 := by
    rw [hN]
    unfold spanL
    cases hI : indexOk L
    · simp
    · have h1 := spanIn_len lo hi L
      simp only [indexOk, Bool.and_eq_true, decide_eq_true_eq] at hI
      rw [if_pos rfl]
      omega
  clear hN
  clear hL
  go_enter Try.func7, Try.ntmps7
  go_wp2_with fail
  refine (sz_entries _ _ _ _ _ I0.ents hf hm (by omega) (by omega)).mono ?_
  rintro e w1 ⟨z, rfl, hR, hb⟩
  have I1 : Hid (InV w (w.heap.size + 2) a L lo hi w1) := I0.later hb
  clear I0 hb
  rcases hR with rfl | ⟨hz, hzl, h20⟩
  · go_wp2_with fail
    go_ret
    exact ⟨rfl, I1.out.bel⟩
  have H20 : Hid (L.length ≤ 1048576) := h20
  have c1 := I1.out.cells
  clear h20
  go_wp2_with fail
  refine (sz_val lo.k lo.n lo.s z _ hlo hz hzl).mono ?_
  rintro e w2 ⟨z2, rfl, hR, hb⟩
  have I2 : Hid (InV w (w.heap.size + 2) a L lo hi w2) := I1.out.later hb
  clear I1 hb c1
  rcases hR with rfl | ⟨hz2, hzl2, -⟩
  · go_wp2_with fail
    go_ret
    exact ⟨rfl, I2.out.bel⟩
  have c2 := I2.out.cells
  go_wp2_with fail
  refine (sz_val hi.k hi.n hi.s z2 _ hhi hz2 (by omega)).mono ?_
  rintro e w3 ⟨z3, rfl, hR, hb⟩
  have I3 : Hid (InV w (w.heap.size + 2) a L lo hi w3) := I2.out.later hb
  clear I2 hb c2
  rcases hR with rfl | ⟨hz3, hzl3, -⟩
  · go_wp2_with fail
    go_ret
    exact ⟨rfl, I3.out.bel⟩
  have J3 := I3.out.c
  have h20 : L.length ≤ 1048576 := H20.out
  clear I3
  go_wp2_with fail
  go_region_held3 (fun W => InVC w (w.heap.size + 2) a L lo hi W) (first | assumption | exact inv_drew (by assumption))
    (first
      | (go_at_call 11; have hS := ‹InVC w (w.heap.size + 2) a L lo hi _›; refine (to_entries _ _ _ _ hS.1.ents h20).mono ?_; rintro e wA' ⟨rfl, hN⟩; have hC := inv_later hS hN.1; have hRA := hN.ents; clear hN hS)
      | (go_at_call 26; have hS := ‹InVC w (w.heap.size + 2) a L lo hi _›; refine (to_val _ _ _ _).mono ?_; rintro e wB' ⟨rfl, hq⟩; have hC2 := inv_later hS hq; have hRA2 := hRA.keep hq; clear hq hS hRA)
      | (go_at_call 26; have hS := ‹InVC w (w.heap.size + 2) a L lo hi _›; refine (to_val _ _ _ _).mono ?_; rintro e wC' ⟨rfl, hq⟩; have hC3 := inv_later hS hq; have hRA3 := hRA2.keep hq; clear hq hS hRA2)
      | (go_at_call 25; have hS := ‹InVC w (w.heap.size + 2) a L lo hi _›; refine (hspec _ _ h20 hRA3).mono ?_; rintro e wZ ⟨aZ, cZ, rfl, hEZ, hq⟩; have hC4 := inv_later hS hq; clear hq hS hRA3))
  obtain ⟨p, hp⟩ : ∃ p, p = wZ.heap.size := ⟨_, rfl⟩
  obtain ⟨aw, haw⟩ : ∃ aw, aw = aZ := ⟨_, rfl⟩
  have S3 : Hid (SpV w p a L lo hi aw N wZ) := by rw [hp, haw]; exact ⟨hC4.1.up, FarI.of hEZ⟩
  rw [← haw]
  rename_i hHeld
  clear hHeld hC hC2 hC3 hC4 hEZ J3 haw
  go_wp2_with fail
  refine (to_entries _ _ _ _ S3.out.inv.ents h20).mono ?_
  rintro e w4 ⟨rfl, hM⟩
  rw [← hp] at hM ⊢
  have S4 := S3.out.next hM.1
  have X4 : XV w p a L lo hi aw N w4 := ⟨⟨S4, hM.2.1, hM.ents, hM.2.2.1⟩, S4.inv.cells⟩
  clear hM S4 S3 hp
  have x4 := X4.2
  go_wp2_with fail
  go_region_held3 (fun W => XV w p a L lo hi aw N W) (first | assumption | exact xv_drew (by assumption))
    (first
      | (go_at_call 26; have hS := ‹XV w p a L lo hi aw N _›; refine (to_val _ _ _ _).mono ?_; rintro e wB ⟨rfl, hq⟩; have hD2 := xv_later hS hq; clear hq hS)
      | (go_at_call 27; have hS := ‹XV w p a L lo hi aw N _›; refine (himpl _ _ h20 hS.1.2.2.1).mono ?_; rintro e w6 ⟨ag, cg, rfl, hRG, hq⟩; have hD4 := xv_later hS hq; have hRG2 : OwnI (p + 1) _ _ _ := hRG.mono hS.1.2.1; clear hq hS hRG))
  have X6 : Hid (XV w p a L lo hi aw N w6 ∧ OwnI (p + 1) (.slice ag N.length cg) N w6) := ⟨hD4, hRG2⟩
  rename_i hHeld
  clear hHeld hRG2 hD4 X4 x4
  have hNm : N.length ≤ maxLen := by unfold maxLen; omega
  go_wp2_with fail
  refine (eq_ints _ _ _ _ N _ X6.out.2.same X6.out.1.1.1.ints hNm).mono ?_
  rintro e w7 ⟨rfl, hb⟩
  have X7 : Hid (XV w p a L lo hi aw N w7 ∧ OwnI (p + 1) (.slice ag N.length cg) N w7) := ⟨xv_later X6.out.1 hb, X6.out.2.next hb⟩
  clear X6 hb
  go_wp2_with fail
  refine (to_entries _ _ _ _ X7.out.1.1.1.inv.ents h20).mono ?_
  rintro e w8 ⟨rfl, hM⟩
  have X8 : Hid (XV w p a L lo hi aw N w8 ∧ OwnI (p + 1) (.slice ag N.length cg) N w8) := ⟨xv_later X7.out.1 hM.1, X7.out.2.next hM.1⟩
  have hE8 := hM.ents
  clear X7 hM
  go_wp2_with fail
  refine (eq_entries _ _ _ _ L _ X8.out.1.1.2.2.1 hE8 hm).mono ?_
  rintro e w9 ⟨rfl, hb⟩
  have X9 : Hid (XV w p a L lo hi aw N w9 ∧ OwnI (p + 1) (.slice ag N.length cg) N w9) := ⟨xv_later X8.out.1 hb, X8.out.2.next hb⟩
  clear X8 hb hE8
  go_wp2_with fail
  refine (mark_entries (some ⟨p, 0, none⟩) p L.length L.length 1 _ (Or.inl rfl) X9.out.1.1.2.1 X9.out.1.1.2.2.2 (by omega) (by omega)).mono ?_
  rintro e wA ⟨rfl, hM⟩
  have XA : Hid (SpV w p a L lo hi aw N wA ∧ OwnI (p + 1) (.slice ag N.length cg) N wA ∧ p < wA.heap.size) :=
    ⟨X9.out.1.1.1.next (hM.1.below (Nat.le_refl _) X9.out.1.1.1.inv.le), X9.out.2.turn hM.1 (Nat.lt_succ_self _), hM.2.1⟩
  clear X9 hM
  have hk1 : ¬ ((1 + 4 * L.length : Nat) : Int) < 0 := by omega
  go_wp2_with fail
  refine (eq_ints _ _ _ _ N _ XA.out.2.1.same XA.out.1.ints hNm).mono ?_
  rintro e wB ⟨rfl, hb⟩
  have XB : Hid (SpV w p a L lo hi aw N wB ∧ OwnI (p + 1) (.slice ag N.length cg) N wB ∧ p < wB.heap.size) := ⟨XA.out.1.later hb, XA.out.2.1.next hb, Nat.lt_of_lt_of_le XA.out.2.2 hb.size⟩
  clear XA hb
  obtain ⟨gb, hgb, hgp, hgz, hgt⟩ := (XB.out.2.1.mono (Nat.le_succ p)).block XB.out.2.2 rfl
  go_wp2_with fail
  refine (mark_ints ag gb N.length cg 1 _ hgb hgz hgt (by omega)).mono ?_
  rintro e wD ⟨rfl, hM⟩
  have XD : Hid (YV w p a L lo hi aw N gb N.length wD) := by
    have h1 := XB.out.1.next (hM.1.below hgp XB.out.1.inv.le)
    exact ⟨⟨h1, hM.2.1, hM.2.2.2⟩, h1.inv.cells⟩
  clear XB hM hgz hgt
  go_wp2_with fail
  refine (held_ints ag gb N.length cg 1 _ hgb XD.out.1.2.1 XD.out.1.2.2 (by omega)).mono ?_
  rintro e wE ⟨rfl, hb⟩
  have XE' : YV w p a L lo hi aw N gb N.length wE := yv_later XD.out hb
  clear XD hb
  have hk2 : ¬ ((1 + N.length : Nat) : Int) < 0 := by omega
  go_wp2_with fail
  go_region_held3 (fun W => YV w p a L lo hi aw N gb N.length W) (first | assumption | exact yv_drew (by assumption))
    (first
      | (go_at_call 11; have hS := ‹YV w p a L lo hi aw N gb N.length _›; refine (to_entries _ _ _ _ hS.1.1.inv.ents h20).mono ?_; rintro e wA' ⟨rfl, hN⟩; have hC := yv_later hS hN.1; have hRA := hN.ents; clear hN hS)
      | (go_at_call 26; have hS := ‹YV w p a L lo hi aw N gb N.length _›; refine (to_val _ _ _ _).mono ?_; rintro e wB' ⟨rfl, hq⟩; have hC2 := yv_later hS hq; have hRA2 := hRA.keep hq; clear hq hS hRA)
      | (go_at_call 26; have hS := ‹YV w p a L lo hi aw N gb N.length _›; refine (to_val _ _ _ _).mono ?_; rintro e wC' ⟨rfl, hq⟩; have hC3 := yv_later hS hq; have hRA3 := hRA2.keep hq; clear hq hS hRA2)
      | (go_at_call 27; have hS := ‹YV w p a L lo hi aw N gb N.length _›; refine (himpl _ _ h20 hRA3).mono ?_; rintro e wF ⟨ah, ch, rfl, hRH, hq⟩; have hC4 := yv_later hS hq; have hEH := hRH.same; clear hq hS hRA3 hRH))
  have XF : Hid (YV w p a L lo hi aw N gb N.length wF) := hC4
  rename_i hHeld
  clear hHeld hC hC2 hC3 hC4 XE'
  go_wp2_with fail
  refine (eq_ints _ _ _ _ N _ hEH XF.out.1.1.ints hNm).mono ?_
  rintro e wH ⟨rfl, hb⟩
  have XH : Hid (YV w p a L lo hi aw N gb N.length wH) := yv_later XF.out hb
  clear XF hb hEH
  go_wp2_with fail
  refine (held_ints ag gb N.length cg 1 _ hgb XH.out.1.2.1 XH.out.1.2.2 (by omega)).mono ?_
  rintro e wI ⟨rfl, hb⟩
  have XI : Hid (YV w p a L lo hi aw N gb N.length wI) := yv_later XH.out hb
  clear XH hb
  go_wp2_with fail
  go_ret
  exact ⟨rfl, XI.out.1.1.inv.bel⟩

end Go.Proofs.Ytobblnlefhkanaa
