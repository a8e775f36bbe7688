/- The walk of laws.FnExactIndexOff, over the seat's translation. -/
import Derived.Test.YtobblnlefhkanaaIxE
import Derived.Test.YtobblnlefhkanaaIxK1
import Derived.Test.YtobblnlefhkanaaIxC
import Derived.Test.YtobblnlefhkanaaIxW
import Derived.Test.YtobblnlefhkanaaIxD4
import Derived.Test.YtobblnlefhkanaaIxZ
namespace Go.Proofs.Ytobblnlefhkanaa
open Go.RowKit

theorem off_len (L : List AEnt) (x : AEnt) : (if indexOk L then offE L x else []).length ≤ 17 := by
  rw [← off_okE]
  have h := okE_len L
  unfold offE
  split
  · simp; omega
  · omega

set_option maxRecDepth 100000 in
set_option maxHeartbeats 4000000 in
theorem law_off (a : Option Addr) (cap : Nat) (L : List AEnt) (x : AEnt) (w : World) (hL : EntsAt w a L) (hf : ∀ c ∈ L, c.fit) (hm : L.length ≤ maxLen) (hx : x.fit) :
    Calls Try.prog 5 #[.slice a L.length cap, .agg #[.int .i64 x.k, .int .i64 x.n, .string x.s, .int .i64 x.id]] w fun e w' => e = .returned (.bool true) ∧ Below w.heap.size w w' := by
  have I0 := InE.start x hL 32
  obtain ⟨N, hN⟩ : ∃ N, N = if indexOk L then offE L x else [] := ⟨_, rfl⟩
  obtain ⟨T, hT⟩ : ∃ T, T = (indexOk L && thereE L x) := ⟨_, rfl⟩
  have hspec : ∀ (g : Nat) (w : World), L.length ≤ 1048576 → EntsAt w (some ⟨g, 0, none⟩) L → Calls Try.prog 17 #[.slice (some ⟨g, 0, none⟩) L.length L.length, .agg #[.int .i64 x.k, .int .i64 x.n, .string x.s, .int .i64 x.id]] w
      fun e w' => ∃ aw cw, e = .returned (.tuple #[.slice aw N.length cw, .bool T]) ∧ EntsAt w' aw N ∧ Below w.heap.size w w' := fun g w h20 hE => by
    rw [hT, hN]
    exact (spec_off _ _ L x w hE (fun h => by cases h) (Nat.le_refl _) hf h20).mono fun e w' ⟨v, he, hv, hb⟩ => by
      obtain ⟨a, c, h1, h2⟩ := row_any hv.row
      exact ⟨a, c, by rw [he, h1], h2, hb⟩
  have himpl : ∀ (g : Nat) (w : World), L.length ≤ 1048576 → EntsAt w (some ⟨g, 0, none⟩) L → Calls Try.prog 19 #[.slice (some ⟨g, 0, none⟩) L.length L.length, .agg #[.int .i64 x.k, .int .i64 x.n, .string x.s, .int .i64 x.id]] w
      fun e w' => ∃ ag cg, e = .returned (.tuple #[.slice ag N.length cg, .bool T]) ∧ RowE w.heap.size (.slice ag N.length cg) N w' ∧ Below w.heap.size w w' := fun g w h20 hE => by
    rw [hT, hN]
    exact (impl_off _ _ L x w hE (fun h => by cases h) hf h20).mono fun e w' ⟨v, he, hv, hb⟩ => by
      obtain ⟨a, c, h1, h2⟩ := row_any hv
      exact ⟨a, c, by rw [he, h1], by rw [← h1]; exact hv, hb⟩
  have hNl : N.length ≤ 17 := by rw [hN]; exact off_len L x
  clear hN hT
  clear hL
  go_enter Try.func5, Try.ntmps5
  go_wp2_with fail
  refine (sz_entries _ _ _ _ _ I0.ents hf hm (by omega) (by omega)).mono ?_
  rintro e w1 ⟨z, rfl, hR, hb⟩
  have I1 : Hid (InE w (w.heap.size + 1) a L x w1) := I0.later hb
  clear I0 hb
  rcases hR with rfl | ⟨hz, hzl, h20⟩
  · go_wp2_with fail
    go_ret
    exact ⟨rfl, I1.out.bel⟩
  have H20 : Hid (L.length ≤ 1048576) := h20
  have c1 := I1.out.cells
  clear h20
  go_wp2_with fail
  refine (sz_entry x z _ hx hz hzl).mono ?_
  rintro e w2 ⟨z2, rfl, hR, hb⟩
  have I2 : Hid (InE w (w.heap.size + 1) a L x w2) := I1.out.later hb
  clear I1 hb c1
  rcases hR with rfl | ⟨hz2, hzl2, -⟩
  · go_wp2_with fail
    go_ret
    exact ⟨rfl, I2.out.bel⟩
  have J2 := I2.out.c
  have h20 : L.length ≤ 1048576 := H20.out
  clear I2
  go_wp2_with fail
  go_region_held3 (fun W => InC w (w.heap.size + 1) a L x W) (first | assumption | exact inc_drew (by assumption))
    (first
      | (go_at_call 11; have hS := ‹InC w (w.heap.size + 1) a L x _›; refine (to_entries _ _ _ _ hS.1.ents h20).mono ?_; rintro e wA ⟨rfl, hN⟩; have hC := inc_later hS hN.1; have hRA := hN.ents; clear hN hS)
      | (go_at_call 18; have hS := ‹InC w (w.heap.size + 1) a L x _›; refine (to_entry _ _ _ _ _).mono ?_; rintro e wB ⟨rfl, hq⟩; have hC2 := inc_later hS hq; have hRA2 := hRA.keep hq; clear hq hS hRA)
      | (go_at_call 17; have hS := ‹InC w (w.heap.size + 1) a L x _›; refine (hspec _ _ h20 hRA2).mono ?_; rintro e wC ⟨aw, cw, rfl, hEW, hq⟩; have hC3 := inc_later hS hq; clear hq hS hRA2))
  obtain ⟨p, hp⟩ : ∃ p, p = wC.heap.size := ⟨_, rfl⟩
  have S3 : Hid (SpE w p a L x aw N wC) := by rw [hp]; exact ⟨hC3.1.up, FarE.of hEW⟩
  rename_i hHeld
  clear hHeld hC hC2 hC3 hEW J2
  go_wp2_with fail
  refine (to_entries _ _ _ _ S3.out.ine.ents h20).mono ?_
  rintro e w4 ⟨rfl, hM⟩
  rw [← hp] at hM ⊢
  have S4 := S3.out.next hM.1
  have X4 : XE w p a L x aw N w4 := ⟨⟨S4, hM.2.1, hM.ents, hM.2.2.1⟩, S4.ine.cells⟩
  clear hM S4 S3 hp
  have x4 := X4.2
  go_wp2_with fail
  refine (to_entry _ _ _ _ _).mono ?_
  rintro e w5 ⟨rfl, hb⟩
  have X5 : Hid (XE w p a L x aw N w5) := xe_later X4 hb
  clear X4 x4 hb
  go_wp2_with fail
  refine (himpl _ _ h20 X5.out.1.2.2.1).mono ?_
  rintro e w6 ⟨ag, cg, rfl, hRG, hb⟩
  have X6 : Hid (XE w p a L x aw N w6 ∧ RowE (p + 1) (.slice ag N.length cg) N w6) := ⟨xe_later X5.out hb, hRG.mono X5.out.1.2.1⟩
  clear X5 hRG hb
  have hNm : N.length ≤ maxLen := by unfold maxLen; omega
  have hag : ∀ {W : World}, RowE (p + 1) (.slice ag N.length cg) N W → EntsAt W ag N := fun {W} h => by
    exact h.same
  go_wp2_with fail
  refine (eq_entries _ _ _ _ N _ (hag X6.out.2) X6.out.1.1.1.ents hNm).mono ?_
  rintro e w7 ⟨rfl, hb⟩
  have X7 : Hid (XE w p a L x aw N w7 ∧ RowE (p + 1) (.slice ag N.length cg) N w7) := ⟨xe_later X6.out.1 hb, X6.out.2.next hb⟩
  clear X6 hb
  go_wp2_with fail
  refine (to_entries _ _ _ _ X7.out.1.1.1.ine.ents h20).mono ?_
  rintro e w8 ⟨rfl, hM⟩
  have X8 : Hid (XE w p a L x aw N w8 ∧ RowE (p + 1) (.slice ag N.length cg) N w8) := ⟨xe_later X7.out.1 hM.1, X7.out.2.next hM.1⟩
  have hE8 := hM.ents
  clear X7 hM
  go_wp2_with fail
  refine (eq_entries _ _ _ _ L _ X8.out.1.1.2.2.1 hE8 hm).mono ?_
  rintro e w9 ⟨rfl, hb⟩
  have X9 : Hid (XE w p a L x aw N w9 ∧ RowE (p + 1) (.slice ag N.length cg) N w9) := ⟨xe_later X8.out.1 hb, X8.out.2.next hb⟩
  clear X8 hb hE8
  go_wp2_with fail
  refine (mark_entries (some ⟨p, 0, none⟩) p L.length L.length 1 _ (Or.inl rfl) X9.out.1.1.2.1 X9.out.1.1.2.2.2 (by omega) (by omega)).mono ?_
  rintro e wA ⟨rfl, hM⟩
  have XA : Hid (SpE w p a L x aw N wA ∧ RowE (p + 1) (.slice ag N.length cg) N wA ∧ p < wA.heap.size) :=
    ⟨X9.out.1.1.1.next (hM.1.below (Nat.le_refl _) X9.out.1.1.1.ine.le), X9.out.2.turn hM.1 (Nat.lt_succ_self _), hM.2.1⟩
  clear X9 hM
  have hk1 : ¬ ((1 + 4 * L.length : Nat) : Int) < 0 := by omega
  go_wp2_with fail
  refine (eq_entries _ _ _ _ N _ (hag XA.out.2.1) XA.out.1.ents hNm).mono ?_
  rintro e wB ⟨rfl, hb⟩
  have XB : Hid (SpE w p a L x aw N wB ∧ RowE (p + 1) (.slice ag N.length cg) N wB ∧ p < wB.heap.size) := ⟨XA.out.1.later hb, XA.out.2.1.next hb, Nat.lt_of_lt_of_le XA.out.2.2 hb.size⟩
  clear XA hb hag
  obtain ⟨gb, hgb, hgp, hgz, hgt⟩ := (XB.out.2.1.mono (Nat.le_succ p)).block XB.out.2.2 rfl
  go_wp2_with fail
  refine (mark_entries ag gb N.length cg 1 _ hgb hgz hgt (by omega) (by omega)).mono ?_
  rintro e wD ⟨rfl, hM⟩
  have XD : Hid (YE w p a L x aw N gb N.length wD) := by
    have h1 := XB.out.1.next (hM.1.below hgp XB.out.1.ine.le)
    exact ⟨⟨h1, hM.2.1, hM.2.2.2⟩, h1.ine.cells⟩
  clear XB hM hgz hgt
  go_wp2_with fail
  refine (held_entries ag gb N.length cg 1 _ hgb XD.out.1.2.1 XD.out.1.2.2 (by omega) (by omega)).mono ?_
  rintro e wE ⟨rfl, hb⟩
  have XE' : YE w p a L x aw N gb N.length wE := ye_later XD.out hb
  clear XD hb
  have hk2 : ¬ ((1 + 4 * N.length : Nat) : Int) < 0 := by omega
  go_wp2_with fail
  go_region_held3 (fun W => YE w p a L x aw N gb N.length W) (first | assumption | exact ye_drew (by assumption))
    (first
      | (go_at_call 11; have hS := ‹YE w p a L x aw N gb N.length _›; refine (to_entries _ _ _ _ hS.1.1.ine.ents h20).mono ?_; rintro e wA' ⟨rfl, hN⟩; have hC := ye_later hS hN.1; have hRA := hN.ents; clear hN hS)
      | (go_at_call 18; have hS := ‹YE w p a L x aw N gb N.length _›; refine (to_entry _ _ _ _ _).mono ?_; rintro e wB' ⟨rfl, hq⟩; have hC2 := ye_later hS hq; have hRA2 := hRA.keep hq; clear hq hS hRA)
      | (go_at_call 19; have hS := ‹YE w p a L x aw N gb N.length _›; refine (himpl _ _ h20 hRA2).mono ?_; rintro e wF ⟨ah, ch, rfl, hRH, hq⟩; have hC3 := ye_later hS hq; have hEH := hRH.same; clear hq hS hRA2 hRH))
  rename_i hHeld
  have XF : Hid (YE w p a L x aw N gb N.length wF) := hC3
  clear hHeld hC hC2 hC3 XE'
  go_wp2_with fail
  refine (eq_entries _ _ _ _ N _ hEH XF.out.1.1.ents hNm).mono ?_
  rintro e wH ⟨rfl, hb⟩
  have XH : Hid (YE w p a L x aw N gb N.length wH) := ye_later XF.out hb
  clear XF hb hEH
  go_wp2_with fail
  refine (held_entries ag gb N.length cg 1 _ hgb XH.out.1.2.1 XH.out.1.2.2 (by omega) (by omega)).mono ?_
  rintro e wI ⟨rfl, hb⟩
  have XI : Hid (YE w p a L x aw N gb N.length wI) := ye_later XH.out hb
  clear XH hb
  go_wp2_with fail
  go_ret
  exact ⟨rfl, XI.out.1.1.ine.bel⟩

end Go.Proofs.Ytobblnlefhkanaa
