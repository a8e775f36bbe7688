/- The walk of laws.FnExactActOk, over the seat's translation. -/
import Derived.Test.YtacindondkcaiaaGreatAcT2
import Derived.Test.YtacindondkcaiaaGreatAcZ
import Derived.Test.YtacindondkcaiaaGreatAcE
import Derived.Test.YtacindondkcaiaaGreatAcI9
import Derived.Test.YtacindondkcaiaaGreatAcS5
namespace Go.Proofs.YtacindondkcaiaaGreat
open Go.RowKit

/-- What is done lies in its box and anew in the box at p, in W; W lies over w. -/
def LawS (w : World) (x : AAct) (a0 : Option Addr) (c0 : Nat) (a1 : Option Addr) (c1 p d0 d1 : Nat) (W : World) : Prop :=
  DeedIn w x a0 c0 a1 c1 W ∧ W.rangeAt p 0 [.int .i64 x.kd, .string x.nm, .int .i64 x.id, .slice (some ⟨d0, 0, none⟩) x.sets.length x.sets.length, .slice (some ⟨d1, 0, none⟩) x.cols.length x.cols.length, .int .i64 x.g.kd, .string x.g.nm, .string x.g.nw, .string x.g.c.nm, .int .i64 x.g.c.kd, .bool x.g.c.nd, .bool x.g.c.oc, .int .i64 x.g.c.k, .int .i64 x.g.c.n, .string x.g.c.s, .string x.l.fr, .string x.l.co, .string x.l.tt, .int .i64 x.l.hw] ∧ p < W.heap.size ∧ ActAt W (some ⟨d0, 0, none⟩) (some ⟨d1, 0, none⟩) x
theorem LawS.next {w : World} {x : AAct} {a0 a1 : Option Addr} {c0 c1 p d0 d1 : Nat} {W W' : World} (h : LawS w x a0 c0 a1 c1 p d0 d1 W) (hb : Below W.heap.size W W') : LawS w x a0 c0 a1 c1 p d0 d1 W' :=
  ⟨h.1.next hb, range_next h.2.1 h.2.2.1 hb, Nat.lt_of_lt_of_le h.2.2.1 hb.size, h.2.2.2.keep hb⟩
theorem DeedIn.lstart (x : AAct) (a0 a1 : Option Addr) (c0 c1 : Nat) (w : World) (h : ActAt w a0 a1 x) : DeedIn w x a0 c0 a1 c1 (w.alloc (.cells #[.int .i64 x.kd, .string x.nm, .int .i64 x.id, .slice a0 x.sets.length c0, .slice a1 x.cols.length c1, .int .i64 x.g.kd, .string x.g.nm, .string x.g.nw, .string x.g.c.nm, .int .i64 x.g.c.kd, .bool x.g.c.nd, .bool x.g.c.oc, .int .i64 x.g.c.k, .int .i64 x.g.c.n, .string x.g.c.s, .string x.l.fr, .string x.l.co, .string x.l.tt, .int .i64 x.l.hw] 33)) := ⟨BoxL.start _ _ _, h.keep ((Below.refl _ _).alloc (Nat.le_refl _) _)⟩

set_option maxRecDepth 100000 in
set_option maxHeartbeats 1000000 in
theorem law_act (x : AAct) (a0 a1 : Option Addr) (c0 c1 : Nat) (w : World) (hT : ActAt w a0 a1 x) (hf : x.fit) :
    Calls Tryz.prog 3 #[.agg #[.int .i64 x.kd, .string x.nm, .int .i64 x.id, .slice a0 x.sets.length c0, .slice a1 x.cols.length c1, .int .i64 x.g.kd, .string x.g.nm, .string x.g.nw, .string x.g.c.nm, .int .i64 x.g.c.kd, .bool x.g.c.nd, .bool x.g.c.oc, .int .i64 x.g.c.k, .int .i64 x.g.c.n, .string x.g.c.s, .string x.l.fr, .string x.l.co, .string x.l.tt, .int .i64 x.l.hw]] w fun e w' => e = .returned (.bool true) ∧ Below w.heap.size w w' := by
  have H0 : Hid (DeedIn w x a0 c0 a1 c1 (w.alloc (.cells #[.int .i64 x.kd, .string x.nm, .int .i64 x.id, .slice a0 x.sets.length c0, .slice a1 x.cols.length c1, .int .i64 x.g.kd, .string x.g.nm, .string x.g.nw, .string x.g.c.nm, .int .i64 x.g.c.kd, .bool x.g.c.nd, .bool x.g.c.oc, .int .i64 x.g.c.k, .int .i64 x.g.c.n, .string x.g.c.s, .string x.l.fr, .string x.l.co, .string x.l.tt, .int .i64 x.l.hw] 33))) := DeedIn.lstart x a0 a1 c0 c1 w hT
  have R0 : (w.alloc (.cells #[.int .i64 x.kd, .string x.nm, .int .i64 x.id, .slice a0 x.sets.length c0, .slice a1 x.cols.length c1, .int .i64 x.g.kd, .string x.g.nm, .string x.g.nw, .string x.g.c.nm, .int .i64 x.g.c.kd, .bool x.g.c.nd, .bool x.g.c.oc, .int .i64 x.g.c.k, .int .i64 x.g.c.n, .string x.g.c.s, .string x.l.fr, .string x.l.co, .string x.l.tt, .int .i64 x.l.hw] 33)).rangeAt w.heap.size 0 [.int .i64 x.kd, .string x.nm, .int .i64 x.id, .slice a0 x.sets.length c0, .slice a1 x.cols.length c1, .int .i64 x.g.kd, .string x.g.nm, .string x.g.nw, .string x.g.c.nm, .int .i64 x.g.c.kd, .bool x.g.c.nd, .bool x.g.c.oc, .int .i64 x.g.c.k, .int .i64 x.g.c.n, .string x.g.c.s, .string x.l.fr, .string x.l.co, .string x.l.tt, .int .i64 x.l.hw] := H0.out.1.1
  have HF : Hid x.fit := hf
  clear hT hf
  go_enter Tryz.func3, Tryz.ntmps3
  go_wp2_with (refine ld_lact rfl _ rfl _ rfl _ R0 rfl ?_)
  refine (sz_act x a0 a1 c0 c1 _ _ H0.out.2 HF.out (by omega) (by omega)).mono ?_
  rintro e w1 ⟨z, rfl, hR, hb⟩
  have H1 : Hid (DeedIn w x a0 c0 a1 c1 w1) := H0.out.next hb
  have R1 : w1.rangeAt w.heap.size 0 [.int .i64 x.kd, .string x.nm, .int .i64 x.id, .slice a0 x.sets.length c0, .slice a1 x.cols.length c1, .int .i64 x.g.kd, .string x.g.nm, .string x.g.nw, .string x.g.c.nm, .int .i64 x.g.c.kd, .bool x.g.c.nd, .bool x.g.c.oc, .int .i64 x.g.c.k, .int .i64 x.g.c.n, .string x.g.c.s, .string x.l.fr, .string x.l.co, .string x.l.tt, .int .i64 x.l.hw] := H1.out.1.1
  clear H0 R0 hb
  rcases hR with rfl | ⟨hz, hzl, hn⟩
  · go_wp2_with fail
    go_ret
    exact ⟨rfl, H1.out.1.2.2⟩
  have HN : Hid x.near := hn
  clear hn
  go_wp2_with (refine ld_lact rfl _ rfl _ rfl _ R1 rfl ?_)
  refine (to_act x a0 a1 c0 c1 _ H1.out.2 HN.out).mono ?_
  rintro e w2 ⟨b0, b1, rfl, hM⟩
  have H2 : Hid (DeedIn w x a0 c0 a1 c1 w2 ∧ ActAt w2 (some ⟨b0, 0, none⟩) (some ⟨b1, 0, none⟩) x) := ⟨H1.out.next hM.2.2, hM.act⟩
  clear H1 R1 hM hzl hz
  go_wp2_with fail
  refine (spec_act x (some ⟨b0, 0, none⟩) (some ⟨b1, 0, none⟩) x.sets.length x.cols.length _ H2.out.2 HF.out).mono ?_
  rintro e w3 ⟨rfl, hb⟩
  have H3 : Hid (DeedIn w x a0 c0 a1 c1 w3) := H2.out.1.next hb
  have R3 : w3.rangeAt w.heap.size 0 [.int .i64 x.kd, .string x.nm, .int .i64 x.id, .slice a0 x.sets.length c0, .slice a1 x.cols.length c1, .int .i64 x.g.kd, .string x.g.nm, .string x.g.nw, .string x.g.c.nm, .int .i64 x.g.c.kd, .bool x.g.c.nd, .bool x.g.c.oc, .int .i64 x.g.c.k, .int .i64 x.g.c.n, .string x.g.c.s, .string x.l.fr, .string x.l.co, .string x.l.tt, .int .i64 x.l.hw] := H3.out.1.1
  clear H2 hb
  go_wp2_with (refine ld_lact rfl _ rfl _ rfl _ R3 rfl ?_)
  refine (to_act x a0 a1 c0 c1 _ H3.out.2 HN.out).mono ?_
  rintro e w4 ⟨d0, d1, rfl, hM⟩
  have H4 : Hid (DeedIn w x a0 c0 a1 c1 w4 ∧ ActAt w4 (some ⟨d0, 0, none⟩) (some ⟨d1, 0, none⟩) x) := ⟨H3.out.next hM.2.2, hM.act⟩
  have hT : (w4.alloc (.cells #[.int .i64 0, .string ⟨#[]⟩, .int .i64 0, .slice none 0 0, .slice none 0 0, .int .i64 0, .string ⟨#[]⟩, .string ⟨#[]⟩, .string ⟨#[]⟩, .int .i64 0, .bool false, .bool false, .int .i64 0, .int .i64 0, .string ⟨#[]⟩, .string ⟨#[]⟩, .string ⟨#[]⟩, .string ⟨#[]⟩, .int .i64 0] 45)).there w4.heap.size 0 19 := there_box w4 [.int .i64 0, .string ⟨#[]⟩, .int .i64 0, .slice none 0 0, .slice none 0 0, .int .i64 0, .string ⟨#[]⟩, .string ⟨#[]⟩, .string ⟨#[]⟩, .int .i64 0, .bool false, .bool false, .int .i64 0, .int .i64 0, .string ⟨#[]⟩, .string ⟨#[]⟩, .string ⟨#[]⟩, .string ⟨#[]⟩, .int .i64 0] 45 19 rfl
  have B5 : Hid (Below w4.heap.size w4 ((w4.alloc (.cells #[.int .i64 0, .string ⟨#[]⟩, .int .i64 0, .slice none 0 0, .slice none 0 0, .int .i64 0, .string ⟨#[]⟩, .string ⟨#[]⟩, .string ⟨#[]⟩, .int .i64 0, .bool false, .bool false, .int .i64 0, .int .i64 0, .string ⟨#[]⟩, .string ⟨#[]⟩, .string ⟨#[]⟩, .string ⟨#[]⟩, .int .i64 0] 45)).setCells w4.heap.size 0 [.int .i64 x.kd, .string x.nm, .int .i64 x.id, .slice (some ⟨d0, 0, none⟩) x.sets.length x.sets.length, .slice (some ⟨d1, 0, none⟩) x.cols.length x.cols.length, .int .i64 x.g.kd, .string x.g.nm, .string x.g.nw, .string x.g.c.nm, .int .i64 x.g.c.kd, .bool x.g.c.nd, .bool x.g.c.oc, .int .i64 x.g.c.k, .int .i64 x.g.c.n, .string x.g.c.s, .string x.l.fr, .string x.l.co, .string x.l.tt, .int .i64 x.l.hw])) := below_put ((Below.refl _ _).alloc (Nat.le_refl _) _) (Nat.le_refl _) _ _
  have H5 : Hid (LawS w x a0 c0 a1 c1 w4.heap.size d0 d1 ((w4.alloc (.cells #[.int .i64 0, .string ⟨#[]⟩, .int .i64 0, .slice none 0 0, .slice none 0 0, .int .i64 0, .string ⟨#[]⟩, .string ⟨#[]⟩, .string ⟨#[]⟩, .int .i64 0, .bool false, .bool false, .int .i64 0, .int .i64 0, .string ⟨#[]⟩, .string ⟨#[]⟩, .string ⟨#[]⟩, .string ⟨#[]⟩, .int .i64 0] 45)).setCells w4.heap.size 0 [.int .i64 x.kd, .string x.nm, .int .i64 x.id, .slice (some ⟨d0, 0, none⟩) x.sets.length x.sets.length, .slice (some ⟨d1, 0, none⟩) x.cols.length x.cols.length, .int .i64 x.g.kd, .string x.g.nm, .string x.g.nw, .string x.g.c.nm, .int .i64 x.g.c.kd, .bool x.g.c.nd, .bool x.g.c.oc, .int .i64 x.g.c.k, .int .i64 x.g.c.n, .string x.g.c.s, .string x.l.fr, .string x.l.co, .string x.l.tt, .int .i64 x.l.hw])) := (⟨H4.out.1.next B5.out, World.rangeAt_setCells_same _ _ _ _ hT, by rw [size_sets]; simp, H4.out.2.keep B5.out⟩ : _ ∧ _ ∧ _ ∧ _)
  clear H3 R3 hM H4 B5
  go_wp2_with (first
    | (refine st_act rfl _ _ rfl _ rfl [.int .i64 x.kd, .string x.nm, .int .i64 x.id, .slice (some ⟨d0, 0, none⟩) x.sets.length x.sets.length, .slice (some ⟨d1, 0, none⟩) x.cols.length x.cols.length, .int .i64 x.g.kd, .string x.g.nm, .string x.g.nw, .string x.g.c.nm, .int .i64 x.g.c.kd, .bool x.g.c.nd, .bool x.g.c.oc, .int .i64 x.g.c.k, .int .i64 x.g.c.n, .string x.g.c.s, .string x.l.fr, .string x.l.co, .string x.l.tt, .int .i64 x.l.hw] rfl rfl hT (by simp [Value.oneCell']) ?_; clear hT; generalize ((w4.alloc (.cells #[.int .i64 0, .string ⟨#[]⟩, .int .i64 0, .slice none 0 0, .slice none 0 0, .int .i64 0, .string ⟨#[]⟩, .string ⟨#[]⟩, .string ⟨#[]⟩, .int .i64 0, .bool false, .bool false, .int .i64 0, .int .i64 0, .string ⟨#[]⟩, .string ⟨#[]⟩, .string ⟨#[]⟩, .string ⟨#[]⟩, .int .i64 0] 45)).setCells w4.heap.size 0 [.int .i64 x.kd, .string x.nm, .int .i64 x.id, .slice (some ⟨d0, 0, none⟩) x.sets.length x.sets.length, .slice (some ⟨d1, 0, none⟩) x.cols.length x.cols.length, .int .i64 x.g.kd, .string x.g.nm, .string x.g.nw, .string x.g.c.nm, .int .i64 x.g.c.kd, .bool x.g.c.nd, .bool x.g.c.oc, .int .i64 x.g.c.k, .int .i64 x.g.c.n, .string x.g.c.s, .string x.l.fr, .string x.l.co, .string x.l.tt, .int .i64 x.l.hw]) = W5 at *; have R5 := H5.out.2.1)
    | (refine ld_act rfl _ rfl _ rfl _ R5 rfl ?_))
  generalize w4.heap.size = p at *
  have hI := impl_act x (some ⟨d0, 0, none⟩) (some ⟨d1, 0, none⟩) x.sets.length x.cols.length W5 H5.out.2.2.2 HF.out
  rw [impl_spec] at hI
  refine hI.mono ?_
  rintro e w6 ⟨rfl, hb⟩
  have H6 : Hid (LawS w x a0 c0 a1 c1 p d0 d1 w6) := H5.out.next hb
  clear hI H5 R5 hb
  go_wp2_with fail
  refine wp_region_held_drew (S := LawS w x a0 c0 a1 c1 p d0 d1) (by kernel_rfl) (H6.out.next (Below.refl _ _).drew) (fun h7 => ?_)
  clear H6
  refine wpAnyH_take (i := 0) rfl (by kernel_rfl) (by kernel_rfl) (by kernel_rfl) (fun _ _ _ h => h) (yieldsIf_load_mid (by rfl) _ _ rfl p 0 rfl _ _ (fun _ h => h.2.1) Tryz.underlying45 rfl act_size) h7 ?_
  try simp only [Act.put, List.setIfInBounds_toArray]
  refine wpAnyH_take (i := 1) rfl (by kernel_rfl) (by kernel_rfl) (by kernel_rfl) (fun _ _ _ h => h) (yieldsIf_load_mid (by rfl) _ _ rfl w.heap.size 0 rfl _ _ (fun _ h => h.1.1.1) Tryz.underlying33 rfl lact_size) h7 ?_
  try simp only [Act.put]
  have H7 : Hid (LawS w x a0 c0 a1 c1 p d0 d1 w6.drew) := h7
  clear h7
  refine wpAnyH_ready (rs := [2]) (by kernel_rfl) (by simp) ?_
  refine AllReadyH.cons rfl (fun K hK => ?_) AllReadyH.nil
  go_simp
  refine (to_act x a0 a1 c0 c1 _ H7.out.1.2 HN.out).mono ?_
  rintro e w8 ⟨z0, z1, rfl, hM⟩
  have HM : Hid (ActAt w8 (some ⟨z0, 0, none⟩) (some ⟨z1, 0, none⟩) x) := hM.act
  refine hK.out _ _ (H7.out.next hM.2.2) (fun h8 => ?_)
  have H8 : Hid (LawS w x a0 c0 a1 c1 p d0 d1 w8) := h8
  clear hK K H7 hM h8
  try simp only [Act.put, List.setIfInBounds_toArray, List.set_cons_zero, List.set_cons_succ]
  refine wpAnyH_ready (rs := [3]) (by kernel_rfl) (by simp) ?_
  refine AllReadyH.cons rfl (fun K hK => ?_) AllReadyH.nil
  go_simp
  refine (eq_act x _ _ _ _ _ _ _ _ _ H8.out.2.2.2 HM.out HF.out).mono ?_
  rintro e w9 ⟨rfl, hq⟩
  refine hK.out _ _ (H8.out.next hq) (fun h9 => ?_)
  have H9 : Hid (LawS w x a0 c0 a1 c1 p d0 d1 w9) := h9
  clear hK K H8 hq h9 HM
  try simp only [Act.put, List.setIfInBounds_toArray, List.set_cons_zero, List.set_cons_succ]
  refine wpAnyH_ready (rs := [4]) (by kernel_rfl) (by simp) ?_
  refine AllReadyH.cons rfl (fun K hK => ?_) AllReadyH.nil
  go_simp
  refine hK.out _ _ H9.out (fun _ => ?_)
  clear hK K
  try simp only [Act.put, List.setIfInBounds_toArray, List.set_cons_zero, List.set_cons_succ]
  refine wpAnyH_done (by kernel_rfl) ?_ _
  go_wp2_with fail
  go_ret
  exact ⟨rfl, H9.out.1.1.2.2⟩

end Go.Proofs.YtacindondkcaiaaGreat
