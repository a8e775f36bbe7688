/- The walk of laws.FnExactActRead, over the seat's translation. -/
import Derived.Test.YtpcfebekkgfpjaaGreatDoorG07
import Derived.Test.YtpcfebekkgfpjaaGreatDoorArS20
import Derived.Test.YtpcfebekkgfpjaaGreatDoorArC4
import Derived.Test.YtpcfebekkgfpjaaGreatDoorAcE
namespace Go.Proofs.YtpcfebekkgfpjaaGreatDoor
open Go.RowKit

theorem deed_one (y : AAct) : (deedAct y).sets.length = 0 ∨ (deedAct y).cols.length = 0 := by
  unfold deedAct
  repeat' (first | exact Or.inl rfl | exact Or.inr rfl | split)
theorem one_is {x : AAct} {t : Bs} {b : Bool} (h : ActIs t x b) : OneL x := by
  rcases h with ⟨_, h1, h2, _⟩ | ⟨_, rfl, _⟩
  · have h3 := deed_few h1
    have h4 := deed_one x
    rw [h2] at h3 h4
    exact ⟨h3.1, h3.2, h4⟩
  · exact ⟨Nat.zero_le _, Nat.zero_le _, Or.inl rfl⟩
theorem far_mono {C D : Nat} {a : Option Addr} {n : Nat} (h : Far D a n) (hC : C ≤ D) : Far C a n := by
  rcases h with h | ⟨B, e, h⟩
  · exact Or.inl h
  · exact Or.inr ⟨B, e, Nat.le_trans hC h⟩
/-- What the specification read lies in its box at p, its lists behind it; the tables lie as they did; W lies over w. -/
structure GotS (m : Int) (w : World) (x : AAct) (a0 : Option Addr) (c0 : Nat) (a1 : Option Addr) (c1 p : Nat) (W : World) : Prop where
  bl : Below w.heap.size w W
  at0 : ActAt W a0 a1 x
  tb : Tb W
  mx : Mx m W
  lt : p < W.heap.size
  bx : W.rangeAt p 0 [.int .i64 x.kd, .string x.nm, .int .i64 x.id, .slice a0 x.sets.length c0, .slice a1 x.cols.length c1, .int .i64 x.g.kd, .string x.g.nm, .string x.g.nw, .string x.g.c.nm, .int .i64 x.g.c.kd, .bool x.g.c.nd, .bool x.g.c.oc, .int .i64 x.g.c.k, .int .i64 x.g.c.n, .string x.g.c.s, .string x.l.fr, .string x.l.co, .string x.l.tt, .int .i64 x.l.hw]
theorem GotS.next {m : Int} {w : World} {x : AAct} {a0 a1 : Option Addr} {c0 c1 p : Nat} {W W' : World} (h : GotS m w x a0 c0 a1 c1 p W) (hb : Below W.heap.size W W') : GotS m w x a0 c0 a1 c1 p W' :=
  ⟨h.bl.trans (hb.mono h.bl.size), h.at0.keep hb, tb_next h.tb hb, h.mx.next hb, Nat.lt_of_lt_of_le h.lt hb.size, range_next h.bx h.lt hb⟩
theorem GotS.start {m : Int} {w W : World} {x : AAct} {a0 a1 : Option Addr} {c0 c1 : Nat} (h1 : Below w.heap.size w W) (h2 : ActAt W a0 a1 x) (h3 : Tb W) (h4 : Mx m W) : GotS m w x a0 c0 a1 c1 W.heap.size ((W.alloc (.cells #[.int .i64 0, .string ⟨#[]⟩, .int .i64 0, .slice none 0 0, .slice none 0 0, .int .i64 0, .string ⟨#[]⟩, .string ⟨#[]⟩, .string ⟨#[]⟩, .int .i64 0, .bool false, .bool false, .int .i64 0, .int .i64 0, .string ⟨#[]⟩, .string ⟨#[]⟩, .string ⟨#[]⟩, .string ⟨#[]⟩, .int .i64 0] 34)).setCells W.heap.size 0 [.int .i64 x.kd, .string x.nm, .int .i64 x.id, .slice a0 x.sets.length c0, .slice a1 x.cols.length c1, .int .i64 x.g.kd, .string x.g.nm, .string x.g.nw, .string x.g.c.nm, .int .i64 x.g.c.kd, .bool x.g.c.nd, .bool x.g.c.oc, .int .i64 x.g.c.k, .int .i64 x.g.c.n, .string x.g.c.s, .string x.l.fr, .string x.l.co, .string x.l.tt, .int .i64 x.l.hw]) := by
  obtain ⟨hb, hr, hl⟩ := box_put W [.int .i64 x.kd, .string x.nm, .int .i64 x.id, .slice a0 x.sets.length c0, .slice a1 x.cols.length c1, .int .i64 x.g.kd, .string x.g.nm, .string x.g.nw, .string x.g.c.nm, .int .i64 x.g.c.kd, .bool x.g.c.nd, .bool x.g.c.oc, .int .i64 x.g.c.k, .int .i64 x.g.c.n, .string x.g.c.s, .string x.l.fr, .string x.l.co, .string x.l.tt, .int .i64 x.l.hw] rfl
  exact ⟨h1.trans (hb.mono h1.size), h2.keep hb, tb_next h3 hb, h4.next hb, hl, hr⟩

/-- What the program read lies in its box at p, its lists, which may be written, behind the first world. -/
structure GotR (W1 : World) (x : AAct) (g0 : Option Addr) (k0 : Nat) (g1 : Option Addr) (k1 p : Nat) (W : World) : Prop where
  bl : Below W1.heap.size W1 W
  at0 : ActAt W g0 g1 x
  s0 : Slot 4 W g0 x.sets.length
  s1 : Slot 7 W g1 x.cols.length
  f0 : Far W1.heap.size g0 x.sets.length
  f1 : Far W1.heap.size g1 x.cols.length
  n0 : x.sets.length = 0 ∨ ∃ B, g0 = some ⟨B, 0, none⟩ ∧ B ≠ p
  n1 : x.cols.length = 0 ∨ ∃ B, g1 = some ⟨B, 0, none⟩ ∧ B ≠ p
  lt : p < W.heap.size
  bx : W.rangeAt p 0 [.int .i64 x.kd, .string x.nm, .int .i64 x.id, .slice g0 x.sets.length k0, .slice g1 x.cols.length k1, .int .i64 x.g.kd, .string x.g.nm, .string x.g.nw, .string x.g.c.nm, .int .i64 x.g.c.kd, .bool x.g.c.nd, .bool x.g.c.oc, .int .i64 x.g.c.k, .int .i64 x.g.c.n, .string x.g.c.s, .string x.l.fr, .string x.l.co, .string x.l.tt, .int .i64 x.l.hw]
theorem GotR.next {W1 : World} {x : AAct} {g0 g1 : Option Addr} {k0 k1 p : Nat} {W W' : World} (h : GotR W1 x g0 k0 g1 k1 p W) (hb : Below W.heap.size W W') : GotR W1 x g0 k0 g1 k1 p W' :=
  ⟨h.bl.trans (hb.mono h.bl.size), h.at0.keep hb, h.s0.next hb, h.s1.next hb, h.f0, h.f1, h.n0, h.n1, Nat.lt_of_lt_of_le h.lt hb.size, range_next h.bx h.lt hb⟩
theorem GotR.start {W1 W : World} {x : AAct} {g0 g1 : Option Addr} {k0 k1 : Nat} (h1 : ActAt W g0 g1 x) (hu : W.ownsRow W1.heap.size 102 4 (.slice g0 x.sets.length k0) x.sets.length (x.sets.flatMap ASet.cells)) (hc : W.ownsRow W1.heap.size 28 7 (.slice g1 x.cols.length k1) x.cols.length (x.cols.flatMap ACol.cells)) (h2 : Below W1.heap.size W1 W) :
    GotR W1 x g0 k0 g1 k1 W.heap.size ((W.alloc (.cells #[.int .i64 0, .string ⟨#[]⟩, .int .i64 0, .slice none 0 0, .slice none 0 0, .int .i64 0, .string ⟨#[]⟩, .string ⟨#[]⟩, .string ⟨#[]⟩, .int .i64 0, .bool false, .bool false, .int .i64 0, .int .i64 0, .string ⟨#[]⟩, .string ⟨#[]⟩, .string ⟨#[]⟩, .string ⟨#[]⟩, .int .i64 0] 34)).setCells W.heap.size 0 [.int .i64 x.kd, .string x.nm, .int .i64 x.id, .slice g0 x.sets.length k0, .slice g1 x.cols.length k1, .int .i64 x.g.kd, .string x.g.nm, .string x.g.nw, .string x.g.c.nm, .int .i64 x.g.c.kd, .bool x.g.c.nd, .bool x.g.c.oc, .int .i64 x.g.c.k, .int .i64 x.g.c.n, .string x.g.c.s, .string x.l.fr, .string x.l.co, .string x.l.tt, .int .i64 x.l.hw]) := by
  obtain ⟨hb, hr, hl⟩ := box_put W [.int .i64 x.kd, .string x.nm, .int .i64 x.id, .slice g0 x.sets.length k0, .slice g1 x.cols.length k1, .int .i64 x.g.kd, .string x.g.nm, .string x.g.nw, .string x.g.c.nm, .int .i64 x.g.c.kd, .bool x.g.c.nd, .bool x.g.c.oc, .int .i64 x.g.c.k, .int .i64 x.g.c.n, .string x.g.c.s, .string x.l.fr, .string x.l.co, .string x.l.tt, .int .i64 x.l.hw] rfl
  exact ⟨h2.trans (hb.mono h2.size), h1.keep hb, (own_slot hu).1.next hb, (own_slot hc).1.next hb, (own_slot hu).2, (own_slot hc).2, slot_not (own_slot hu).1, slot_not (own_slot hc).1, hl, hr⟩
/-- What the program read lies in its box at p, its lists marked. -/
structure GotM (W1 : World) (x : AAct) (g0 : Option Addr) (k0 : Nat) (g1 : Option Addr) (k1 p : Nat) (W : World) : Prop where
  bl : Below W1.heap.size W1 W
  ms : MarkS W g0 x.sets.length 1
  mc : MarkC W g1 x.cols.length (1 + 4 * x.sets.length)
  lt : p < W.heap.size
  bx : W.rangeAt p 0 [.int .i64 x.kd, .string x.nm, .int .i64 x.id, .slice g0 x.sets.length k0, .slice g1 x.cols.length k1, .int .i64 x.g.kd, .string x.g.nm, .string x.g.nw, .string x.g.c.nm, .int .i64 x.g.c.kd, .bool x.g.c.nd, .bool x.g.c.oc, .int .i64 x.g.c.k, .int .i64 x.g.c.n, .string x.g.c.s, .string x.l.fr, .string x.l.co, .string x.l.tt, .int .i64 x.l.hw]
theorem GotM.next {W1 : World} {x : AAct} {g0 g1 : Option Addr} {k0 k1 p : Nat} {W W' : World} (h : GotM W1 x g0 k0 g1 k1 p W) (hb : Below W.heap.size W W') : GotM W1 x g0 k0 g1 k1 p W' :=
  ⟨h.bl.trans (hb.mono h.bl.size), h.ms.next hb, h.mc.next hb, Nat.lt_of_lt_of_le h.lt hb.size, range_next h.bx h.lt hb⟩

set_option maxRecDepth 100000 in
set_option maxHeartbeats 4000000 in
theorem law_actread (m : Int) (t : ByteArray) (w : World) (htab : Tb w) (hM : Mx m w) :
    Calls Tryz.prog 4 #[.string t] w fun e w' => e = .returned (.bool true) ∧ Below w.heap.size w w' := by
  by_cases ht : t.size ≤ 1048576
  case neg =>
    have ht' : (1048576 : Int) < t.size := by omega
    clear htab hM
    go_enter Tryz.func4, Tryz.ntmps4
    go_wp2_with fail
    go_ret
    exact ⟨rfl, Below.refl _ _⟩
  have HT : Hid (Tb w ∧ Mx m w) := ⟨htab, hM⟩
  clear htab hM
  go_enter Tryz.func4, Tryz.ntmps4
  go_wp2_with fail
  refine (spec_act_read t w ht HT.out.1).mono ?_
  rintro e w1 ⟨x, b, v, rfl, hV, hI, hf⟩
  obtain ⟨u, c, rfl, hu, hc, hb⟩ := hV
  obtain ⟨a0, c0, rfl, hA0⟩ := own_sets hu
  obtain ⟨a1, c1, rfl, hA1⟩ := own_cols hc
  have HI : Hid (ActIs t.data.toList x b ∧ x.fit) := ⟨hI, hf⟩
  have HW1 : Hid (GotS m w x a0 c0 a1 c1 w1.heap.size ((w1.alloc (.cells #[.int .i64 0, .string ⟨#[]⟩, .int .i64 0, .slice none 0 0, .slice none 0 0, .int .i64 0, .string ⟨#[]⟩, .string ⟨#[]⟩, .string ⟨#[]⟩, .int .i64 0, .bool false, .bool false, .int .i64 0, .int .i64 0, .string ⟨#[]⟩, .string ⟨#[]⟩, .string ⟨#[]⟩, .string ⟨#[]⟩, .int .i64 0] 34)).setCells w1.heap.size 0 [.int .i64 x.kd, .string x.nm, .int .i64 x.id, .slice a0 x.sets.length c0, .slice a1 x.cols.length c1, .int .i64 x.g.kd, .string x.g.nm, .string x.g.nw, .string x.g.c.nm, .int .i64 x.g.c.kd, .bool x.g.c.nd, .bool x.g.c.oc, .int .i64 x.g.c.k, .int .i64 x.g.c.n, .string x.g.c.s, .string x.l.fr, .string x.l.co, .string x.l.tt, .int .i64 x.l.hw])) := GotS.start hb ⟨hA0, hA1⟩ (tb_next HT.out.1 hb) (HT.out.2.next hb)
  have hth := box_there w1
  have hbb : (b != b) = false := by simp
  clear hu hc hA0 hA1 hI hf hb HT
  go_wp2_with (refine st_act rfl _ _ rfl _ rfl [.int .i64 x.kd, .string x.nm, .int .i64 x.id, .slice a0 x.sets.length c0, .slice a1 x.cols.length c1, .int .i64 x.g.kd, .string x.g.nm, .string x.g.nw, .string x.g.c.nm, .int .i64 x.g.c.kd, .bool x.g.c.nd, .bool x.g.c.oc, .int .i64 x.g.c.k, .int .i64 x.g.c.n, .string x.g.c.s, .string x.l.fr, .string x.l.co, .string x.l.tt, .int .i64 x.l.hw] rfl rfl hth (by simp [Value.oneCell']) ?_; clear hth; generalize ((w1.alloc (.cells #[.int .i64 0, .string ⟨#[]⟩, .int .i64 0, .slice none 0 0, .slice none 0 0, .int .i64 0, .string ⟨#[]⟩, .string ⟨#[]⟩, .string ⟨#[]⟩, .int .i64 0, .bool false, .bool false, .int .i64 0, .int .i64 0, .string ⟨#[]⟩, .string ⟨#[]⟩, .string ⟨#[]⟩, .string ⟨#[]⟩, .int .i64 0] 34)).setCells w1.heap.size 0 [.int .i64 x.kd, .string x.nm, .int .i64 x.id, .slice a0 x.sets.length c0, .slice a1 x.cols.length c1, .int .i64 x.g.kd, .string x.g.nm, .string x.g.nw, .string x.g.c.nm, .int .i64 x.g.c.kd, .bool x.g.c.nd, .bool x.g.c.oc, .int .i64 x.g.c.k, .int .i64 x.g.c.n, .string x.g.c.s, .string x.l.fr, .string x.l.co, .string x.l.tt, .int .i64 x.l.hw]) = W1 at *)
  generalize w1.heap.size = p0 at *
  refine (impl_act_read m t W1 ht HW1.out.tb HW1.out.mx).mono ?_
  rintro e w2 ⟨y, b2, v, rfl, hV, hI⟩
  obtain ⟨h1, h2⟩ := act_one HI.out.1 hI
  subst h1
  subst h2
  obtain ⟨u, c, rfl, hu, hc, hb⟩ := hV
  obtain ⟨g0, k0, rfl, hG0⟩ := own_sets hu
  obtain ⟨g1, k1, rfl, hG1⟩ := own_cols hc
  have HW2 : Hid (GotR W1 x g0 k0 g1 k1 w2.heap.size ((w2.alloc (.cells #[.int .i64 0, .string ⟨#[]⟩, .int .i64 0, .slice none 0 0, .slice none 0 0, .int .i64 0, .string ⟨#[]⟩, .string ⟨#[]⟩, .string ⟨#[]⟩, .int .i64 0, .bool false, .bool false, .int .i64 0, .int .i64 0, .string ⟨#[]⟩, .string ⟨#[]⟩, .string ⟨#[]⟩, .string ⟨#[]⟩, .int .i64 0] 34)).setCells w2.heap.size 0 [.int .i64 x.kd, .string x.nm, .int .i64 x.id, .slice g0 x.sets.length k0, .slice g1 x.cols.length k1, .int .i64 x.g.kd, .string x.g.nm, .string x.g.nw, .string x.g.c.nm, .int .i64 x.g.c.kd, .bool x.g.c.nd, .bool x.g.c.oc, .int .i64 x.g.c.k, .int .i64 x.g.c.n, .string x.g.c.s, .string x.l.fr, .string x.l.co, .string x.l.tt, .int .i64 x.l.hw])) := GotR.start ⟨hG0, hG1⟩ hu hc hb
  have hth := box_there w2
  clear hu hc hG0 hG1 hI hb
  go_wp2_with (first
    | (refine st_act rfl _ _ rfl _ rfl [.int .i64 x.kd, .string x.nm, .int .i64 x.id, .slice g0 x.sets.length k0, .slice g1 x.cols.length k1, .int .i64 x.g.kd, .string x.g.nm, .string x.g.nw, .string x.g.c.nm, .int .i64 x.g.c.kd, .bool x.g.c.nd, .bool x.g.c.oc, .int .i64 x.g.c.k, .int .i64 x.g.c.n, .string x.g.c.s, .string x.l.fr, .string x.l.co, .string x.l.tt, .int .i64 x.l.hw] rfl rfl hth (by simp [Value.oneCell']) ?_; clear hth; generalize ((w2.alloc (.cells #[.int .i64 0, .string ⟨#[]⟩, .int .i64 0, .slice none 0 0, .slice none 0 0, .int .i64 0, .string ⟨#[]⟩, .string ⟨#[]⟩, .string ⟨#[]⟩, .int .i64 0, .bool false, .bool false, .int .i64 0, .int .i64 0, .string ⟨#[]⟩, .string ⟨#[]⟩, .string ⟨#[]⟩, .string ⟨#[]⟩, .int .i64 0] 34)).setCells w2.heap.size 0 [.int .i64 x.kd, .string x.nm, .int .i64 x.id, .slice g0 x.sets.length k0, .slice g1 x.cols.length k1, .int .i64 x.g.kd, .string x.g.nm, .string x.g.nw, .string x.g.c.nm, .int .i64 x.g.c.kd, .bool x.g.c.nd, .bool x.g.c.oc, .int .i64 x.g.c.k, .int .i64 x.g.c.n, .string x.g.c.s, .string x.l.fr, .string x.l.co, .string x.l.tt, .int .i64 x.l.hw]) = W2 at *; have RG := HW2.out.bx; have RW := (HW1.out.next HW2.out.bl).bx)
    | (refine ld_act rfl _ rfl _ rfl _ RG rfl ?_)
    | (refine ld_act rfl _ rfl _ rfl _ RW rfl ?_))
  generalize w2.heap.size = p1 at *
  refine (eq_act x g0 g1 a0 a1 k0 k1 c0 c1 _ HW2.out.at0 (HW1.out.next HW2.out.bl).at0 HI.out.2).mono ?_
  rintro e w3 ⟨rfl, hb⟩
  clear RG RW
  have HW3 : Hid (GotR W1 x g0 k0 g1 k1 p1 w3) := HW2.out.next hb
  have RG := HW3.out.bx
  have HO : Hid (OneL x) := one_is HI.out.1
  obtain ⟨q, hq⟩ : ∃ q, q = 1 + 4 * x.sets.length + 7 * x.cols.length := ⟨_, rfl⟩
  have HQ : Hid (q = 1 + 4 * x.sets.length + 7 * x.cols.length) := hq
  have hq0 : ¬ (q : Int) < 0 := by omega
  clear hb HW2 hq
  go_wp2_with (refine ld_act rfl _ rfl _ rfl _ RG rfl ?_)
  refine (mark_act x g0 g1 k0 k1 _ HO.out HW3.out.s0 HW3.out.s1).mono ?_
  rintro e w4 ⟨rfl, hms, hmc, hbl, hra⟩
  rw [← HQ.out]
  have HW4 : Hid (GotM W1 x g0 k0 g1 k1 p1 w4) := ⟨HW3.out.bl.trans (hbl W1.heap.size HW3.out.bl.size HW3.out.f0 HW3.out.f1), hms, hmc, Nat.lt_of_lt_of_le HW3.out.lt (hbl 0 (Nat.zero_le _) (far_mono HW3.out.f0 (Nat.zero_le _)) (far_mono HW3.out.f1 (Nat.zero_le _))).size, hra p1 _ HW3.out.lt HW3.out.n0 HW3.out.n1 HW3.out.bx⟩
  clear RG hms hmc hbl hra HW3
  have RG := HW4.out.bx
  go_wp2_with (refine ld_act rfl _ rfl _ rfl _ RG rfl ?_)
  refine (held_act x g0 g1 k0 k1 _ HO.out HW4.out.ms HW4.out.mc).mono ?_
  rintro e w5 ⟨rfl, hb⟩
  rw [← HQ.out]
  have HW5 : Hid (GotM W1 x g0 k0 g1 k1 p1 w5) := HW4.out.next hb
  clear hb RG HW4
  go_wp2_with fail
  refine (impl_act_read m t w5 ht (HW1.out.next HW5.out.bl).tb (HW1.out.next HW5.out.bl).mx).mono ?_
  rintro e w6 ⟨y, b2, v, rfl, hV, hI⟩
  obtain ⟨h1, h2⟩ := act_one HI.out.1 hI
  subst h1
  subst h2
  obtain ⟨u, c, rfl, hu, hc, hb⟩ := hV
  obtain ⟨h0, j0, rfl, hH0⟩ := own_sets hu
  obtain ⟨h1, j1, rfl, hH1⟩ := own_cols hc
  obtain ⟨bb, br, _⟩ := box_put w6 [.int .i64 x.kd, .string x.nm, .int .i64 x.id, .slice h0 x.sets.length j0, .slice h1 x.cols.length j1, .int .i64 x.g.kd, .string x.g.nm, .string x.g.nw, .string x.g.c.nm, .int .i64 x.g.c.kd, .bool x.g.c.nd, .bool x.g.c.oc, .int .i64 x.g.c.k, .int .i64 x.g.c.n, .string x.g.c.s, .string x.l.fr, .string x.l.co, .string x.l.tt, .int .i64 x.l.hw] rfl
  have HA6 : Hid (ActAt ((w6.alloc (.cells #[.int .i64 0, .string ⟨#[]⟩, .int .i64 0, .slice none 0 0, .slice none 0 0, .int .i64 0, .string ⟨#[]⟩, .string ⟨#[]⟩, .string ⟨#[]⟩, .int .i64 0, .bool false, .bool false, .int .i64 0, .int .i64 0, .string ⟨#[]⟩, .string ⟨#[]⟩, .string ⟨#[]⟩, .string ⟨#[]⟩, .int .i64 0] 34)).setCells w6.heap.size 0 [.int .i64 x.kd, .string x.nm, .int .i64 x.id, .slice h0 x.sets.length j0, .slice h1 x.cols.length j1, .int .i64 x.g.kd, .string x.g.nm, .string x.g.nw, .string x.g.c.nm, .int .i64 x.g.c.kd, .bool x.g.c.nd, .bool x.g.c.oc, .int .i64 x.g.c.k, .int .i64 x.g.c.n, .string x.g.c.s, .string x.l.fr, .string x.l.co, .string x.l.tt, .int .i64 x.l.hw]) h0 h1 x ∧ ((w6.alloc (.cells #[.int .i64 0, .string ⟨#[]⟩, .int .i64 0, .slice none 0 0, .slice none 0 0, .int .i64 0, .string ⟨#[]⟩, .string ⟨#[]⟩, .string ⟨#[]⟩, .int .i64 0, .bool false, .bool false, .int .i64 0, .int .i64 0, .string ⟨#[]⟩, .string ⟨#[]⟩, .string ⟨#[]⟩, .string ⟨#[]⟩, .int .i64 0] 34)).setCells w6.heap.size 0 [.int .i64 x.kd, .string x.nm, .int .i64 x.id, .slice h0 x.sets.length j0, .slice h1 x.cols.length j1, .int .i64 x.g.kd, .string x.g.nm, .string x.g.nw, .string x.g.c.nm, .int .i64 x.g.c.kd, .bool x.g.c.nd, .bool x.g.c.oc, .int .i64 x.g.c.k, .int .i64 x.g.c.n, .string x.g.c.s, .string x.l.fr, .string x.l.co, .string x.l.tt, .int .i64 x.l.hw]).rangeAt w6.heap.size 0 [.int .i64 x.kd, .string x.nm, .int .i64 x.id, .slice h0 x.sets.length j0, .slice h1 x.cols.length j1, .int .i64 x.g.kd, .string x.g.nm, .string x.g.nw, .string x.g.c.nm, .int .i64 x.g.c.kd, .bool x.g.c.nd, .bool x.g.c.oc, .int .i64 x.g.c.k, .int .i64 x.g.c.n, .string x.g.c.s, .string x.l.fr, .string x.l.co, .string x.l.tt, .int .i64 x.l.hw]) := ⟨⟨hH0.keep bb, hH1.keep bb⟩, br⟩
  have HW6 : Hid (GotM W1 x g0 k0 g1 k1 p1 ((w6.alloc (.cells #[.int .i64 0, .string ⟨#[]⟩, .int .i64 0, .slice none 0 0, .slice none 0 0, .int .i64 0, .string ⟨#[]⟩, .string ⟨#[]⟩, .string ⟨#[]⟩, .int .i64 0, .bool false, .bool false, .int .i64 0, .int .i64 0, .string ⟨#[]⟩, .string ⟨#[]⟩, .string ⟨#[]⟩, .string ⟨#[]⟩, .int .i64 0] 34)).setCells w6.heap.size 0 [.int .i64 x.kd, .string x.nm, .int .i64 x.id, .slice h0 x.sets.length j0, .slice h1 x.cols.length j1, .int .i64 x.g.kd, .string x.g.nm, .string x.g.nw, .string x.g.c.nm, .int .i64 x.g.c.kd, .bool x.g.c.nd, .bool x.g.c.oc, .int .i64 x.g.c.k, .int .i64 x.g.c.n, .string x.g.c.s, .string x.l.fr, .string x.l.co, .string x.l.tt, .int .i64 x.l.hw])) := (HW5.out.next hb).next bb
  have hth := box_there w6
  clear hu hc hH0 hH1 hI hb bb br HW5
  go_wp2_with (first
    | (refine st_act rfl _ _ rfl _ rfl [.int .i64 x.kd, .string x.nm, .int .i64 x.id, .slice h0 x.sets.length j0, .slice h1 x.cols.length j1, .int .i64 x.g.kd, .string x.g.nm, .string x.g.nw, .string x.g.c.nm, .int .i64 x.g.c.kd, .bool x.g.c.nd, .bool x.g.c.oc, .int .i64 x.g.c.k, .int .i64 x.g.c.n, .string x.g.c.s, .string x.l.fr, .string x.l.co, .string x.l.tt, .int .i64 x.l.hw] rfl rfl hth (by simp [Value.oneCell']) ?_; clear hth; generalize ((w6.alloc (.cells #[.int .i64 0, .string ⟨#[]⟩, .int .i64 0, .slice none 0 0, .slice none 0 0, .int .i64 0, .string ⟨#[]⟩, .string ⟨#[]⟩, .string ⟨#[]⟩, .int .i64 0, .bool false, .bool false, .int .i64 0, .int .i64 0, .string ⟨#[]⟩, .string ⟨#[]⟩, .string ⟨#[]⟩, .string ⟨#[]⟩, .int .i64 0] 34)).setCells w6.heap.size 0 [.int .i64 x.kd, .string x.nm, .int .i64 x.id, .slice h0 x.sets.length j0, .slice h1 x.cols.length j1, .int .i64 x.g.kd, .string x.g.nm, .string x.g.nw, .string x.g.c.nm, .int .i64 x.g.c.kd, .bool x.g.c.nd, .bool x.g.c.oc, .int .i64 x.g.c.k, .int .i64 x.g.c.n, .string x.g.c.s, .string x.l.fr, .string x.l.co, .string x.l.tt, .int .i64 x.l.hw]) = W6 at *; have RH := HA6.out.2; have RW := (HW1.out.next HW6.out.bl).bx)
    | (refine ld_act rfl _ rfl _ rfl _ RH rfl ?_)
    | (refine ld_act rfl _ rfl _ rfl _ RW rfl ?_))
  generalize w6.heap.size = p2 at *
  refine (eq_act x h0 h1 a0 a1 j0 j1 c0 c1 _ HA6.out.1 (HW1.out.next HW6.out.bl).at0 HI.out.2).mono ?_
  rintro e w7 ⟨rfl, hb⟩
  clear RH RW
  have HW7 : Hid (GotM W1 x g0 k0 g1 k1 p1 w7) := HW6.out.next hb
  have RG := HW7.out.bx
  clear hb HW6 HA6
  go_wp2_with (refine ld_act rfl _ rfl _ rfl _ RG rfl ?_)
  refine (held_act x g0 g1 k0 k1 _ HO.out HW7.out.ms HW7.out.mc).mono ?_
  rintro e w8 ⟨rfl, hb⟩
  rw [← HQ.out]
  have HW8 : Hid (GotM W1 x g0 k0 g1 k1 p1 w8) := HW7.out.next hb
  clear hb RG HW7
  go_wp2_with fail
  go_ret
  exact ⟨rfl, (HW1.out.next HW8.out.bl).bl⟩

end Go.Proofs.YtpcfebekkgfpjaaGreatDoor
