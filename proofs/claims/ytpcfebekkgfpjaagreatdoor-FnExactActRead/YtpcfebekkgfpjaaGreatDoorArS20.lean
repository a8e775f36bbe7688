/- The contract of spec.ActRead, over the seat's translation. -/
import Derived.Test.YtpcfebekkgfpjaaGreatDoorG37
import Derived.Test.YtpcfebekkgfpjaaGreatDoorArC4
namespace Go.Proofs.YtpcfebekkgfpjaaGreatDoor
open Go.RowKit

theorem size_sets9 (W : World) (B o : Nat) (vs : List Value) : (W.setCells B o vs).heap.size = W.heap.size := by
  induction vs generalizing o W with
  | nil => rfl
  | cons v r ih => exact (ih (W.setCell ⟨B, o, none⟩ v) (o + 1)).trans (by simp [World.setCell])
/-- A box made anew and written whole. -/
theorem box_put (W : World) (cs : List Value) (hl : cs.length = 19) : Below W.heap.size W ((W.alloc (.cells #[.int .i64 0, .string ⟨#[]⟩, .int .i64 0, .slice none 0 0, .slice none 0 0, .int .i64 0, .string ⟨#[]⟩, .string ⟨#[]⟩, .string ⟨#[]⟩, .int .i64 0, .bool false, .bool false, .int .i64 0, .int .i64 0, .string ⟨#[]⟩, .string ⟨#[]⟩, .string ⟨#[]⟩, .string ⟨#[]⟩, .int .i64 0] 34)).setCells W.heap.size 0 cs) ∧ ((W.alloc (.cells #[.int .i64 0, .string ⟨#[]⟩, .int .i64 0, .slice none 0 0, .slice none 0 0, .int .i64 0, .string ⟨#[]⟩, .string ⟨#[]⟩, .string ⟨#[]⟩, .int .i64 0, .bool false, .bool false, .int .i64 0, .int .i64 0, .string ⟨#[]⟩, .string ⟨#[]⟩, .string ⟨#[]⟩, .string ⟨#[]⟩, .int .i64 0] 34)).setCells W.heap.size 0 cs).rangeAt W.heap.size 0 cs ∧ W.heap.size < ((W.alloc (.cells #[.int .i64 0, .string ⟨#[]⟩, .int .i64 0, .slice none 0 0, .slice none 0 0, .int .i64 0, .string ⟨#[]⟩, .string ⟨#[]⟩, .string ⟨#[]⟩, .int .i64 0, .bool false, .bool false, .int .i64 0, .int .i64 0, .string ⟨#[]⟩, .string ⟨#[]⟩, .string ⟨#[]⟩, .string ⟨#[]⟩, .int .i64 0] 34)).setCells W.heap.size 0 cs).heap.size :=
  ⟨below_put ((Below.refl _ _).alloc (Nat.le_refl _) _) (Nat.le_refl _) _ _, World.rangeAt_setCells_same _ _ _ _ (by rw [hl]; exact there_box W [.int .i64 0, .string ⟨#[]⟩, .int .i64 0, .slice none 0 0, .slice none 0 0, .int .i64 0, .string ⟨#[]⟩, .string ⟨#[]⟩, .string ⟨#[]⟩, .int .i64 0, .bool false, .bool false, .int .i64 0, .int .i64 0, .string ⟨#[]⟩, .string ⟨#[]⟩, .string ⟨#[]⟩, .string ⟨#[]⟩, .int .i64 0] 34 19 rfl), by rw [size_sets9]; simp⟩
theorem box_there (W : World) : (W.alloc (.cells #[.int .i64 0, .string ⟨#[]⟩, .int .i64 0, .slice none 0 0, .slice none 0 0, .int .i64 0, .string ⟨#[]⟩, .string ⟨#[]⟩, .string ⟨#[]⟩, .int .i64 0, .bool false, .bool false, .int .i64 0, .int .i64 0, .string ⟨#[]⟩, .string ⟨#[]⟩, .string ⟨#[]⟩, .string ⟨#[]⟩, .int .i64 0] 34)).there W.heap.size 0 19 := there_box W [.int .i64 0, .string ⟨#[]⟩, .int .i64 0, .slice none 0 0, .slice none 0 0, .int .i64 0, .string ⟨#[]⟩, .string ⟨#[]⟩, .string ⟨#[]⟩, .int .i64 0, .bool false, .bool false, .int .i64 0, .int .i64 0, .string ⟨#[]⟩, .string ⟨#[]⟩, .string ⟨#[]⟩, .string ⟨#[]⟩, .int .i64 0] 34 19 rfl

/-- What lies there while a text is read: the answer's box, the table; and W lies over w. -/
structure SRead (w W : World) : Prop where
  th : W.there w.heap.size 0 19
  lt : w.heap.size < W.heap.size
  bl : Below w.heap.size w W
  tb : Tb W
theorem SRead.next {w W W' : World} (h : SRead w W) (hb : Below W.heap.size W W') : SRead w W' :=
  ⟨there_next h.th h.lt hb, Nat.lt_of_lt_of_le h.lt hb.size, h.bl.trans (hb.mono h.bl.size), tb_next h.tb hb⟩
/-- How the reading ends. -/
def SPost (w : World) (t : ByteArray) (e : Ending) (w' : World) : Prop := ∃ x b v, e = .returned (.tuple #[v, .bool b]) ∧ ActV w w' x v ∧ ActIs t.data.toList x b ∧ x.fit
theorem act0_fit : AAct.fit act0 := by
  simp [AAct.fit, AChg.fit, ALnk.fit, ACol.fit, maxLen]
  exact Nat.zero_le _
/-- Loaded whole behind a guard. -/
theorem ld_act_want {ops : Array Oper} {rest : List Oper} {op : Oper} {a : Act} {w : World} {Q : Exit → Act → World → Prop} (hw : Region.wanted op (yielded ops a.tmps) = true) (x : Operand) (ho : op.op = .load 34 x)
    (B : Nat) (hx : a.eval x = .pointer (some ⟨B, 0, none⟩)) (cs : List Value) (hc : w.rangeAt B 0 cs) (hl : cs.length = 19) (h : wpList Tryz.prog ops Q rest (a.put op.dst (.agg cs.toArray)) w) : wpList Tryz.prog ops Q (op :: rest) a w :=
  BigFrame.wpList_want hw fun _ hK => wp_load_mid _ x ho B 0 hx cs _ hc Tryz.underlying34 rfl (by rw [act_size, hl]) (hK _ _ h)
theorem sread_none {w w1 : World} {t : ByteArray} {a : Act} (H : SRead w w1) (hn : ∀ y, implDeed y = true → actT y ≠ t.data.toList) (h2 : a.tmps.getD 2 undef = .pointer (some ⟨w.heap.size, 0, none⟩)) (h3 : a.tmps.getD 3 undef = .bool false) (hd : a.defers = []) :
    bodyPost Tryz.prog Tryz.f12 (fun e w' => SPost w t e w') .ret a (w1.setCells w.heap.size 0 zeros) :=
  bodyPost_ret (results_cell2 Tryz.results12 h2 h3 (run_loadVar_mid _ _ 0 _ _ _ (World.rangeAt_setCells_same _ _ _ zeros H.th) Tryz.underlying34 rfl (by rw [act_size]; rfl))) hd ⟨act0, false, _, rfl, actv0 (below_put H.bl (Nat.le_refl _) 0 zeros), Or.inr ⟨rfl, rfl, hn⟩, act0_fit⟩

theorem sread_some {w w1 : World} {t : ByteArray} {a : Act} {x : AAct} {u c : Value} (H : SRead w w1) {B : Nat} (hB : w.heap.size < B) (hu : w1.ownsRow B 102 4 u x.sets.length (x.sets.flatMap ASet.cells)) (hc : w1.ownsRow B 28 7 c x.cols.length (x.cols.flatMap ACol.cells))
    (hi : ActIs t.data.toList x true) (hf : x.fit) (h2 : a.tmps.getD 2 undef = .pointer (some ⟨w.heap.size, 0, none⟩)) (h3 : a.tmps.getD 3 undef = .bool true) (hd : a.defers = []) :
    bodyPost Tryz.prog Tryz.f12 (fun e w' => SPost w t e w') .ret a (w1.setCells w.heap.size 0 [.int .i64 x.kd, .string x.nm, .int .i64 x.id, u, c, .int .i64 x.g.kd, .string x.g.nm, .string x.g.nw, .string x.g.c.nm, .int .i64 x.g.c.kd, .bool x.g.c.nd, .bool x.g.c.oc, .int .i64 x.g.c.k, .int .i64 x.g.c.n, .string x.g.c.s, .string x.l.fr, .string x.l.co, .string x.l.tt, .int .i64 x.l.hw]) :=
  bodyPost_ret (results_cell2 Tryz.results12 h2 h3 (run_loadVar_mid _ _ 0 _ _ _ (World.rangeAt_setCells_same _ _ _ _ H.th) Tryz.underlying34 rfl (by rw [act_size]; rfl))) hd ⟨x, true, _, rfl, ⟨u, c, rfl, own_apart hu hB 0 _, own_apart hc hB 0 _, below_put H.bl (Nat.le_refl _) 0 _⟩, hi, hf⟩
/-- What was read and is not right is nothing that is right. -/
theorem act_nine {x : AAct} {W : List Bs} {t : Bs} (hR : ActRd W x) (hW : cutB 32 t = W) (h : implAct x = false) : ∀ y, implDeed y = true → actT y ≠ t := fun y hy e => by
  rw [hR y hy (by rw [← cut_act hy, e, hW]), deed_ok hy] at h
  cases h
theorem cutB_count (c : UInt8) : ∀ l : Bs, (cutB c l).length ≤ l.length + 1
  | [] => by simp [cutB]
  | b :: r => by
    have h := cutB_count c r
    rw [cutB_cons]
    split
    · rw [List.length_cons, List.length_cons]; omega
    · cases hc : cutB c r with
      | nil => exact absurd hc (cutB_ne c r)
      | cons v vs =>
        rw [hc] at h
        rw [List.length_cons] at h ⊢
        rw [List.length_cons]
        omega
theorem cut_few {ws : List ByteArray} {t : ByteArray} (h : ws.map (·.data.toList) = cutB 32 t.data.toList) (ht : t.size ≤ 1048576) : ws.length ≤ 1048577 := by
  have h1 := cutB_count 32 t.data.toList
  rw [← h, List.length_map] at h1
  simp at h1
  omega
theorem cut_small {ws : List ByteArray} {t : ByteArray} (h : ws.map (·.data.toList) = cutB 32 t.data.toList) (ht : t.size ≤ 1048576) : ∀ x ∈ ws, x.size ≤ 1048576 := fun x hx => by
  have h1 := cutB_le 32 t.data.toList x.data.toList (by rw [← h]; exact List.mem_map.2 ⟨x, hx, rfl⟩)
  simp at h1
  omega

set_option maxRecDepth 100000 in
set_option maxHeartbeats 4000000 in
theorem spec_act_read (t : ByteArray) (w : World) (ht : t.size ≤ 1048576) (htab : Tb w) :
    Calls Tryz.prog 12 #[.string t] w fun e w' => SPost w t e w' := by
  have A0 : Below w.heap.size w (w.alloc (.cells #[.int .i64 0, .string ⟨#[]⟩, .int .i64 0, .slice none 0 0, .slice none 0 0, .int .i64 0, .string ⟨#[]⟩, .string ⟨#[]⟩, .string ⟨#[]⟩, .int .i64 0, .bool false, .bool false, .int .i64 0, .int .i64 0, .string ⟨#[]⟩, .string ⟨#[]⟩, .string ⟨#[]⟩, .string ⟨#[]⟩, .int .i64 0] 34)) := (Below.refl _ _).alloc (Nat.le_refl _) _
  have H0 : Hid (SRead w (w.alloc (.cells #[.int .i64 0, .string ⟨#[]⟩, .int .i64 0, .slice none 0 0, .slice none 0 0, .int .i64 0, .string ⟨#[]⟩, .string ⟨#[]⟩, .string ⟨#[]⟩, .int .i64 0, .bool false, .bool false, .int .i64 0, .int .i64 0, .string ⟨#[]⟩, .string ⟨#[]⟩, .string ⟨#[]⟩, .string ⟨#[]⟩, .int .i64 0] 34))) := ⟨there_box w [.int .i64 0, .string ⟨#[]⟩, .int .i64 0, .slice none 0 0, .slice none 0 0, .int .i64 0, .string ⟨#[]⟩, .string ⟨#[]⟩, .string ⟨#[]⟩, .int .i64 0, .bool false, .bool false, .int .i64 0, .int .i64 0, .string ⟨#[]⟩, .string ⟨#[]⟩, .string ⟨#[]⟩, .string ⟨#[]⟩, .int .i64 0] 34 19 rfl, by simp, A0, tb_next htab A0⟩
  clear A0 htab
  go_enter Tryz.func12, Tryz.ntmps12
  go_wp2_with fail
  generalize w.alloc (.cells #[.int .i64 0, .string ⟨#[]⟩, .int .i64 0, .slice none 0 0, .slice none 0 0, .int .i64 0, .string ⟨#[]⟩, .string ⟨#[]⟩, .string ⟨#[]⟩, .int .i64 0, .bool false, .bool false, .int .i64 0, .int .i64 0, .string ⟨#[]⟩, .string ⟨#[]⟩, .string ⟨#[]⟩, .string ⟨#[]⟩, .int .i64 0] 34) = W0 at *
  refine (spec_cut t 32 _ ht).mono ?_
  rintro e w1 ⟨v, ws, rfl, hO, hcut⟩
  have HC : Hid (ws.map (·.data.toList) = cutB 32 t.data.toList) := hcut
  have H1 : Hid (SRead w w1) := H0.out.next hO.2
  clear hcut H0
  cases ws with
  | nil => exact absurd HC.out.symm (cutB_ne _ _)
  | cons verb ws =>
  obtain ⟨g, cp, rfl, hg, hgl, hcp, hgb⟩ := own_strs hO.1
  have hth := H1.out.th
  cases ws with
  | nil =>
    have HN : Hid (∀ y, implDeed y = true → actT y ≠ t.data.toList) := few_no (w := verb.data.toList) HC.out.symm
    clear hg hgl hcp hgb hO
    simp only [List.length_cons, List.length_nil]
    go_wp2_with (refine st_act rfl _ _ rfl _ rfl zeros rfl rfl hth (by simp [Value.oneCell']) ?_)
    exact sread_none H1.out HN.out rfl rfl rfl
  | cons nm ws =>
    have hl2 : ¬ ((ws.length : Int) + 1 + 1 < 2) := by omega
    have hL : Hid ((verb :: nm :: ws).length ≤ 1048577 + 0 ∧ ∀ x ∈ verb :: nm :: ws, x.size ≤ 1048576) := ⟨cut_few HC.out ht, cut_small HC.out ht⟩
    simp only [List.length_cons]
    by_cases h200 : (200 : Int) < t.size
    · have HN : Hid (∀ y, implDeed y = true → actT y ≠ t.data.toList) := fun y hy e => by
        have := text_le hy
        rw [e] at this
        simp at this
        omega
      clear hg hgl hcp hgb hO
      go_wp2_with (refine st_act rfl _ _ rfl _ rfl zeros rfl rfl hth (by simp [Value.oneCell']) ?_)
      exact sread_none H1.out HN.out rfl rfl rfl
    · have HG : Hid (StrsAt w1 (some ⟨g, 0, none⟩) (verb :: nm :: ws) ∧ g < w1.heap.size ∧ (verb :: nm :: ws).length ≤ cp) := ⟨Or.inr ⟨g, 0, rfl, hgl, fun i x hx => by rw [Nat.zero_add]; exact hg i x hx⟩, hgl, hcp⟩
      clear hg hgl hcp hgb hO hth
      go_wp2_with fail
      refine (spec_words g 0 cp verb nm ws w1 HG.out.1 HG.out.2.1 HG.out.2.2 hL.out.2 (by have := hL.out.1; omega)).mono ?_
      rintro e w2 ⟨v, rfl, x, ⟨u, c, rfl, hu, hc, hb⟩, hf, hr⟩
      obtain ⟨a0, c0, rfl, hA0⟩ := own_sets hu
      obtain ⟨a1, c1, rfl, hA1⟩ := own_cols hc
      obtain ⟨bb, br, bl⟩ := box_put w2 [.int .i64 x.kd, .string x.nm, .int .i64 x.id, .slice a0 x.sets.length c0, .slice a1 x.cols.length c1, .int .i64 x.g.kd, .string x.g.nm, .string x.g.nw, .string x.g.c.nm, .int .i64 x.g.c.kd, .bool x.g.c.nd, .bool x.g.c.oc, .int .i64 x.g.c.k, .int .i64 x.g.c.n, .string x.g.c.s, .string x.l.fr, .string x.l.co, .string x.l.tt, .int .i64 x.l.hw] rfl
      have hth := box_there w2
      have H2 : Hid (SRead w ((w2.alloc (.cells #[.int .i64 0, .string ⟨#[]⟩, .int .i64 0, .slice none 0 0, .slice none 0 0, .int .i64 0, .string ⟨#[]⟩, .string ⟨#[]⟩, .string ⟨#[]⟩, .int .i64 0, .bool false, .bool false, .int .i64 0, .int .i64 0, .string ⟨#[]⟩, .string ⟨#[]⟩, .string ⟨#[]⟩, .string ⟨#[]⟩, .int .i64 0] 34)).setCells w2.heap.size 0 [.int .i64 x.kd, .string x.nm, .int .i64 x.id, .slice a0 x.sets.length c0, .slice a1 x.cols.length c1, .int .i64 x.g.kd, .string x.g.nm, .string x.g.nw, .string x.g.c.nm, .int .i64 x.g.c.kd, .bool x.g.c.nd, .bool x.g.c.oc, .int .i64 x.g.c.k, .int .i64 x.g.c.n, .string x.g.c.s, .string x.l.fr, .string x.l.co, .string x.l.tt, .int .i64 x.l.hw]) ∧ w.heap.size < w1.heap.size) := ⟨(H1.out.next hb).next bb, H1.out.lt⟩
      have HO : Hid (((w2.alloc (.cells #[.int .i64 0, .string ⟨#[]⟩, .int .i64 0, .slice none 0 0, .slice none 0 0, .int .i64 0, .string ⟨#[]⟩, .string ⟨#[]⟩, .string ⟨#[]⟩, .int .i64 0, .bool false, .bool false, .int .i64 0, .int .i64 0, .string ⟨#[]⟩, .string ⟨#[]⟩, .string ⟨#[]⟩, .string ⟨#[]⟩, .int .i64 0] 34)).setCells w2.heap.size 0 [.int .i64 x.kd, .string x.nm, .int .i64 x.id, .slice a0 x.sets.length c0, .slice a1 x.cols.length c1, .int .i64 x.g.kd, .string x.g.nm, .string x.g.nw, .string x.g.c.nm, .int .i64 x.g.c.kd, .bool x.g.c.nd, .bool x.g.c.oc, .int .i64 x.g.c.k, .int .i64 x.g.c.n, .string x.g.c.s, .string x.l.fr, .string x.l.co, .string x.l.tt, .int .i64 x.l.hw]).ownsRow w1.heap.size 102 4 (.slice a0 x.sets.length c0) x.sets.length (x.sets.flatMap ASet.cells) ∧ ((w2.alloc (.cells #[.int .i64 0, .string ⟨#[]⟩, .int .i64 0, .slice none 0 0, .slice none 0 0, .int .i64 0, .string ⟨#[]⟩, .string ⟨#[]⟩, .string ⟨#[]⟩, .int .i64 0, .bool false, .bool false, .int .i64 0, .int .i64 0, .string ⟨#[]⟩, .string ⟨#[]⟩, .string ⟨#[]⟩, .string ⟨#[]⟩, .int .i64 0] 34)).setCells w2.heap.size 0 [.int .i64 x.kd, .string x.nm, .int .i64 x.id, .slice a0 x.sets.length c0, .slice a1 x.cols.length c1, .int .i64 x.g.kd, .string x.g.nm, .string x.g.nw, .string x.g.c.nm, .int .i64 x.g.c.kd, .bool x.g.c.nd, .bool x.g.c.oc, .int .i64 x.g.c.k, .int .i64 x.g.c.n, .string x.g.c.s, .string x.l.fr, .string x.l.co, .string x.l.tt, .int .i64 x.l.hw]).ownsRow w1.heap.size 28 7 (.slice a1 x.cols.length c1) x.cols.length (x.cols.flatMap ACol.cells)) := ⟨own_keep hu bb, own_keep hc bb⟩
      have HX : Hid (ActAt ((w2.alloc (.cells #[.int .i64 0, .string ⟨#[]⟩, .int .i64 0, .slice none 0 0, .slice none 0 0, .int .i64 0, .string ⟨#[]⟩, .string ⟨#[]⟩, .string ⟨#[]⟩, .int .i64 0, .bool false, .bool false, .int .i64 0, .int .i64 0, .string ⟨#[]⟩, .string ⟨#[]⟩, .string ⟨#[]⟩, .string ⟨#[]⟩, .int .i64 0] 34)).setCells w2.heap.size 0 [.int .i64 x.kd, .string x.nm, .int .i64 x.id, .slice a0 x.sets.length c0, .slice a1 x.cols.length c1, .int .i64 x.g.kd, .string x.g.nm, .string x.g.nw, .string x.g.c.nm, .int .i64 x.g.c.kd, .bool x.g.c.nd, .bool x.g.c.oc, .int .i64 x.g.c.k, .int .i64 x.g.c.n, .string x.g.c.s, .string x.l.fr, .string x.l.co, .string x.l.tt, .int .i64 x.l.hw]) a0 a1 x ∧ x.fit ∧ ActRd (verb.data.toList :: nm.data.toList :: ws.map (·.data.toList)) x) := ⟨⟨hA0.keep bb, hA1.keep bb⟩, hf, hr⟩
      have HB : Hid (w2.heap.size < ((w2.alloc (.cells #[.int .i64 0, .string ⟨#[]⟩, .int .i64 0, .slice none 0 0, .slice none 0 0, .int .i64 0, .string ⟨#[]⟩, .string ⟨#[]⟩, .string ⟨#[]⟩, .int .i64 0, .bool false, .bool false, .int .i64 0, .int .i64 0, .string ⟨#[]⟩, .string ⟨#[]⟩, .string ⟨#[]⟩, .string ⟨#[]⟩, .int .i64 0] 34)).setCells w2.heap.size 0 [.int .i64 x.kd, .string x.nm, .int .i64 x.id, .slice a0 x.sets.length c0, .slice a1 x.cols.length c1, .int .i64 x.g.kd, .string x.g.nm, .string x.g.nw, .string x.g.c.nm, .int .i64 x.g.c.kd, .bool x.g.c.nd, .bool x.g.c.oc, .int .i64 x.g.c.k, .int .i64 x.g.c.n, .string x.g.c.s, .string x.l.fr, .string x.l.co, .string x.l.tt, .int .i64 x.l.hw]).heap.size ∧ ((w2.alloc (.cells #[.int .i64 0, .string ⟨#[]⟩, .int .i64 0, .slice none 0 0, .slice none 0 0, .int .i64 0, .string ⟨#[]⟩, .string ⟨#[]⟩, .string ⟨#[]⟩, .int .i64 0, .bool false, .bool false, .int .i64 0, .int .i64 0, .string ⟨#[]⟩, .string ⟨#[]⟩, .string ⟨#[]⟩, .string ⟨#[]⟩, .int .i64 0] 34)).setCells w2.heap.size 0 [.int .i64 x.kd, .string x.nm, .int .i64 x.id, .slice a0 x.sets.length c0, .slice a1 x.cols.length c1, .int .i64 x.g.kd, .string x.g.nm, .string x.g.nw, .string x.g.c.nm, .int .i64 x.g.c.kd, .bool x.g.c.nd, .bool x.g.c.oc, .int .i64 x.g.c.k, .int .i64 x.g.c.n, .string x.g.c.s, .string x.l.fr, .string x.l.co, .string x.l.tt, .int .i64 x.l.hw]).rangeAt w2.heap.size 0 [.int .i64 x.kd, .string x.nm, .int .i64 x.id, .slice a0 x.sets.length c0, .slice a1 x.cols.length c1, .int .i64 x.g.kd, .string x.g.nm, .string x.g.nw, .string x.g.c.nm, .int .i64 x.g.c.kd, .bool x.g.c.nd, .bool x.g.c.oc, .int .i64 x.g.c.k, .int .i64 x.g.c.n, .string x.g.c.s, .string x.l.fr, .string x.l.co, .string x.l.tt, .int .i64 x.l.hw]) := ⟨bl, br⟩
      clear hu hc hb hf hr hA0 hA1 H1 HG bb br bl
      go_wp2_with (first
        | (refine st_act rfl _ _ rfl _ rfl [.int .i64 x.kd, .string x.nm, .int .i64 x.id, .slice a0 x.sets.length c0, .slice a1 x.cols.length c1, .int .i64 x.g.kd, .string x.g.nm, .string x.g.nw, .string x.g.c.nm, .int .i64 x.g.c.kd, .bool x.g.c.nd, .bool x.g.c.oc, .int .i64 x.g.c.k, .int .i64 x.g.c.n, .string x.g.c.s, .string x.l.fr, .string x.l.co, .string x.l.tt, .int .i64 x.l.hw] rfl rfl hth (by simp [Value.oneCell']) ?_; clear hth; generalize ((w2.alloc (.cells #[.int .i64 0, .string ⟨#[]⟩, .int .i64 0, .slice none 0 0, .slice none 0 0, .int .i64 0, .string ⟨#[]⟩, .string ⟨#[]⟩, .string ⟨#[]⟩, .int .i64 0, .bool false, .bool false, .int .i64 0, .int .i64 0, .string ⟨#[]⟩, .string ⟨#[]⟩, .string ⟨#[]⟩, .string ⟨#[]⟩, .int .i64 0] 34)).setCells w2.heap.size 0 [.int .i64 x.kd, .string x.nm, .int .i64 x.id, .slice a0 x.sets.length c0, .slice a1 x.cols.length c1, .int .i64 x.g.kd, .string x.g.nm, .string x.g.nw, .string x.g.c.nm, .int .i64 x.g.c.kd, .bool x.g.c.nd, .bool x.g.c.oc, .int .i64 x.g.c.k, .int .i64 x.g.c.n, .string x.g.c.s, .string x.l.fr, .string x.l.co, .string x.l.tt, .int .i64 x.l.hw]) = W2 at *; have R2 := HB.out.2)
        | (refine ld_act rfl _ rfl _ rfl _ R2 rfl ?_))
      generalize w2.heap.size = p1 at *
      refine (spec_act x a0 a1 c0 c1 _ HX.out.1 HX.out.2.1).mono ?_
      rintro e w3 ⟨rfl, hb⟩
      rw [← impl_spec]
      have H3 : Hid (SRead w w3 ∧ w.heap.size < w1.heap.size) := ⟨H2.out.1.next hb, H2.out.2⟩
      have HO3 : Hid (w3.ownsRow w1.heap.size 102 4 (.slice a0 x.sets.length c0) x.sets.length (x.sets.flatMap ASet.cells) ∧ w3.ownsRow w1.heap.size 28 7 (.slice a1 x.cols.length c1) x.cols.length (x.cols.flatMap ACol.cells)) := ⟨own_keep HO.out.1 hb, own_keep HO.out.2 hb⟩
      have HX3 : Hid (ActAt w3 a0 a1 x ∧ x.fit ∧ ActRd (verb.data.toList :: nm.data.toList :: ws.map (·.data.toList)) x) := ⟨HX.out.1.keep hb, HX.out.2⟩
      have HB3 : Hid (p1 < w3.heap.size ∧ w3.rangeAt p1 0 [.int .i64 x.kd, .string x.nm, .int .i64 x.id, .slice a0 x.sets.length c0, .slice a1 x.cols.length c1, .int .i64 x.g.kd, .string x.g.nm, .string x.g.nw, .string x.g.c.nm, .int .i64 x.g.c.kd, .bool x.g.c.nd, .bool x.g.c.oc, .int .i64 x.g.c.k, .int .i64 x.g.c.n, .string x.g.c.s, .string x.l.fr, .string x.l.co, .string x.l.tt, .int .i64 x.l.hw]) := ⟨Nat.lt_of_lt_of_le HB.out.1 hb.size, range_next HB.out.2 HB.out.1 hb⟩
      have R3 := HB3.out.2
      have HCT : Hid (cutB 32 t.data.toList = verb.data.toList :: nm.data.toList :: ws.map (·.data.toList)) := HC.out.symm
      clear H2 HO HX hb HB R2
      cases hok : implAct x
      · have HN : Hid (∀ y, implDeed y = true → actT y ≠ t.data.toList) := act_nine HX3.out.2.2 HCT.out hok
        have hth := H3.out.1.th
        clear hok
        go_wp2_with (refine st_act rfl _ _ rfl _ rfl zeros rfl rfl hth (by simp [Value.oneCell']) ?_)
        exact sread_none H3.out.1 HN.out rfl rfl rfl
      · have HI : Hid (implDeed x = true ∧ deedAct x = x) := act_ok9 hok
        have HS : Hid (specAct x = true) := by rw [← impl_spec]; exact hok
        clear hok
        go_wp2_with (refine ld_act_want rfl _ rfl _ rfl _ R3 rfl ?_)
        refine (spec_act_text x a0 a1 c0 c1 _ HX3.out.1 HX3.out.2.1 HS.out HI.out.1 H3.out.1.tb).mono ?_
        rintro e w4 ⟨y, rfl, hy, hb⟩
        have H4 : Hid (SRead w w4 ∧ w.heap.size < w1.heap.size) := ⟨H3.out.1.next hb, H3.out.2⟩
        have HO4 : Hid (w4.ownsRow w1.heap.size 102 4 (.slice a0 x.sets.length c0) x.sets.length (x.sets.flatMap ASet.cells) ∧ w4.ownsRow w1.heap.size 28 7 (.slice a1 x.cols.length c1) x.cols.length (x.cols.flatMap ACol.cells)) := ⟨own_keep HO3.out.1 hb, own_keep HO3.out.2 hb⟩
        have HR : Hid (ActRd (verb.data.toList :: nm.data.toList :: ws.map (·.data.toList)) x) := HX3.out.2.2
        have HF : Hid x.fit := HX3.out.2.1
        have HY : Hid (y.data.toList = actT x) := hy
        have R4 := range_next HB3.out.2 HB3.out.1 hb
        clear H3 HO3 HX3 hy hb R3 HB3
        have hth := H4.out.1.th
        cases heq : (y.toList == t.toList)
        · have HN : Hid (∀ y, implDeed y = true → actT y ≠ t.data.toList) := act_no HR.out HCT.out (Or.inr (by rw [← HY.out]; exact not_list (beq_eq_false_iff_ne.1 heq)))
          go_wp2_with (refine st_act rfl _ _ rfl _ rfl zeros rfl rfl hth (by simp [Value.oneCell']) ?_)
          exact sread_none H4.out.1 HN.out rfl rfl rfl
        · have HE : Hid (actT x = t.data.toList) := by
            have h := list_of (beq_iff_eq.1 heq)
            rw [HY.out] at h
            exact h
          go_wp2_with (first | (refine ld_act rfl _ rfl _ rfl _ R4 rfl ?_) | (refine st_act rfl _ _ rfl _ rfl [.int .i64 x.kd, .string x.nm, .int .i64 x.id, .slice a0 x.sets.length c0, .slice a1 x.cols.length c1, .int .i64 x.g.kd, .string x.g.nm, .string x.g.nw, .string x.g.c.nm, .int .i64 x.g.c.kd, .bool x.g.c.nd, .bool x.g.c.oc, .int .i64 x.g.c.k, .int .i64 x.g.c.n, .string x.g.c.s, .string x.l.fr, .string x.l.co, .string x.l.tt, .int .i64 x.l.hw] rfl rfl hth (by simp [Value.oneCell']) ?_))
          exact sread_some H4.out.1 H4.out.2 HO4.out.1 HO4.out.2 (act_is HR.out HCT.out HI.out.1 HI.out.2 HE.out) HF.out rfl rfl rfl

end Go.Proofs.YtpcfebekkgfpjaaGreatDoor
