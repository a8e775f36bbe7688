/- The contracts of spec.l5Ends and spec.l5ReadCol, over the seat's translation. -/
import Derived.Test.YtpcfebekkgfpjaaGreatDoorArS5
import Derived.Test.YtpcfebekkgfpjaaGreatDoorG15
import Derived.Test.YtpcfebekkgfpjaaGreatDoorArP3
namespace Go.Proofs.YtpcfebekkgfpjaaGreatDoor
open Go.RowKit

/-- A byte taken from the end of a text, if it is there. -/
def endsB (c : UInt8) (l : Bs) : Bs × Bool := if l.getLast? = some c then (l.dropLast, true) else (l, false)
theorem ends_snoc (c : UInt8) (l : Bs) : endsB c (l ++ [c]) = (l, true) := by simp [endsB]
theorem ends_not {c b : UInt8} (h : b ≠ c) (l : Bs) : endsB c (l ++ [b]) = (l ++ [b], false) := by simp [endsB, h]

set_option maxHeartbeats 1000000 in
theorem spec_ends (s : ByteArray) (c : UInt8) (w : World) (hs : s.size ≤ 1048576) :
    Calls Tryz.prog 117 #[.string s, .int .u8 c.toNat] w fun e w' => ∃ x : ByteArray, e = .returned (.tuple #[.string x, .bool (endsB c s.data.toList).2]) ∧ x.data.toList = (endsB c s.data.toList).1 ∧ w' = w := by
  have hsl : s.data.toList.length = s.size := by simp
  by_cases h0 : s.size = 0
  · have hn : s.data.toList = [] := List.eq_nil_of_length_eq_zero (by omega)
    have hb : endsB c s.data.toList = ([], false) := by rw [hn]; simp [endsB]
    rw [hb]
    go_enter Tryz.func117, Tryz.ntmps117
    go_wp2_with fail
    go_ret2
    exact ⟨s, rfl, hn, rfl⟩
  · have h1 : (0 : Int) < s.size := by omega
    have hlast : s.data.toList.getLast? = some (s[s.size - 1]'(by omega)) := by
      rw [List.getLast?_eq_getElem?, hsl, List.getElem?_eq_getElem (by omega)]
      rfl
    have hw : IntKind.i64.wrap ((s.size : Int) - 1) = ((s.size - 1 : Nat) : Int) := by
      rw [show ((s.size : Int) - 1) = ((s.size - 1 : Nat) : Int) by omega]
      simp [IntKind.wrap, IntKind.bits, IntKind.signed]
      omega
    by_cases hb : s[s.size - 1]'(by omega) = c
    · have he : (((s[s.size - 1]'(by omega)).toNat : Int) == (c.toNat : Int)) = true := by rw [hb, beq_iff_eq]
      have hE : endsB c s.data.toList = (s.data.toList.dropLast, true) := by unfold endsB; rw [hlast, hb, if_pos rfl]
      rw [hE]
      go_enter Tryz.func117, Tryz.ntmps117
      go_wp2_with fail
      go_ret2
      refine ⟨_, rfl, ?_, rfl⟩
      rw [List.dropLast_eq_take, hsl, extract_all]
      simp
    · have he := ne_of_byte hb
      have hE : endsB c s.data.toList = (s.data.toList, false) := by
        unfold endsB
        rw [hlast, if_neg (fun e => hb (Option.some.inj e))]
      rw [hE]
      go_enter Tryz.func117, Tryz.ntmps117
      go_wp2_with fail
      go_ret2
      exact ⟨s, rfl, rfl, rfl⟩

theorem ends_le (c : UInt8) (l : Bs) : (endsB c l).1.length ≤ l.length := by
  unfold endsB
  split <;> simp
/-- A column's word ahead of what it is at first. -/
def headA (q : ACol) : Bs := q.nm.data.toList ++ 58 :: (kindB q.kd ++ ((if q.nd then [33] else []) ++ (if q.oc then [94] else [])))
theorem colW_head (q : ACol) : colW q = headA q ++ (if q.k = 0 then [] else 61 :: textV q.k q.n q.s) := by
  unfold colW headA
  simp
theorem head_is {q : ACol} (h : q.ok = true) : (61 : UInt8) ∉ headA q := by
  have hp := ok_parts h
  unfold headA
  simp only [List.mem_append, List.mem_cons, not_or]
  refine ⟨(plain_name hp.1).2.1, by decide, (plain_kind _).2.1, ?_, ?_⟩
  · cases q.nd <;> decide
  · cases q.oc <;> decide
theorem kind_last {q : ACol} (h : q.ok = true) : ∃ r b, kindB q.kd = r ++ [b] ∧ b ≠ 94 ∧ b ≠ 33 := by
  have hk := (ok_parts h).2.1
  simp only [kindOk, Bool.or_eq_true, beq_iff_eq] at hk
  rcases hk with hk | hk <;> rw [hk]
  · exact ⟨[110, 117], 109, rfl, by decide, by decide⟩
  · exact ⟨[116, 101, 120], 116, rfl, by decide, by decide⟩
theorem ends_once {q : ACol} (h : q.ok = true) : endsB 94 (headA q) = (q.nm.data.toList ++ 58 :: (kindB q.kd ++ (if q.nd then [33] else [])), q.oc) := by
  obtain ⟨r, b, hr, h94, _⟩ := kind_last h
  unfold headA
  cases q.oc
  · cases q.nd
    · have e : q.nm.data.toList ++ 58 :: (kindB q.kd ++ ((if false then [33] else []) ++ (if false then [94] else []))) = (q.nm.data.toList ++ 58 :: r) ++ [b] := by rw [hr]; simp
      rw [e, ends_not h94, ← e]
      simp
    · have e : q.nm.data.toList ++ 58 :: (kindB q.kd ++ ((if true then [33] else []) ++ (if false then [94] else []))) = (q.nm.data.toList ++ 58 :: kindB q.kd) ++ [33] := by simp
      rw [e, ends_not (by decide), ← e]
      simp
  · have e : q.nm.data.toList ++ 58 :: (kindB q.kd ++ ((if q.nd then [33] else []) ++ (if true then [94] else []))) = (q.nm.data.toList ++ 58 :: (kindB q.kd ++ (if q.nd then [33] else []))) ++ [94] := by simp
    rw [e, ends_snoc]
theorem ends_need {q : ACol} (h : q.ok = true) : endsB 33 (q.nm.data.toList ++ 58 :: (kindB q.kd ++ (if q.nd then [33] else []))) = (q.nm.data.toList ++ 58 :: kindB q.kd, q.nd) := by
  obtain ⟨r, b, hr, _, h33⟩ := kind_last h
  cases q.nd
  · have e : q.nm.data.toList ++ 58 :: (kindB q.kd ++ (if false then [33] else [])) = (q.nm.data.toList ++ 58 :: r) ++ [b] := by rw [hr]; simp
    rw [e, ends_not h33, ← e]
    simp
  · have e : q.nm.data.toList ++ 58 :: (kindB q.kd ++ (if true then [33] else [])) = (q.nm.data.toList ++ 58 :: kindB q.kd) ++ [33] := by simp
    rw [e, ends_snoc]
theorem cut_name {q : ACol} (h : q.ok = true) : cutB 58 (q.nm.data.toList ++ 58 :: kindB q.kd) = [q.nm.data.toList, kindB q.kd] := by
  rw [cutB_at _ (plain_name (ok_parts h).1).2.2.1, cutB_none (plain_kind _).2.2.1]

/-- What the specification reads of a word is what a column that is written so is. -/
theorem col_spec {l h d h1 h2 : Bs} {f nd oc : Bool} {ws : List ByteArray} {kd dk dn : Int} {dx : Bs} (hl : Lib.cut l [61] = (h, d, f)) (e1 : endsB 94 h = (h1, oc)) (e2 : endsB 33 h1 = (h2, nd)) (hw : ws.map (·.data.toList) = cutB 58 h2)
    (hk : ∀ x y, ws = [x, y] → ∀ q, kindOk q = true → y.data.toList = kindB q → kd = q) (hd : (f = false ∧ dk = 0 ∧ dn = 0 ∧ dx = []) ∨ (f = true ∧ ∃ b, readV d = (dk, dn, dx, b))) :
    ColRd l ⟨wAt ws 0, kd, nd, oc, dk, dn, ⟨dx.toArray⟩⟩ := by
  have l1 := cut_len1 l 61
  have l2 := cut_len l 61
  have l3 := ends_le 94 h
  have l4 := ends_le 33 h1
  rw [hl] at l1 l2
  rw [e1] at l3
  rw [e2] at l4
  refine ⟨⟨?_, ?_⟩, fun q hq he => ?_⟩
  · show (wAt ws 0).size ≤ _
    cases ws with
    | nil => exact Nat.zero_le _
    | cons x r =>
      have := cutB_le 58 h2 x.data.toList (by rw [← hw]; simp)
      show x.size ≤ _
      simp at this l1 l3 l4
      omega
  · show dx.toArray.size ≤ _
    rcases hd with ⟨_, _, _, rfl⟩ | ⟨_, b, hr⟩
    · exact Nat.zero_le _
    · have := readV_le d
      rw [hr] at this
      simp at this l2 ⊢
      omega
  · have hvo := (ok_parts hq).2.2
    have hA := head_is hq
    rw [he, colW_head] at hl
    have key : h = headA q ∧ dk = q.k ∧ dn = q.n ∧ (⟨dx.toArray⟩ : ByteArray) = q.s := by
      by_cases h0 : q.k = 0
      · rw [if_pos h0, List.append_nil, cut_no hA] at hl
        simp only [Prod.mk.injEq] at hl
        obtain ⟨rfl, rfl, rfl⟩ := hl
        rw [h0] at hvo
        obtain ⟨hn, hs⟩ := ok_none hvo
        rcases hd with ⟨_, rfl, rfl, rfl⟩ | ⟨hf, _⟩
        · exact ⟨rfl, h0.symm, hn.symm, hs.symm⟩
        · cases hf
      · rw [if_neg h0, cut_at hA] at hl
        simp only [Prod.mk.injEq] at hl
        obtain ⟨rfl, rfl, rfl⟩ := hl
        rcases hd with ⟨hf, _⟩ | ⟨_, b, hr⟩
        · cases hf
        · rw [read_text _ _ _ hvo] at hr
          simp only [Prod.mk.injEq] at hr
          exact ⟨rfl, hr.1.symm, hr.2.1.symm, by rw [← hr.2.2.1]⟩
    obtain ⟨rfl, k1, k2, k3⟩ := key
    rw [ends_once hq] at e1
    simp only [Prod.mk.injEq] at e1
    obtain ⟨rfl, rfl⟩ := e1
    rw [ends_need hq] at e2
    simp only [Prod.mk.injEq] at e2
    obtain ⟨rfl, rfl⟩ := e2
    rw [cut_name hq] at hw
    have hnm : wAt ws 0 = q.nm := bytes_same (wAt_of (i := 0) (by rw [hw]; rfl))
    have hkd : kd = q.kd := by
      match ws, hw with
      | [], hw => simp at hw
      | [x], hw => simp at hw
      | [x, y], hw =>
        simp at hw
        exact hk x y rfl _ (ok_parts hq).2.1 hw.2
      | x :: y :: z :: r, hw => simp at hw
    cases q
    simp_all

/-- A column that is read: its box and the answer's box lie in W, and W lies over w. -/
structure RdC (w : World) (c : ACol) (W : World) : Prop where
  bc : W.heap[w.heap.size + 1]? = some (.cells #[.string c.nm, .int .i64 c.kd, .bool c.nd, .bool c.oc, .int .i64 c.k, .int .i64 c.n, .string c.s] 28)
  br : W.heap[w.heap.size]? = some (.cells #[.string ⟨#[]⟩, .int .i64 0, .bool false, .bool false, .int .i64 0, .int .i64 0, .string ⟨#[]⟩] 28)
  bl : Below w.heap.size w W
theorem RdC.keep {w : World} {c : ACol} {W W' : World} (h : RdC w c W) (hb : Below W.heap.size W W') : RdC w c W' := ⟨blk_keep h.bc hb, blk_keep h.br hb, h.bl.trans (hb.mono h.bl.size)⟩
theorem RdC.set {w : World} {c d : ACol} {W : World} (h : RdC w c W) (o : Nat) (v : Value) (hv : (#[.string c.nm, .int .i64 c.kd, .bool c.nd, .bool c.oc, .int .i64 c.k, .int .i64 c.n, .string c.s] : Array Value).setIfInBounds o v = #[.string d.nm, .int .i64 d.kd, .bool d.nd, .bool d.oc, .int .i64 d.k, .int .i64 d.n, .string d.s]) : RdC w d (W.setCell ⟨w.heap.size + 1, o, none⟩ v) := by
  refine ⟨?_, ?_, h.bl.setCell (by show _ ≤ w.heap.size + 1; omega) _⟩
  · rw [← hv]; exact set_blk o v h.bc
  · rw [set_apart _ _ (by omega)]; exact h.br
theorem read_set_cut {l : Bs} {i : Nat} (h : (61 : UInt8) ∉ l.take i) (hi : i < l.length) (hc : l[i] = 61) : Lib.cut l [61] = (l.take i, l.drop (i + 1), true) := by
  have e : l = l.take i ++ 61 :: l.drop (i + 1) := by
    conv => lhs; rw [← List.take_append_drop i l]
    rw [List.drop_eq_getElem_cons hi, hc]
  conv => lhs; rw [e]
  exact cut_at h

theorem own_strs {W : World} {base : Nat} {v : Value} {x : ByteArray} {r : List ByteArray} (h : W.ownsRow base 9 1 v (x :: r).length ((x :: r).map Value.string)) : ∃ g cap, v = .slice (some ⟨g, 0, none⟩) (x :: r).length cap ∧ (∀ i y, (x :: r)[i]? = some y → W.cell? ⟨g, i, none⟩ = some (.string y)) ∧ g < W.heap.size ∧ (x :: r).length ≤ cap ∧ base ≤ g := by
  rcases h.2 with ⟨_, h3⟩ | ⟨b, cap, cur, rfl, hb, hblk, hn, hcp, _⟩
  · simp at h3
  · refine ⟨b, cap, rfl, fun i y hy => ?_, blk_lt hblk, hn, hb⟩
    have := World.ownsRow.cells (g := b) h rfl i (.string y) (by rw [List.getElem?_map, hy]; rfl)
    rw [Addr.add_mid, Nat.zero_add] at this
    exact this

set_option maxRecDepth 100000 in
set_option maxHeartbeats 2000000 in
theorem spec_read_col (t : ByteArray) (w : World) (ht : t.size ≤ 1048576) :
    Calls Tryz.prog 76 #[.string t] w fun e w' => ∃ c : ACol, e = .returned (.agg #[.string c.nm, .int .i64 c.kd, .bool c.nd, .bool c.oc, .int .i64 c.k, .int .i64 c.n, .string c.s]) ∧ ColRd t.data.toList c ∧ Below w.heap.size w w' := by
  have hsl : t.data.toList.length = t.size := by simp
  have H0 : Hid (RdC w ⟨⟨#[]⟩, 0, false, false, 0, 0, ⟨#[]⟩⟩ ((w.alloc (.cells #[.string ⟨#[]⟩, .int .i64 0, .bool false, .bool false, .int .i64 0, .int .i64 0, .string ⟨#[]⟩] 28)).alloc (.cells #[.string ⟨#[]⟩, .int .i64 0, .bool false, .bool false, .int .i64 0, .int .i64 0, .string ⟨#[]⟩] 28))) := by
    have h := blk_new (w.alloc (.cells #[.string ⟨#[]⟩, .int .i64 0, .bool false, .bool false, .int .i64 0, .int .i64 0, .string ⟨#[]⟩] 28)) (.cells #[.string ⟨#[]⟩, .int .i64 0, .bool false, .bool false, .int .i64 0, .int .i64 0, .string ⟨#[]⟩] 28)
    rw [size_alloc] at h
    exact ⟨h, blk_old _ (blk_new w _), ((Below.refl _ _).alloc (Nat.le_refl _) _).alloc (by simp) _⟩
  go_enter Tryz.func76, Tryz.ntmps76
  go_wp2_with fail
  generalize (w.alloc (.cells #[.string ⟨#[]⟩, .int .i64 0, .bool false, .bool false, .int .i64 0, .int .i64 0, .string ⟨#[]⟩] 28)).alloc (.cells #[.string ⟨#[]⟩, .int .i64 0, .bool false, .bool false, .int .i64 0, .int .i64 0, .string ⟨#[]⟩] 28) = W0 at *
  go_loopw [4] (fun i0 wr => ∃ i : Nat, wr = W0 ∧ i0 = .int .i64 i ∧ i ≤ t.size ∧ Hid ((61 : UInt8) ∉ t.data.toList.take i)) (fun i _ => t.size - (intOf i).toNat)
  case atStart => exact ⟨0, by first | rfl | trivial, rfl, Nat.zero_le _, (by simp : (61 : UInt8) ∉ t.data.toList.take 0)⟩
  case round =>
    obtain ⟨i, rfl, rfl, hi, hN⟩ := hrel
    by_cases hlt : i < t.size
    · by_cases hb : t[i] = 61
      · have he : ((t[i].toNat : Int) == 61) = true := by rw [hb]; rfl
        have HL : Hid (Lib.cut t.data.toList [61] = (t.data.toList.take i, t.data.toList.drop (i + 1), true)) := read_set_cut hN.out (by omega) hb
        clear hN
        go_wp2_with fail
        obtain ⟨dk, dn, dx, db, hrv⟩ : ∃ k n x b, readV (t.extract (i + 1) t.size).data.toList = (k, n, x, b) := ⟨_, _, _, _, rfl⟩
        refine (spec_read _ _ (by unfold maxLen; simp; omega) dk dn dx db hrv).mono ?_
        rintro e w1 ⟨rfl, hq⟩
        have HRV : Hid (readV (t.data.toList.drop (i + 1)) = (dk, dn, dx, db)) := by
          rw [extract_all, List.take_of_length_le (by simp)] at hrv
          exact hrv
        have H1 := H0.out.keep hq
        clear hrv hq H0
        have hc4 := cell_blk (o := 4) H1.bc rfl
        have hc5 := cell_blk (o := 5) H1.bc rfl
        have hc6 := cell_blk (o := 6) H1.bc rfl
        have hf4 := froz_blk 4 H1.bc
        have hf5 := froz_blk 5 H1.bc
        have hf6 := froz_blk 6 H1.bc
        go_wp2_with fail
        have HW : Hid (RdC w ⟨⟨#[]⟩, 0, false, false, dk, dn, ⟨dx.toArray⟩⟩ (((w1.setCell ⟨w.heap.size + 1, 4, none⟩ (.int .i64 dk)).setCell ⟨w.heap.size + 1, 5, none⟩ (.int .i64 dn)).setCell ⟨w.heap.size + 1, 6, none⟩ (.string ⟨dx.toArray⟩))) := ((H1.set (d := ⟨⟨#[]⟩, 0, false, false, dk, 0, ⟨#[]⟩⟩) 4 _ rfl).set (d := ⟨⟨#[]⟩, 0, false, false, dk, dn, ⟨#[]⟩⟩) 5 _ rfl).set 6 _ rfl
        clear H1 hc4 hc5 hc6 hf4 hf5 hf6
        generalize (((w1.setCell ⟨w.heap.size + 1, 4, none⟩ (.int .i64 dk)).setCell ⟨w.heap.size + 1, 5, none⟩ (.int .i64 dn)).setCell ⟨w.heap.size + 1, 6, none⟩ (.string ⟨dx.toArray⟩)) = WW at *
        obtain ⟨h1, oc, e1⟩ : ∃ h1 oc, endsB 94 (t.extract 0 i).data.toList = (h1, oc) := ⟨_, _, rfl⟩
        obtain ⟨h2, nd, e2⟩ : ∃ h2 nd, endsB 33 h1 = (h2, nd) := ⟨_, _, rfl⟩
        refine (spec_ends _ 94 _ (by simp; omega : (t.extract 0 i).size ≤ 1048576)).mono ?_
        rw [e1]
        rintro e w2 ⟨x1, rfl, hx1, hww⟩
        rw [hww]
        clear hww
        have E1 : Hid (endsB 94 (t.extract 0 i).data.toList = (h1, oc) ∧ x1.data.toList = h1 ∧ endsB 33 h1 = (h2, nd)) := ⟨e1, hx1, e2⟩
        have hx1s : x1.size ≤ 1048576 := by
          have h3 := ends_le 94 (t.extract 0 i).data.toList
          have h4 := (by simp; omega : (t.extract 0 i).size ≤ 1048576)
          rw [e1, ← hx1] at h3
          simp at h3 h4 ⊢
          omega
        clear e1 e2 hx1
        have hc3 := cell_blk (o := 3) HW.out.bc rfl
        have hf3 := froz_blk 3 HW.out.bc
        go_wp2_with fail
        have HW2 : Hid (RdC w ⟨⟨#[]⟩, 0, false, oc, dk, dn, ⟨dx.toArray⟩⟩ (WW.setCell ⟨w.heap.size + 1, 3, none⟩ (.bool oc))) := HW.out.set 3 _ rfl
        clear hc3 hf3 HW
        generalize WW.setCell ⟨w.heap.size + 1, 3, none⟩ (.bool oc) = W2 at *
        refine (spec_ends x1 33 _ hx1s).mono ?_
        rw [E1.out.2.1, E1.out.2.2]
        rintro e w3 ⟨x2, rfl, hx2, hww⟩
        rw [hww]
        clear hww
        have E2 : Hid (x2.data.toList = h2) := hx2
        have hx2s : x2.size ≤ 1048576 := by
          have h3 := ends_le 33 h1
          rw [E1.out.2.2, ← hx2, ← E1.out.2.1] at h3
          simp at h3
          omega
        clear hx2
        have hc2 := cell_blk (o := 2) HW2.out.bc rfl
        have hf2 := froz_blk 2 HW2.out.bc
        go_wp2_with fail
        have HW3 : Hid (RdC w ⟨⟨#[]⟩, 0, nd, oc, dk, dn, ⟨dx.toArray⟩⟩ (W2.setCell ⟨w.heap.size + 1, 2, none⟩ (.bool nd))) := HW2.out.set 2 _ rfl
        clear hc2 hf2 HW2
        generalize W2.setCell ⟨w.heap.size + 1, 2, none⟩ (.bool nd) = W3 at *
        refine (spec_cut x2 58 _ hx2s).mono ?_
        rintro e w4 ⟨v, ws, rfl, hO, hcut⟩
        have HW4 : Hid (RdC w ⟨⟨#[]⟩, 0, nd, oc, dk, dn, ⟨dx.toArray⟩⟩ w4) := HW3.out.keep hO.2
        have hlt4 : w.heap.size + 1 < W3.heap.size := blk_lt HW3.out.bc
        have HD : Hid (Lib.cut t.data.toList [61] = ((t.extract 0 i).data.toList, t.data.toList.drop (i + 1), true) ∧ readV (t.data.toList.drop (i + 1)) = (dk, dn, dx, db)) := ⟨by rw [HL.out, extract_all]; simp, HRV.out⟩
        have HCT : Hid (ws.map (·.data.toList) = cutB 58 h2) := by rw [E2.out] at hcut; exact hcut
        clear hcut HW3
        cases ws with
        | nil => exact absurd HCT.out.symm (cutB_ne _ _)
        | cons nm r =>
        obtain ⟨g, cap, rfl, hg, hgl, hcap, hgb⟩ := own_strs hO.1
        have hne : g ≠ w.heap.size + 1 := by omega
        clear hO hgb hlt4
        have hc0 := cell_blk (o := 0) HW4.out.bc rfl
        have hf0 := froz_blk 0 HW4.out.bc
        have hf1 := froz_blk 1 HW4.out.bc
        have hc1 := cell_blk (o := 1) HW4.out.bc rfl
        have hc2 := cell_blk (o := 2) HW4.out.bc rfl
        have hc3 := cell_blk (o := 3) HW4.out.bc rfl
        have hc4 := cell_blk (o := 4) HW4.out.bc rfl
        have hc5 := cell_blk (o := 5) HW4.out.bc rfl
        have hc6 := cell_blk (o := 6) HW4.out.bc rfl
        have hb0 := cell_blk (o := 0) HW4.out.br rfl
        have hb1 := cell_blk (o := 1) HW4.out.br rfl
        have hb2 := cell_blk (o := 2) HW4.out.br rfl
        have hb3 := cell_blk (o := 3) HW4.out.br rfl
        have hb4 := cell_blk (o := 4) HW4.out.br rfl
        have hb5 := cell_blk (o := 5) HW4.out.br rfl
        have hb6 := cell_blk (o := 6) HW4.out.br rfl
        have hr0 := froz_blk 0 HW4.out.br
        have hr1 := froz_blk 1 HW4.out.br
        have hr2 := froz_blk 2 HW4.out.br
        have hr3 := froz_blk 3 HW4.out.br
        have hr4 := froz_blk 4 HW4.out.br
        have hr5 := froz_blk 5 HW4.out.br
        have hr6 := froz_blk 6 HW4.out.br
        have HW5 : Hid (RdC w ⟨nm, 0, nd, oc, dk, dn, ⟨dx.toArray⟩⟩ (w4.setCell ⟨w.heap.size + 1, 0, none⟩ (.string nm))) := HW4.out.set 0 _ rfl
        have hg0 := hg 0 nm rfl
        match r, hg, hcap, HCT with
        | [], hg, hcap, HCT =>
          simp only [List.length_cons, List.length_nil]
          go_wp2_with fail
          have hT := there_blk 7 (Nat.le_refl _) HW5.out.br
          have hP := below_put HW5.out.bl (Nat.le_refl w.heap.size) 0 [.string nm, .int .i64 0, .bool nd, .bool oc, .int .i64 dk, .int .i64 dn, .string ⟨dx.toArray⟩]
          have hR := World.rangeAt_setCells_same (w4.setCell ⟨w.heap.size + 1, 0, none⟩ (.string nm)) w.heap.size 0 [.string nm, .int .i64 0, .bool nd, .bool oc, .int .i64 dk, .int .i64 dn, .string ⟨dx.toArray⟩] hT
          exact bodyPost_ret (results_cell Tryz.results76 rfl (run_loadVar_mid _ _ 0 _ _ _ hR Tryz.underlying28 rfl (by kernel_rfl))) rfl ⟨⟨nm, 0, nd, oc, dk, dn, ⟨dx.toArray⟩⟩, rfl, col_spec (ws := [nm]) HD.out.1 E1.out.1 E1.out.2.2 HCT.out (fun x y h => by simp at h) (Or.inr ⟨rfl, db, HD.out.2⟩), hP⟩
        | [y], hg, hcap, HCT =>
          simp only [List.length_cons, List.length_nil]
          have hg1 : (w4.setCell ⟨w.heap.size + 1, 0, none⟩ (.string nm)).cell? ⟨g, 1, none⟩ = some (.string y) := by rw [cell_set hne]; exact hg 1 y rfl
          go_wp2_with fail
          refine (spec_read_kind y _).mono ?_
          rintro e w5 ⟨k, rfl, hww, hk⟩
          rw [hww]
          have HK : Hid (∀ x z, [nm, y] = [x, z] → ∀ q, kindOk q = true → z.data.toList = kindB q → k = q) := fun x z h => by cases h; exact hk
          clear hww hk hg1
          have HW6 := HW5.out.set (d := ⟨nm, k, nd, oc, dk, dn, ⟨dx.toArray⟩⟩) 1 (.int .i64 k) rfl
          go_wp2_with fail
          have hT := there_blk 7 (Nat.le_refl _) HW6.br
          have hP := below_put HW6.bl (Nat.le_refl w.heap.size) 0 [.string nm, .int .i64 k, .bool nd, .bool oc, .int .i64 dk, .int .i64 dn, .string ⟨dx.toArray⟩]
          have hR := World.rangeAt_setCells_same ((w4.setCell ⟨w.heap.size + 1, 0, none⟩ (.string nm)).setCell ⟨w.heap.size + 1, 1, none⟩ (.int .i64 k)) w.heap.size 0 [.string nm, .int .i64 k, .bool nd, .bool oc, .int .i64 dk, .int .i64 dn, .string ⟨dx.toArray⟩] hT
          exact bodyPost_ret (results_cell Tryz.results76 rfl (run_loadVar_mid _ _ 0 _ _ _ hR Tryz.underlying28 rfl (by kernel_rfl))) rfl ⟨⟨nm, k, nd, oc, dk, dn, ⟨dx.toArray⟩⟩, rfl, col_spec (ws := [nm, y]) HD.out.1 E1.out.1 E1.out.2.2 HCT.out HK.out (Or.inr ⟨rfl, db, HD.out.2⟩), hP⟩
        | y :: z :: r, hg, hcap, HCT =>
          have hl0 : (0 : Int) < (r.length : Int) + 1 + 1 + 1 := by omega
          have hl2 : (((r.length : Int) + 1 + 1 + 1) == 2) = false := by rw [beq_eq_false_iff_ne]; omega
          simp only [List.length_cons]
          go_wp2_with fail
          have hT := there_blk 7 (Nat.le_refl _) HW5.out.br
          have hP := below_put HW5.out.bl (Nat.le_refl w.heap.size) 0 [.string nm, .int .i64 0, .bool nd, .bool oc, .int .i64 dk, .int .i64 dn, .string ⟨dx.toArray⟩]
          have hR := World.rangeAt_setCells_same (w4.setCell ⟨w.heap.size + 1, 0, none⟩ (.string nm)) w.heap.size 0 [.string nm, .int .i64 0, .bool nd, .bool oc, .int .i64 dk, .int .i64 dn, .string ⟨dx.toArray⟩] hT
          exact bodyPost_ret (results_cell Tryz.results76 rfl (run_loadVar_mid _ _ 0 _ _ _ hR Tryz.underlying28 rfl (by kernel_rfl))) rfl ⟨⟨nm, 0, nd, oc, dk, dn, ⟨dx.toArray⟩⟩, rfl, col_spec (ws := nm :: y :: z :: r) HD.out.1 E1.out.1 E1.out.2.2 HCT.out (fun x y h => by simp at h) (Or.inr ⟨rfl, db, HD.out.2⟩), hP⟩
      · have he : ((t[i].toNat : Int) == 61) = false := ne_of_byte hb
        have HN : Hid ((61 : UInt8) ∉ t.data.toList.take (i + 1)) := by
          show _ ∉ _
          rw [take_snoc t i hlt, List.mem_append, not_or]
          exact ⟨hN.out, fun e => hb (List.mem_singleton.1 e).symm⟩
        clear hN
        go_wp2_with fail
        go_roundw
        case rel => exact ⟨i + 1, by first | rfl | trivial, by go_num, by omega, HN⟩
        case measure => simp [intOf]; omega
    · have hit : i = t.size := by omega
      subst hit
      have HL : Hid (Lib.cut t.data.toList [61] = (t.data.toList, [], false)) := by
        have h := hN.out
        rw [List.take_of_length_le (by omega)] at h
        exact cut_no h
      clear hN
      go_wp2_with fail
      have HW : Hid (RdC w ⟨⟨#[]⟩, 0, false, false, 0, 0, ⟨#[]⟩⟩ wr) := H0
      clear H0
      generalize wr = WW at *
      obtain ⟨h1, oc, e1⟩ : ∃ h1 oc, endsB 94 (t).data.toList = (h1, oc) := ⟨_, _, rfl⟩
      obtain ⟨h2, nd, e2⟩ : ∃ h2 nd, endsB 33 h1 = (h2, nd) := ⟨_, _, rfl⟩
      refine (spec_ends _ 94 _ ht).mono ?_
      rw [e1]
      rintro e w2 ⟨x1, rfl, hx1, hww⟩
      rw [hww]
      clear hww
      have E1 : Hid (endsB 94 (t).data.toList = (h1, oc) ∧ x1.data.toList = h1 ∧ endsB 33 h1 = (h2, nd)) := ⟨e1, hx1, e2⟩
      have hx1s : x1.size ≤ 1048576 := by
        have h3 := ends_le 94 (t).data.toList
        have h4 := ht
        rw [e1, ← hx1] at h3
        simp at h3 h4 ⊢
        omega
      clear e1 e2 hx1
      have hc3 := cell_blk (o := 3) HW.out.bc rfl
      have hf3 := froz_blk 3 HW.out.bc
      go_wp2_with fail
      have HW2 : Hid (RdC w ⟨⟨#[]⟩, 0, false, oc, 0, 0, ⟨#[]⟩⟩ (WW.setCell ⟨w.heap.size + 1, 3, none⟩ (.bool oc))) := HW.out.set 3 _ rfl
      clear hc3 hf3 HW
      generalize WW.setCell ⟨w.heap.size + 1, 3, none⟩ (.bool oc) = W2 at *
      refine (spec_ends x1 33 _ hx1s).mono ?_
      rw [E1.out.2.1, E1.out.2.2]
      rintro e w3 ⟨x2, rfl, hx2, hww⟩
      rw [hww]
      clear hww
      have E2 : Hid (x2.data.toList = h2) := hx2
      have hx2s : x2.size ≤ 1048576 := by
        have h3 := ends_le 33 h1
        rw [E1.out.2.2, ← hx2, ← E1.out.2.1] at h3
        simp at h3
        omega
      clear hx2
      have hc2 := cell_blk (o := 2) HW2.out.bc rfl
      have hf2 := froz_blk 2 HW2.out.bc
      go_wp2_with fail
      have HW3 : Hid (RdC w ⟨⟨#[]⟩, 0, nd, oc, 0, 0, ⟨#[]⟩⟩ (W2.setCell ⟨w.heap.size + 1, 2, none⟩ (.bool nd))) := HW2.out.set 2 _ rfl
      clear hc2 hf2 HW2
      generalize W2.setCell ⟨w.heap.size + 1, 2, none⟩ (.bool nd) = W3 at *
      refine (spec_cut x2 58 _ hx2s).mono ?_
      rintro e w4 ⟨v, ws, rfl, hO, hcut⟩
      have HW4 : Hid (RdC w ⟨⟨#[]⟩, 0, nd, oc, 0, 0, ⟨#[]⟩⟩ w4) := HW3.out.keep hO.2
      have hlt4 : w.heap.size + 1 < W3.heap.size := blk_lt HW3.out.bc
      have HD : Hid (Lib.cut t.data.toList [61] = (t.data.toList, [], false)) := HL.out
      have HCT : Hid (ws.map (·.data.toList) = cutB 58 h2) := by rw [E2.out] at hcut; exact hcut
      clear hcut HW3
      cases ws with
      | nil => exact absurd HCT.out.symm (cutB_ne _ _)
      | cons nm r =>
      obtain ⟨g, cap, rfl, hg, hgl, hcap, hgb⟩ := own_strs hO.1
      have hne : g ≠ w.heap.size + 1 := by omega
      clear hO hgb hlt4
      have hc0 := cell_blk (o := 0) HW4.out.bc rfl
      have hf0 := froz_blk 0 HW4.out.bc
      have hf1 := froz_blk 1 HW4.out.bc
      have hc1 := cell_blk (o := 1) HW4.out.bc rfl
      have hc2 := cell_blk (o := 2) HW4.out.bc rfl
      have hc3 := cell_blk (o := 3) HW4.out.bc rfl
      have hc4 := cell_blk (o := 4) HW4.out.bc rfl
      have hc5 := cell_blk (o := 5) HW4.out.bc rfl
      have hc6 := cell_blk (o := 6) HW4.out.bc rfl
      have hb0 := cell_blk (o := 0) HW4.out.br rfl
      have hb1 := cell_blk (o := 1) HW4.out.br rfl
      have hb2 := cell_blk (o := 2) HW4.out.br rfl
      have hb3 := cell_blk (o := 3) HW4.out.br rfl
      have hb4 := cell_blk (o := 4) HW4.out.br rfl
      have hb5 := cell_blk (o := 5) HW4.out.br rfl
      have hb6 := cell_blk (o := 6) HW4.out.br rfl
      have hr0 := froz_blk 0 HW4.out.br
      have hr1 := froz_blk 1 HW4.out.br
      have hr2 := froz_blk 2 HW4.out.br
      have hr3 := froz_blk 3 HW4.out.br
      have hr4 := froz_blk 4 HW4.out.br
      have hr5 := froz_blk 5 HW4.out.br
      have hr6 := froz_blk 6 HW4.out.br
      have HW5 : Hid (RdC w ⟨nm, 0, nd, oc, 0, 0, ⟨#[]⟩⟩ (w4.setCell ⟨w.heap.size + 1, 0, none⟩ (.string nm))) := HW4.out.set 0 _ rfl
      have hg0 := hg 0 nm rfl
      match r, hg, hcap, HCT with
      | [], hg, hcap, HCT =>
        simp only [List.length_cons, List.length_nil]
        go_wp2_with fail
        have hT := there_blk 7 (Nat.le_refl _) HW5.out.br
        have hP := below_put HW5.out.bl (Nat.le_refl w.heap.size) 0 [.string nm, .int .i64 0, .bool nd, .bool oc, .int .i64 0, .int .i64 0, .string ⟨#[]⟩]
        have hR := World.rangeAt_setCells_same (w4.setCell ⟨w.heap.size + 1, 0, none⟩ (.string nm)) w.heap.size 0 [.string nm, .int .i64 0, .bool nd, .bool oc, .int .i64 0, .int .i64 0, .string ⟨#[]⟩] hT
        exact bodyPost_ret (results_cell Tryz.results76 rfl (run_loadVar_mid _ _ 0 _ _ _ hR Tryz.underlying28 rfl (by kernel_rfl))) rfl ⟨⟨nm, 0, nd, oc, 0, 0, ⟨#[]⟩⟩, rfl, col_spec (ws := [nm]) HD.out E1.out.1 E1.out.2.2 HCT.out (fun x y h => by simp at h) (Or.inl ⟨rfl, rfl, rfl, rfl⟩), hP⟩
      | [y], hg, hcap, HCT =>
        simp only [List.length_cons, List.length_nil]
        have hg1 : (w4.setCell ⟨w.heap.size + 1, 0, none⟩ (.string nm)).cell? ⟨g, 1, none⟩ = some (.string y) := by rw [cell_set hne]; exact hg 1 y rfl
        go_wp2_with fail
        refine (spec_read_kind y _).mono ?_
        rintro e w5 ⟨k, rfl, hww, hk⟩
        rw [hww]
        have HK : Hid (∀ x z, [nm, y] = [x, z] → ∀ q, kindOk q = true → z.data.toList = kindB q → k = q) := fun x z h => by cases h; exact hk
        clear hww hk hg1
        have HW6 := HW5.out.set (d := ⟨nm, k, nd, oc, 0, 0, ⟨#[]⟩⟩) 1 (.int .i64 k) rfl
        go_wp2_with fail
        have hT := there_blk 7 (Nat.le_refl _) HW6.br
        have hP := below_put HW6.bl (Nat.le_refl w.heap.size) 0 [.string nm, .int .i64 k, .bool nd, .bool oc, .int .i64 0, .int .i64 0, .string ⟨#[]⟩]
        have hR := World.rangeAt_setCells_same ((w4.setCell ⟨w.heap.size + 1, 0, none⟩ (.string nm)).setCell ⟨w.heap.size + 1, 1, none⟩ (.int .i64 k)) w.heap.size 0 [.string nm, .int .i64 k, .bool nd, .bool oc, .int .i64 0, .int .i64 0, .string ⟨#[]⟩] hT
        exact bodyPost_ret (results_cell Tryz.results76 rfl (run_loadVar_mid _ _ 0 _ _ _ hR Tryz.underlying28 rfl (by kernel_rfl))) rfl ⟨⟨nm, k, nd, oc, 0, 0, ⟨#[]⟩⟩, rfl, col_spec (ws := [nm, y]) HD.out E1.out.1 E1.out.2.2 HCT.out HK.out (Or.inl ⟨rfl, rfl, rfl, rfl⟩), hP⟩
      | y :: z :: r, hg, hcap, HCT =>
        have hl0 : (0 : Int) < (r.length : Int) + 1 + 1 + 1 := by omega
        have hl2 : (((r.length : Int) + 1 + 1 + 1) == 2) = false := by rw [beq_eq_false_iff_ne]; omega
        simp only [List.length_cons]
        go_wp2_with fail
        have hT := there_blk 7 (Nat.le_refl _) HW5.out.br
        have hP := below_put HW5.out.bl (Nat.le_refl w.heap.size) 0 [.string nm, .int .i64 0, .bool nd, .bool oc, .int .i64 0, .int .i64 0, .string ⟨#[]⟩]
        have hR := World.rangeAt_setCells_same (w4.setCell ⟨w.heap.size + 1, 0, none⟩ (.string nm)) w.heap.size 0 [.string nm, .int .i64 0, .bool nd, .bool oc, .int .i64 0, .int .i64 0, .string ⟨#[]⟩] hT
        exact bodyPost_ret (results_cell Tryz.results76 rfl (run_loadVar_mid _ _ 0 _ _ _ hR Tryz.underlying28 rfl (by kernel_rfl))) rfl ⟨⟨nm, 0, nd, oc, 0, 0, ⟨#[]⟩⟩, rfl, col_spec (ws := nm :: y :: z :: r) HD.out E1.out.1 E1.out.2.2 HCT.out (fun x y h => by simp at h) (Or.inl ⟨rfl, rfl, rfl, rfl⟩), hP⟩

end Go.Proofs.YtpcfebekkgfpjaaGreatDoor
