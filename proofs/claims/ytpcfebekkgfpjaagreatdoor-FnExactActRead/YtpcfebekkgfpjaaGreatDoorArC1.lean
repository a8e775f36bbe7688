/- The contract of impl.readCol, over the seat's translation. -/
import Derived.Test.YtpcfebekkgfpjaaGreatDoorG16
import Derived.Lib.OthersKept
import Derived.WalkMore
namespace Go.Proofs.YtpcfebekkgfpjaaGreatDoor
open Go.RowKit

theorem cell_blk {W : World} {B o : Nat} {cs : Array Value} {t : TypeId} {v : Value} (h : W.heap[B]? = some (.cells cs t)) (hv : cs[o]? = some v) : W.cell? ⟨B, o, none⟩ = some v := by
  simp only [World.cell?, h]
  simpa using hv
theorem froz_blk {W : World} {B : Nat} (o : Nat) {cs : Array Value} {t : TypeId} (h : W.heap[B]? = some (.cells cs t)) : W.frozen? ⟨B, o, none⟩ = false := by
  simp only [World.frozen?, h]
  simp
theorem set_blk {W : World} {B : Nat} (o : Nat) {cs : Array Value} {t : TypeId} (v : Value) (h : W.heap[B]? = some (.cells cs t)) : (W.setCell ⟨B, o, none⟩ v).heap[B]? = some (.cells (cs.setIfInBounds o v) t) := by
  obtain ⟨hlt, hk⟩ := Array.getElem?_eq_some_iff.1 h
  show (W.heap.modify B _)[B]? = _
  rw [Array.getElem?_eq_getElem (by rw [Array.size_modify]; exact hlt), Array.getElem_modify_self, hk]
  rfl
theorem set_apart {W : World} {B b : Nat} (o : Nat) (v : Value) (hne : b ≠ B) : (W.setCell ⟨B, o, none⟩ v).heap[b]? = W.heap[b]? := Below.heap_setCell W ⟨B, o, none⟩ v b hne
theorem blk_new (w : World) (o : Obj) : (w.alloc o).heap[w.heap.size]? = some o := by
  show (w.heap.push _)[w.heap.size]? = _
  simp
theorem blk_old {w : World} {b : Nat} {x : Obj} (o : Obj) (h : w.heap[b]? = some x) : (w.alloc o).heap[b]? = some x := by
  obtain ⟨hlt, hk⟩ := Array.getElem?_eq_some_iff.1 h
  show (w.heap.push _)[b]? = _
  rw [Array.getElem?_push_lt hlt, hk]
theorem blk_lt {w : World} {b : Nat} {x : Obj} (h : w.heap[b]? = some x) : b < w.heap.size := (Array.getElem?_eq_some_iff.1 h).1
theorem blk_keep {w w' : World} {b : Nat} {x : Obj} (h : w.heap[b]? = some x) (hb : Below w.heap.size w w') : w'.heap[b]? = some x := by
  rw [hb.block b (blk_lt h)]
  exact h

/-- A column that is read: its box, the answer's box and the text's iterator lie in W, and W lies over w. -/
structure RcS (w : World) (Bc Bi : Nat) (c : ACol) (rest : ByteArray) (pos : Nat) (W : World) : Prop where
  bc : W.heap[Bc]? = some (.cells #[.string c.nm, .int .i64 c.kd, .bool c.nd, .bool c.oc, .int .i64 c.k, .int .i64 c.n, .string c.s] 28)
  bi : W.heap[Bi]? = some (.stringIter rest pos)
  br : W.heap[w.heap.size]? = some (.cells #[.string ⟨#[]⟩, .int .i64 0, .bool false, .bool false, .int .i64 0, .int .i64 0, .string ⟨#[]⟩] 28)
  lt : w.heap.size < Bc ∧ Bc < Bi
  bl : Below w.heap.size w W
theorem RcS.iter {w : World} {Bc Bi : Nat} {c : ACol} {rest : ByteArray} {pos : Nat} {W : World} (h : RcS w Bc Bi c rest pos W) (p : Nat) : RcS w Bc Bi c rest p (W.iterAt Bi rest p) := by
  have := h.lt
  refine ⟨?_, Lib.iterAt_heap W Bi rest pos p h.bi, ?_, h.lt, Lib.below_iterAt h.bl (by omega) rest p⟩
  · rw [Lib.iterAt_other _ _ _ _ _ (by omega)]; exact h.bc
  · rw [Lib.iterAt_other _ _ _ _ _ (by omega)]; exact h.br
theorem RcS.setN {w : World} {Bc Bi : Nat} {c : ACol} {rest : ByteArray} {pos : Nat} {W : World} (h : RcS w Bc Bi c rest pos W) (b : Bool) : RcS w Bc Bi { c with nd := b } rest pos (W.setCell ⟨Bc, 2, none⟩ (.bool b)) := by
  have := h.lt
  refine ⟨set_blk 2 _ h.bc, ?_, ?_, h.lt, h.bl.setCell (by show _ ≤ Bc; omega) _⟩
  · rw [set_apart _ _ (by omega)]; exact h.bi
  · rw [set_apart _ _ (by omega)]; exact h.br
theorem RcS.setO {w : World} {Bc Bi : Nat} {c : ACol} {rest : ByteArray} {pos : Nat} {W : World} (h : RcS w Bc Bi c rest pos W) (b : Bool) : RcS w Bc Bi { c with oc := b } rest pos (W.setCell ⟨Bc, 3, none⟩ (.bool b)) := by
  have := h.lt
  refine ⟨set_blk 3 _ h.bc, ?_, ?_, h.lt, h.bl.setCell (by show _ ≤ Bc; omega) _⟩
  · rw [set_apart _ _ (by omega)]; exact h.bi
  · rw [set_apart _ _ (by omega)]; exact h.br
theorem RcS.setT {w : World} {Bc Bi : Nat} {c : ACol} {rest : ByteArray} {pos : Nat} {W : World} (h : RcS w Bc Bi c rest pos W) (k : Int) : RcS w Bc Bi { c with kd := k } rest pos (W.setCell ⟨Bc, 1, none⟩ (.int .i64 k)) := by
  have := h.lt
  refine ⟨set_blk 1 _ h.bc, ?_, ?_, h.lt, h.bl.setCell (by show _ ≤ Bc; omega) _⟩
  · rw [set_apart _ _ (by omega)]; exact h.bi
  · rw [set_apart _ _ (by omega)]; exact h.br
theorem there_blk {W : World} {B : Nat} {cs : Array Value} {t : TypeId} (n : Nat) (hn : n ≤ cs.size) (h : W.heap[B]? = some (.cells cs t)) : W.there B 0 n := fun j hj => by
  constructor
  · rw [cell_blk h (by rw [Nat.zero_add]; exact Array.getElem?_eq_getElem (by omega))]
    rfl
  · exact froz_blk _ h
theorem RcS.setD {w : World} {Bc Bi : Nat} {c : ACol} {rest : ByteArray} {pos : Nat} {W : World} (h : RcS w Bc Bi c rest pos W) (k n : Int) (s : ByteArray) : RcS w Bc Bi { c with k := k, n := n, s := s } rest pos (W.setCells Bc 4 [.int .i64 k, .int .i64 n, .string s]) := by
  have := h.lt
  have e : W.setCells Bc 4 [.int .i64 k, .int .i64 n, .string s] = ((W.setCell ⟨Bc, 4, none⟩ (.int .i64 k)).setCell ⟨Bc, 5, none⟩ (.int .i64 n)).setCell ⟨Bc, 6, none⟩ (.string s) := rfl
  rw [e]
  refine ⟨set_blk 6 _ (set_blk 5 _ (set_blk 4 _ h.bc)), ?_, ?_, h.lt, ((h.bl.setCell (by show _ ≤ Bc; omega) _).setCell (by show _ ≤ Bc; omega) _).setCell (by show _ ≤ Bc; omega) _⟩
  · rw [set_apart _ _ (by omega), set_apart _ _ (by omega), set_apart _ _ (by omega)]; exact h.bi
  · rw [set_apart _ _ (by omega), set_apart _ _ (by omega), set_apart _ _ (by omega)]; exact h.br
theorem RcS.keep {w : World} {Bc Bi : Nat} {c : ACol} {rest : ByteArray} {pos : Nat} {W W' : World} (h : RcS w Bc Bi c rest pos W) (hb : Below W.heap.size W W') : RcS w Bc Bi c rest pos W' :=
  ⟨blk_keep h.bc hb, blk_keep h.bi hb, blk_keep h.br hb, h.lt, h.bl.trans (hb.mono h.bl.size)⟩

/-- A word that some column that is right is written as. -/
def Told (l : Bs) : Prop := ∃ q : ACol, q.ok = true ∧ l = colW q
theorem told_cut {l : Bs} {a b : Bs} {f : Bool} (h : Told l) (hc : Lib.cut l [58] = (a, b, f)) : ∃ q : ACol, q.ok = true ∧ l = colW q ∧ a = q.nm.data.toList ∧ b = colRest q := by
  obtain ⟨q, hq, rfl⟩ := h
  rw [cut_col hq] at hc
  cases hc
  exact ⟨q, hq, rfl, rfl, rfl⟩

theorem ne_of_byte {b c : UInt8} (h : ¬ b = c) : ((b.toNat : Int) == (c.toNat : Int)) = false := by
  rw [beq_eq_false_iff_ne]
  exact fun e => h (UInt8.toNat_inj.1 (by omega))
theorem iterPos_of {w : World} {k : Nat} {s : ByteArray} {p : Nat} (h : w.heap[k]? = some (.stringIter s p)) : w.iterPos k = p := by simp [World.iterPos, h]
theorem told_low {l a b : Bs} {f : Bool} (h : Told l) (hc : Lib.cut l [58] = (a, b, f)) : low b := by
  obtain ⟨q, hq, _, _, rfl⟩ := told_cut h hc
  exact low_rest hq
/-- What was read is what was written. -/
theorem told_end {t a rest : ByteArray} {f nd oc : Bool} {ke : Nat} {v : Option Bs} (hc : Lib.cut t.data.toList [58] = (a.data.toList, rest.data.toList, f)) (hm : Told t.data.toList → (nd, oc, ke, v) = markB 0 false false 0 rest.data.toList)
    {q : ACol} (hq : q.ok = true) (he : t.data.toList = colW q) : a = q.nm ∧ nd = q.nd ∧ oc = q.oc ∧ rest.data.toList.take ke = kindB q.kd ∧ v = if q.k = 0 then none else some (textV q.k q.n q.s) := by
  have h := hm ⟨q, hq, he⟩
  rw [he, cut_col hq] at hc
  simp only [Prod.mk.injEq] at hc
  rw [← hc.2.1, mark_rest hq] at h
  simp only [Prod.mk.injEq] at h
  obtain ⟨h1, h2, h3, h4⟩ := h
  refine ⟨?_, h1, h2, ?_, h4⟩
  · rw [← bytes_eta a, ← hc.1, bytes_eta]
  · rw [← hc.2.1, h3]
    exact take_kind q

theorem extract_all (s : ByteArray) (i j : Nat) : (s.extract i j).data.toList = (s.data.toList.drop i).take (j - i) := by
  simp [ByteArray.data_extract, List.extract_eq_take_drop]
theorem col_end {t a rest : ByteArray} {f nd oc : Bool} {ke : Nat} {k dk dn : Int} {dx : Bs} (v : Option Bs) (hc : Lib.cut t.data.toList [58] = (a.data.toList, rest.data.toList, f)) (hm : Told t.data.toList → (nd, oc, ke, v) = markB 0 false false 0 rest.data.toList)
    (hk : ∀ q, kindOk q = true → (rest.extract 0 ke).data.toList = kindB q → k = q) (hv : (v = none ∧ dk = 0 ∧ dn = 0 ∧ dx = []) ∨ ∃ l b, v = some l ∧ readV l = (dk, dn, dx, b)) (hx : dx.length ≤ rest.data.toList.length) :
    ColRd t.data.toList ⟨a, k, nd, oc, dk, dn, ⟨dx.toArray⟩⟩ := by
  have h1 := cut_len1 t.data.toList 58
  have h2 := cut_len t.data.toList 58
  rw [hc] at h1 h2
  refine ⟨⟨?_, ?_⟩, fun q hq he => ?_⟩
  · show a.size ≤ _
    simpa using h1
  · show dx.toArray.size ≤ _
    simp at hx h2 ⊢
    omega
  · obtain ⟨e1, e2, e3, e4, e5⟩ := told_end hc hm hq he
    have e6 : k = q.kd := hk _ (ok_parts hq).2.1 (by rw [extract_all]; simpa using e4)
    have hvo := (ok_parts hq).2.2
    have e7 : dk = q.k ∧ dn = q.n ∧ (⟨dx.toArray⟩ : ByteArray) = q.s := by
      by_cases h0 : q.k = 0
      · rw [if_pos h0] at e5
        rw [h0] at hvo
        obtain ⟨hn, hs⟩ := ok_none hvo
        rcases hv with ⟨_, rfl, rfl, rfl⟩ | ⟨l, b, hl, _⟩
        · exact ⟨h0.symm, hn.symm, hs.symm⟩
        · rw [e5] at hl; cases hl
      · rw [if_neg h0] at e5
        rcases hv with ⟨hn, _⟩ | ⟨l, b, hl, hr⟩
        · rw [e5] at hn; cases hn
        · rw [e5] at hl
          cases hl
          rw [read_text _ _ _ hvo] at hr
          simp only [Prod.mk.injEq] at hr
          exact ⟨hr.1.symm, hr.2.1.symm, by rw [← hr.2.2.1]⟩
    obtain ⟨e8, e9, e10⟩ := e7
    cases q
    simp_all

theorem drop_at (s : ByteArray) (pos : Nat) (h : pos < s.size) : s.data.toList.drop pos = s[pos] :: s.data.toList.drop (pos + 1) := by
  rw [List.drop_eq_getElem_cons (by simpa using h)]
  rfl

/-- What is known at each rune. -/
def RcI (w : World) (Bc Bi : Nat) (t a rest : ByteArray) (nd oc : Bool) (ke pos : Nat) (W : World) : Prop :=
  RcS w Bc Bi ⟨a, 0, nd, oc, 0, 0, ⟨#[]⟩⟩ rest pos W ∧ ke ≤ rest.size ∧ (Told t.data.toList → markB pos nd oc ke (rest.data.toList.drop pos) = markB 0 false false 0 rest.data.toList)

set_option maxRecDepth 100000 in
set_option maxHeartbeats 2000000 in
theorem read_col_at (m : Int) (t a rest : ByteArray) (f : Bool) (w : World) (ht : t.size ≤ 1048576) (htab : Tb w) (hM : Mx m w) (hc : Lib.cut t.data.toList [58] = (a.data.toList, rest.data.toList, f)) :
    Calls Tryz.prog 53 #[.string t] w fun e w' => ∃ c : ACol, e = .returned (.agg #[.string c.nm, .int .i64 c.kd, .bool c.nd, .bool c.oc, .int .i64 c.k, .int .i64 c.n, .string c.s]) ∧ ColRd t.data.toList c ∧ Below w.heap.size w w' := by
  have HC : Hid (Lib.cut t.data.toList [58] = (a.data.toList, rest.data.toList, f)) := hc
  have hr : rest.size ≤ 1048576 := by
    have h1 : rest.data.toList.length ≤ t.data.toList.length := by
      have h := cut_len t.data.toList 58
      rw [hc] at h
      exact h
    simp at h1
    omega
  have HT : Hid (Tb w ∧ Mx m w) := ⟨htab, hM⟩
  clear htab hM hc
  go_enter Tryz.func53, Tryz.ntmps53
  have A0 : Below w.heap.size w (w.alloc (.cells #[.string ⟨#[]⟩, .int .i64 0, .bool false, .bool false, .int .i64 0, .int .i64 0, .string ⟨#[]⟩] 28)) := (Below.refl _ _).alloc (Nat.le_refl _) _
  have H0 : Hid (Mx m (w.alloc (.cells #[.string ⟨#[]⟩, .int .i64 0, .bool false, .bool false, .int .i64 0, .int .i64 0, .string ⟨#[]⟩] 28)) ∧ Below w.heap.size w (w.alloc (.cells #[.string ⟨#[]⟩, .int .i64 0, .bool false, .bool false, .int .i64 0, .int .i64 0, .string ⟨#[]⟩] 28)) ∧ (w.alloc (.cells #[.string ⟨#[]⟩, .int .i64 0, .bool false, .bool false, .int .i64 0, .int .i64 0, .string ⟨#[]⟩] 28)).heap[w.heap.size]? = some (.cells #[.string ⟨#[]⟩, .int .i64 0, .bool false, .bool false, .int .i64 0, .int .i64 0, .string ⟨#[]⟩] 28)) := ⟨HT.out.2.next A0, A0, blk_new w _⟩
  clear A0
  go_wp2_with fail
  generalize w.alloc (.cells #[.string ⟨#[]⟩, .int .i64 0, .bool false, .bool false, .int .i64 0, .int .i64 0, .string ⟨#[]⟩] 28) = W0 at *
  go_step3
  go_wp2_with (go_at_call 92; refine (cut_call 58 m t a rest f _ ht H0.out.1 HC.out).mono ?_; rintro e w1 ⟨rfl, hq⟩; have H1 : Hid (Below w.heap.size w w1 ∧ w1.heap[w.heap.size]? = some (.cells #[.string ⟨#[]⟩, .int .i64 0, .bool false, .bool false, .int .i64 0, .int .i64 0, .string ⟨#[]⟩] 28)) := ⟨H0.out.2.1.trans (hq.mono H0.out.2.1.size), blk_keep H0.out.2.2 hq⟩; clear hq H0)
  have hR : RcS w w1.heap.size (w1.heap.size + 1) ⟨a, 0, false, false, 0, 0, ⟨#[]⟩⟩ rest 0 ((w1.alloc (.cells #[.string a, .int .i64 0, .bool false, .bool false, .int .i64 0, .int .i64 0, .string ⟨#[]⟩] 28)).iter rest 0) := by
    have hlt := blk_lt H1.out.2
    have e : (w1.alloc (.cells #[.string a, .int .i64 0, .bool false, .bool false, .int .i64 0, .int .i64 0, .string ⟨#[]⟩] 28)).heap.size = w1.heap.size + 1 := by simp
    refine ⟨blk_old _ (blk_new w1 _), ?_, blk_old _ (blk_old _ H1.out.2), ⟨hlt, by omega⟩, ?_⟩
    · have h := World.iter_heap (w1.alloc (.cells #[.string a, .int .i64 0, .bool false, .bool false, .int .i64 0, .int .i64 0, .string ⟨#[]⟩] 28)) rest 0
      rw [e] at h
      exact h
    · exact (H1.out.1.alloc (by omega) _).alloc (by rw [e]; omega) _
  have HR : Hid (RcI w w1.heap.size (w1.heap.size + 1) t a rest false false 0 0 ((w1.alloc (.cells #[.string a, .int .i64 0, .bool false, .bool false, .int .i64 0, .int .i64 0, .string ⟨#[]⟩] 28)).iter rest 0)) := ⟨hR, Nat.zero_le _, fun _ => rfl⟩
  clear hR
  have HB : Hid (w1.heap.size + 1 = w1.heap.size + 1) := rfl
  go_step3
  go_wp2_with fail
  go_loopw [7, 8, 9] (fun v7 v8 v9 wr => ∃ (nd oc : Bool) (ke pos : Nat), v7 = .int .i64 ke ∧ Hid (RcI w w1.heap.size (w1.heap.size + 1) t a rest nd oc ke pos wr)) (fun _ _ _ wr => rest.size - wr.iterPos (w1.heap.size + 1))
  case atStart => exact ⟨false, false, 0, 0, rfl, HR⟩
  case round =>
    obtain ⟨nd, oc, ke, pos, rfl, hH⟩ := hrel
    have hlt := hH.out.1.lt
    have hpo : Hid (wr.iterPos (w1.heap.size + 1) = pos) := iterPos_of hH.out.1.bi
    by_cases hp : pos < rest.size
    · by_cases hasc : rest[pos].toNat < 128
      · have hnx : ∀ ty, (Instr.next (.pointer (some ⟨w1.heap.size + 1, 0, none⟩)) true ty).run Tryz.prog wr = _ := fun ty => Lib.run_next_ascii_at wr (w1.heap.size + 1) rest pos ty hH.out.1.bi hp hasc
        have H2 : Hid (RcS w w1.heap.size (w1.heap.size + 1) ⟨a, 0, nd, oc, 0, 0, ⟨#[]⟩⟩ rest (pos + 1) (wr.iterAt (w1.heap.size + 1) rest (pos + 1))) := hH.out.1.iter (pos + 1)
        have HM : Hid (ke ≤ rest.size ∧ (Told t.data.toList → markB pos nd oc ke (rest[pos] :: rest.data.toList.drop (pos + 1)) = markB 0 false false 0 rest.data.toList)) := ⟨hH.out.2.1, fun h => by rw [← drop_at rest pos hp]; exact hH.out.2.2 h⟩
        clear hH
        generalize wr.iterAt (w1.heap.size + 1) rest (pos + 1) = W at *
        have hc0 := cell_blk (o := 2) H2.out.bc rfl
        have hf0 := froz_blk 2 H2.out.bc
        have hc1 := cell_blk (o := 3) H2.out.bc rfl
        have hf1 := froz_blk 3 H2.out.bc
        by_cases h33 : rest[pos] = 33
        · have e33 : ((rest[pos].toNat : Int) == 33) = true := by rw [h33]; rfl
          go_wp2_with fail
          go_roundw
          case rel => exact ⟨true, oc, ke, pos + 1, rfl, ⟨H2.out.setN true, HM.out.1, fun h => by rw [← HM.out.2 h, mark_cons, if_pos h33]⟩⟩
          case measure => rw [iterPos_of (H2.out.setN true).bi, hpo.out]; omega
        have e33 : ((rest[pos].toNat : Int) == 33) = false := ne_of_byte h33
        by_cases h94 : rest[pos] = 94
        · have e94 : ((rest[pos].toNat : Int) == 94) = true := by rw [h94]; rfl
          go_wp2_with fail
          go_roundw
          case rel => exact ⟨nd, true, ke, pos + 1, rfl, ⟨H2.out.setO true, HM.out.1, fun h => by rw [← HM.out.2 h, mark_cons, if_neg h33, if_pos h94]⟩⟩
          case measure => rw [iterPos_of (H2.out.setO true).bi, hpo.out]; omega
        have e94 : ((rest[pos].toNat : Int) == 94) = false := ne_of_byte h94
        by_cases h61 : rest[pos] = 61
        · have e61 : ((rest[pos].toNat : Int) == 61) = true := by rw [h61]; rfl
          have HV : Hid (ke ≤ rest.size ∧ (Told t.data.toList → (nd, oc, ke, some (rest.data.toList.drop (pos + 1))) = markB 0 false false 0 rest.data.toList)) := ⟨HM.out.1, fun h => by rw [← HM.out.2 h, mark_cons, if_neg h33, if_neg h94, if_pos h61]⟩
          clear HM
          have HTW : Hid (Tb W) := tb_next HT.out.1 H2.out.bl
          go_wp2_with fail
          obtain ⟨dk, dn, dx, db, hrv⟩ : ∃ k n x b, readV (rest.extract (pos + 1) rest.size).data.toList = (k, n, x, b) := ⟨_, _, _, _, rfl⟩
          refine (impl_read _ _ (by unfold maxLen; simp; omega) HTW.out dk dn dx db hrv).mono ?_
          rintro e w2 ⟨rfl, hq⟩
          have H3 : Hid (RcS w w1.heap.size (w1.heap.size + 1) ⟨a, 0, nd, oc, 0, 0, ⟨#[]⟩⟩ rest (pos + 1) w2) := H2.out.keep hq
          have HRV : Hid (readV (rest.extract (pos + 1) rest.size).data.toList = (dk, dn, dx, db)) := hrv
          clear hq H2 hrv HTW
          clear hc0 hc1 hf0 hf1
          have hd0 := cell_blk (o := 0) H3.out.bc rfl
          have hd1 := cell_blk (o := 1) H3.out.bc rfl
          have hd2 := cell_blk (o := 2) H3.out.bc rfl
          have hd3 := cell_blk (o := 3) H3.out.bc rfl
          have hd4 := cell_blk (o := 4) H3.out.bc rfl
          have hd5 := cell_blk (o := 5) H3.out.bc rfl
          have hd6 := cell_blk (o := 6) H3.out.bc rfl
          have hj4 := froz_blk 4 H3.out.bc
          have hj5 := froz_blk 5 H3.out.bc
          have hj6 := froz_blk 6 H3.out.bc
          have hke := HV.out.1
          go_wp2_with fail
          refine (read_kind _ _).mono ?_
          rintro e w3 ⟨k, rfl, rfl, hk⟩
          have HK : Hid (∀ q, kindOk q = true → (rest.extract 0 ke).data.toList = kindB q → k = q) := hk
          have H4 : Hid (RcS w w1.heap.size (w1.heap.size + 1) ⟨a, 0, nd, oc, dk, dn, ⟨dx.toArray⟩⟩ rest (pos + 1) (((w2.setCell ⟨w1.heap.size, 4, none⟩ (.int .i64 dk)).setCell ⟨w1.heap.size, 5, none⟩ (.int .i64 dn)).setCell ⟨w1.heap.size, 6, none⟩ (.string ⟨dx.toArray⟩))) := H3.out.setD dk dn ⟨dx.toArray⟩
          clear hk hd0 hd1 hd2 hd3 hd4 hd5 hd6 hj4 hj5 hj6 H3
          generalize (((w2.setCell ⟨w1.heap.size, 4, none⟩ (.int .i64 dk)).setCell ⟨w1.heap.size, 5, none⟩ (.int .i64 dn)).setCell ⟨w1.heap.size, 6, none⟩ (.string ⟨dx.toArray⟩)) = w3 at *
          have hc0 := cell_blk (o := 0) H4.out.bc rfl
          have hc1 := cell_blk (o := 1) H4.out.bc rfl
          have hc2 := cell_blk (o := 2) H4.out.bc rfl
          have hc3 := cell_blk (o := 3) H4.out.bc rfl
          have hc4 := cell_blk (o := 4) H4.out.bc rfl
          have hc5 := cell_blk (o := 5) H4.out.bc rfl
          have hc6 := cell_blk (o := 6) H4.out.bc rfl
          have hf1 := froz_blk 1 H4.out.bc
          have hb0 := cell_blk (o := 0) H4.out.br rfl
          have hb1 := cell_blk (o := 1) H4.out.br rfl
          have hb2 := cell_blk (o := 2) H4.out.br rfl
          have hb3 := cell_blk (o := 3) H4.out.br rfl
          have hb4 := cell_blk (o := 4) H4.out.br rfl
          have hb5 := cell_blk (o := 5) H4.out.br rfl
          have hb6 := cell_blk (o := 6) H4.out.br rfl
          have hg0 := froz_blk 0 H4.out.br
          have hg1 := froz_blk 1 H4.out.br
          have hg2 := froz_blk 2 H4.out.br
          have hg3 := froz_blk 3 H4.out.br
          have hg4 := froz_blk 4 H4.out.br
          have hg5 := froz_blk 5 H4.out.br
          have hg6 := froz_blk 6 H4.out.br
          go_wp2_with fail
          have H5 := H4.out.setT k
          have hT := there_blk 7 (Nat.le_refl _) H5.br
          have hP := below_put H5.bl (Nat.le_refl w.heap.size) 0 [.string a, .int .i64 k, .bool nd, .bool oc, .int .i64 dk, .int .i64 dn, .string ⟨dx.toArray⟩]
          have hR := World.rangeAt_setCells_same (w3.setCell ⟨w1.heap.size, 1, none⟩ (.int .i64 k)) w.heap.size 0 [.string a, .int .i64 k, .bool nd, .bool oc, .int .i64 dk, .int .i64 dn, .string ⟨dx.toArray⟩] hT
          have hdr : (rest.extract (pos + 1) rest.size).data.toList = rest.data.toList.drop (pos + 1) := by
            rw [extract_all]
            exact List.take_of_length_le (by simp)
          have hx : dx.length ≤ rest.data.toList.length := by
            have h1 := readV_le (rest.extract (pos + 1) rest.size).data.toList
            rw [HRV.out] at h1
            rw [extract_all] at h1
            simp at h1 ⊢
            omega
          rw [Exit.noGoto_ret]
          exact bodyPost_ret (results_cell Tryz.results53 rfl (run_loadVar_mid _ _ 0 _ _ _ hR Tryz.underlying28 rfl (by kernel_rfl))) rfl ⟨⟨a, k, nd, oc, dk, dn, ⟨dx.toArray⟩⟩, rfl, col_end (some (rest.data.toList.drop (pos + 1))) HC.out HV.out.2 HK.out (Or.inr ⟨_, db, rfl, by rw [← hdr]; exact HRV.out⟩) hx, hP⟩
        have e61 : ((rest[pos].toNat : Int) == 61) = false := ne_of_byte h61
        go_wp2_with fail
        go_roundw
        case rel => exact ⟨nd, oc, pos + 1, pos + 1, by go_num, ⟨H2.out, by omega, fun h => by rw [← HM.out.2 h, mark_cons, if_neg h33, if_neg h94, if_neg h61]⟩⟩
        case measure => rw [iterPos_of H2.out.bi, hpo.out]; omega
      · have hd := (decode_high rest pos hp (by omega)).1
        have hnx : ∀ ty, (Instr.next (.pointer (some ⟨w1.heap.size + 1, 0, none⟩)) true ty).run Tryz.prog wr = _ := fun ty => Lib.run_next_any_at wr (w1.heap.size + 1) rest pos ty hH.out.1.bi hp
        have hw := (decode_high rest pos hp (by omega)).2
        revert hd hnx hw
        generalize (Utf8.decode rest pos).1 = r
        generalize (Utf8.decode rest pos).2 = n
        intro hd hnx hw
        have H2 : Hid (RcI w w1.heap.size (w1.heap.size + 1) t a rest nd oc (pos + 1) (pos + n) (wr.iterAt (w1.heap.size + 1) rest (pos + n))) := ⟨hH.out.1.iter (pos + n), by omega, fun h => absurd (told_low h HC.out rest[pos] (by simp [ByteArray.getElem_eq_getElem_data])) (by omega)⟩
        clear hH
        generalize wr.iterAt (w1.heap.size + 1) rest (pos + n) = W at *
        have e33 : ((r : Int) == 33) = false := by rw [beq_eq_false_iff_ne]; omega
        have e94 : ((r : Int) == 94) = false := by rw [beq_eq_false_iff_ne]; omega
        have e61 : ((r : Int) == 61) = false := by rw [beq_eq_false_iff_ne]; omega
        go_wp2_with fail
        go_roundw
        case rel => exact ⟨nd, oc, pos + 1, pos + n, by go_num, H2⟩
        case measure => rw [iterPos_of H2.out.1.bi, hpo.out]; omega
    · have hnx : ∀ ty, (Instr.next (.pointer (some ⟨w1.heap.size + 1, 0, none⟩)) true ty).run Tryz.prog wr = _ := fun ty => Lib.run_next_end_at wr (w1.heap.size + 1) rest pos ty hH.out.1.bi hp
      have hke := hH.out.2.1
      have HV : Hid (Told t.data.toList → (nd, oc, ke, none) = markB 0 false false 0 rest.data.toList) := fun h => by
        have h2 := hH.out.2.2 h
        rw [List.drop_eq_nil_of_le (by simpa using hp)] at h2
        exact h2
      have H2 : Hid (RcS w w1.heap.size (w1.heap.size + 1) ⟨a, 0, nd, oc, 0, 0, ⟨#[]⟩⟩ rest pos wr) := hH.out.1
      clear hH
      go_wp2_with fail
      refine (read_kind _ _).mono ?_
      rintro e w2 ⟨k, rfl, rfl, hk⟩
      have HK : Hid (∀ q, kindOk q = true → (rest.extract 0 ke).data.toList = kindB q → k = q) := hk
      clear hk
      have hc0 := cell_blk (o := 0) H2.out.bc rfl
      have hc1 := cell_blk (o := 1) H2.out.bc rfl
      have hc2 := cell_blk (o := 2) H2.out.bc rfl
      have hc3 := cell_blk (o := 3) H2.out.bc rfl
      have hc4 := cell_blk (o := 4) H2.out.bc rfl
      have hc5 := cell_blk (o := 5) H2.out.bc rfl
      have hc6 := cell_blk (o := 6) H2.out.bc rfl
      have hf1 := froz_blk 1 H2.out.bc
      have hb0 := cell_blk (o := 0) H2.out.br rfl
      have hb1 := cell_blk (o := 1) H2.out.br rfl
      have hb2 := cell_blk (o := 2) H2.out.br rfl
      have hb3 := cell_blk (o := 3) H2.out.br rfl
      have hb4 := cell_blk (o := 4) H2.out.br rfl
      have hb5 := cell_blk (o := 5) H2.out.br rfl
      have hb6 := cell_blk (o := 6) H2.out.br rfl
      have hg0 := froz_blk 0 H2.out.br
      have hg1 := froz_blk 1 H2.out.br
      have hg2 := froz_blk 2 H2.out.br
      have hg3 := froz_blk 3 H2.out.br
      have hg4 := froz_blk 4 H2.out.br
      have hg5 := froz_blk 5 H2.out.br
      have hg6 := froz_blk 6 H2.out.br
      go_wp2_with fail
      have H3 := H2.out.setT k
      have hT := there_blk 7 (Nat.le_refl _) H3.br
      have hP := below_put H3.bl (Nat.le_refl w.heap.size) 0 [.string a, .int .i64 k, .bool nd, .bool oc, .int .i64 0, .int .i64 0, .string ⟨#[]⟩]
      have hR := World.rangeAt_setCells_same (w2.setCell ⟨w1.heap.size, 1, none⟩ (.int .i64 k)) w.heap.size 0 [.string a, .int .i64 k, .bool nd, .bool oc, .int .i64 0, .int .i64 0, .string ⟨#[]⟩] hT
      rw [Exit.noGoto_ret]
      exact bodyPost_ret (results_cell Tryz.results53 rfl (run_loadVar_mid _ _ 0 _ _ _ hR Tryz.underlying28 rfl (by kernel_rfl))) rfl ⟨⟨a, k, nd, oc, 0, 0, ⟨#[]⟩⟩, rfl, col_end none HC.out HV.out HK.out (Or.inl ⟨rfl, rfl, rfl, rfl⟩) (Nat.zero_le _), hP⟩
theorem read_col (m : Int) (t : ByteArray) (w : World) (ht : t.size ≤ 1048576) (htab : Tb w) (hM : Mx m w) :
    Calls Tryz.prog 53 #[.string t] w fun e w' => ∃ c : ACol, e = .returned (.agg #[.string c.nm, .int .i64 c.kd, .bool c.nd, .bool c.oc, .int .i64 c.k, .int .i64 c.n, .string c.s]) ∧ ColRd t.data.toList c ∧ Below w.heap.size w w' :=
  read_col_at m t ⟨(Lib.cut t.data.toList [58]).1.toArray⟩ ⟨(Lib.cut t.data.toList [58]).2.1.toArray⟩ _ w ht htab hM rfl

end Go.Proofs.YtpcfebekkgfpjaaGreatDoor
