/- Lists of any address marked and held: the contracts of laws.markAct and laws.heldAct. Over the seat's translation. -/
import Derived.Test.YtpcfebekkgfpjaaGreatDoorG04
import Derived.Test.YtpcfebekkgfpjaaGreatDoorAcI2
import Derived.Laws.OwnMore
import Derived.Lib.ItoaNum
import Derived.Lib.Strings
namespace Go.Proofs.YtpcfebekkgfpjaaGreatDoor
open Go.RowKit

/-- n places of k cells that may be written, from where the slice begins; or none. -/
def Slot (z : Nat) (W : World) (a : Option Addr) (n : Nat) : Prop := n = 0 ∨ ∃ B, a = some ⟨B, 0, none⟩ ∧ B < W.heap.size ∧ W.there B 0 (n * z)
/-- The slice begins at C or behind; or has nothing. -/
def Far (C : Nat) (a : Option Addr) (n : Nat) : Prop := n = 0 ∨ ∃ B, a = some ⟨B, 0, none⟩ ∧ C ≤ B
theorem Slot.next {z : Nat} {W W' : World} {a : Option Addr} {n : Nat} (h : Slot z W a n) (hb : Below W.heap.size W W') : Slot z W' a n := by
  rcases h with h | ⟨B, h1, h2, h3⟩
  · exact Or.inl h
  · exact Or.inr ⟨B, h1, Nat.lt_of_lt_of_le h2 hb.size, there_next h3 h2 hb⟩
theorem own_slot {W : World} {base : Nat} {e : TypeId} {z : Nat} {a : Option Addr} {cap n : Nat} {xs : List Value} (h : W.ownsRow base e z (.slice a n cap) n xs) : Slot z W a n ∧ Far base a n := by
  have hl := h.1
  rcases h.2 with ⟨_, h2⟩ | ⟨g, cp, cur, hv, hg, hblk, _⟩
  · exact ⟨Or.inl h2, Or.inl h2⟩
  · injection hv with e1 e2 e3
    subst e1
    have hlt : g < W.heap.size := (Array.getElem?_eq_some_iff.1 hblk).1
    refine ⟨Or.inr ⟨g, rfl, hlt, fun j hj => ⟨?_, World.ownsRow.frozenAt h _⟩⟩, Or.inr ⟨g, rfl, hg⟩⟩
    rw [Nat.zero_add, World.ownsRow.cellAt h j hj, List.getElem?_eq_getElem (by omega)]
    rfl
/-- Marks of columns, of values told, from k on lie there. -/
def MarkC (W : World) (a : Option Addr) (n k : Nat) : Prop := n = 0 ∨ ∃ B, a = some ⟨B, 0, none⟩ ∧ B < W.heap.size ∧ ∀ j, j < n → W.rangeAt B (j * 7) (mkCol (k + 7 * j)).cells
def MarkS (W : World) (a : Option Addr) (n k : Nat) : Prop := n = 0 ∨ ∃ B, a = some ⟨B, 0, none⟩ ∧ B < W.heap.size ∧ ∀ j, j < n → W.rangeAt B (j * 4) (mkSet (k + 4 * j)).cells
/-- Only the block where the slice begins has turned; none, where it has nothing. -/
def Turned (a : Option Addr) (n : Nat) (W W' : World) : Prop := (n = 0 → Below W.heap.size W W') ∧ (n ≠ 0 → ∃ B, a = some ⟨B, 0, none⟩ ∧ Turn B W W')
theorem Turned.below {a : Option Addr} {n C : Nat} {W W' : World} (h : Turned a n W W') (hC : C ≤ W.heap.size) (hF : Far C a n) : Below C W W' := by
  by_cases h0 : n = 0
  · exact (h.1 h0).mono hC
  · obtain ⟨B, e, ht⟩ := h.2 h0
    obtain ⟨B', e', hl⟩ := hF.resolve_left h0
    subst e
    cases e'
    exact ht.below hl hC
theorem Turned.range {a : Option Addr} {n b : Nat} {cs : List Value} {W W' : World} (h : Turned a n W W') (hr : W.rangeAt b 0 cs) (hb : b < W.heap.size) (hF : n = 0 ∨ ∃ B, a = some ⟨B, 0, none⟩ ∧ B ≠ b) : W'.rangeAt b 0 cs := by
  by_cases h0 : n = 0
  · exact range_next hr hb (h.1 h0)
  · obtain ⟨B, e, ht⟩ := h.2 h0
    obtain ⟨B', e', hl⟩ := hF.resolve_left h0
    subst e
    cases e'
    intro j v hv
    rw [ht.cell hb (Ne.symm hl)]
    exact hr j v hv
theorem Turned.slot {a c : Option Addr} {n k z : Nat} {W W' : World} (h : Turned a n W W') (hS : Slot z W c k) (h0 : n = 0 ∨ k = 0) : Slot z W' c k := by
  rcases h0 with h0 | h0
  · exact hS.next (h.1 h0)
  · exact Or.inl h0
theorem MarkC.next {W W' : World} {a : Option Addr} {n k : Nat} (h : MarkC W a n k) (hb : Below W.heap.size W W') : MarkC W' a n k := by
  rcases h with h | ⟨B, h1, h2, h3⟩
  · exact Or.inl h
  · exact Or.inr ⟨B, h1, Nat.lt_of_lt_of_le h2 hb.size, fun j hj x v hv => by rw [(bcell hb).1 _ _ h2]; exact h3 j hj x v hv⟩
theorem MarkS.next {W W' : World} {a : Option Addr} {n k : Nat} (h : MarkS W a n k) (hb : Below W.heap.size W W') : MarkS W' a n k := by
  rcases h with h | ⟨B, h1, h2, h3⟩
  · exact Or.inl h
  · exact Or.inr ⟨B, h1, Nat.lt_of_lt_of_le h2 hb.size, fun j hj x v hv => by rw [(bcell hb).1 _ _ h2]; exact h3 j hj x v hv⟩

set_option maxRecDepth 100000 in
theorem mark_cols0 (a : Option Addr) (cap k : Nat) (w : World) (_hk : k ≤ 100000000) : Calls Tryz.prog 44 #[.slice a 0 cap, .int .i64 k] w fun e w' => e = .returned (.int .i64 k) ∧ Below w.heap.size w w' := by
  go_enter Tryz.func44, Tryz.ntmps44
  go_wp2_with fail
  go_loopw [1, 5] (fun kv iv wr => iv = .int .i64 0 ∧ kv = .int .i64 k ∧ Hid (Below w.heap.size w wr)) (fun _ _ _ => 0)
  case atStart => exact ⟨rfl, rfl, Below.refl _ _⟩
  case round =>
    obtain ⟨rfl, rfl, hH⟩ := hrel
    go_wp2_with fail
    go_ret
    exact ⟨rfl, hH.out⟩
set_option maxRecDepth 100000 in
theorem mark_sets0 (a : Option Addr) (cap k : Nat) (w : World) (_hk : k ≤ 100000000) : Calls Tryz.prog 43 #[.slice a 0 cap, .int .i64 k] w fun e w' => e = .returned (.int .i64 k) ∧ Below w.heap.size w w' := by
  go_enter Tryz.func43, Tryz.ntmps43
  go_wp2_with fail
  go_loopw [1, 5] (fun kv iv wr => iv = .int .i64 0 ∧ kv = .int .i64 k ∧ Hid (Below w.heap.size w wr)) (fun _ _ _ => 0)
  case atStart => exact ⟨rfl, rfl, Below.refl _ _⟩
  case round =>
    obtain ⟨rfl, rfl, hH⟩ := hrel
    go_wp2_with fail
    go_ret
    exact ⟨rfl, hH.out⟩
set_option maxRecDepth 100000 in
theorem held_cols0 (a : Option Addr) (cap k : Nat) (w : World) (_hk : k ≤ 100000000) : Calls Tryz.prog 46 #[.slice a 0 cap, .int .i64 k] w fun e w' => e = .returned (.int .i64 k) ∧ Below w.heap.size w w' := by
  go_enter Tryz.func46, Tryz.ntmps46
  go_wp2_with fail
  go_loopw [1, 5] (fun kv iv wr => iv = .int .i64 0 ∧ kv = .int .i64 k ∧ Hid (Below w.heap.size w wr)) (fun _ _ _ => 0)
  case atStart => exact ⟨rfl, rfl, Below.refl _ _⟩
  case round =>
    obtain ⟨rfl, rfl, hH⟩ := hrel
    go_wp2_with fail
    go_ret
    exact ⟨rfl, hH.out⟩
set_option maxRecDepth 100000 in
theorem held_sets0 (a : Option Addr) (cap k : Nat) (w : World) (_hk : k ≤ 100000000) : Calls Tryz.prog 45 #[.slice a 0 cap, .int .i64 k] w fun e w' => e = .returned (.int .i64 k) ∧ Below w.heap.size w w' := by
  go_enter Tryz.func45, Tryz.ntmps45
  go_wp2_with fail
  go_loopw [1, 5] (fun kv iv wr => iv = .int .i64 0 ∧ kv = .int .i64 k ∧ Hid (Below w.heap.size w wr)) (fun _ _ _ => 0)
  case atStart => exact ⟨rfl, rfl, Below.refl _ _⟩
  case round =>
    obtain ⟨rfl, rfl, hH⟩ := hrel
    go_wp2_with fail
    go_ret
    exact ⟨rfl, hH.out⟩
theorem mark_cols2 (a : Option Addr) (n cap k : Nat) (w : World) (hS : Slot 7 w a n) (hk : 0 < k) (hn : k + 7 * n ≤ 100000000) :
    Calls Tryz.prog 44 #[.slice a n cap, .int .i64 k] w fun e w' => e = .returned (.int .i64 ((k + 7 * n : Nat) : Int)) ∧ MarkC w' a n k ∧ Turned a n w w' := by
  by_cases h0 : n = 0
  · subst h0
    refine (mark_cols0 a cap k w (by omega)).mono ?_
    rintro e w' ⟨rfl, hb⟩
    exact ⟨rfl, Or.inl rfl, fun _ => hb, fun h => absurd rfl h⟩
  · obtain ⟨B, rfl, hB, ht⟩ := hS.resolve_left h0
    refine (mark_cols B n cap k w hB ht hk hn).mono ?_
    rintro e w' ⟨rfl, hM⟩
    exact ⟨rfl, Or.inr ⟨B, rfl, hM.2.1, hM.2.2.2⟩, fun h => absurd h h0, fun _ => ⟨B, rfl, hM.1⟩⟩
theorem held_cols2 (a : Option Addr) (n cap k : Nat) (w : World) (hS : MarkC w a n k) (hk : 0 < k) (hn : k + 7 * n ≤ 100000000) :
    Calls Tryz.prog 46 #[.slice a n cap, .int .i64 k] w fun e w' => e = .returned (.int .i64 ((k + 7 * n : Nat) : Int)) ∧ Below w.heap.size w w' := by
  rcases hS with rfl | ⟨B, rfl, hB, ht⟩
  · exact held_cols0 a cap k w (by omega)
  · exact held_cols B n cap k w hB ht hk hn
theorem mark_sets2 (a : Option Addr) (n cap k : Nat) (w : World) (hS : Slot 4 w a n) (hk : 0 < k) (hn : k + 4 * n ≤ 100000000) :
    Calls Tryz.prog 43 #[.slice a n cap, .int .i64 k] w fun e w' => e = .returned (.int .i64 ((k + 4 * n : Nat) : Int)) ∧ MarkS w' a n k ∧ Turned a n w w' := by
  by_cases h0 : n = 0
  · subst h0
    refine (mark_sets0 a cap k w (by omega)).mono ?_
    rintro e w' ⟨rfl, hb⟩
    exact ⟨rfl, Or.inl rfl, fun _ => hb, fun h => absurd rfl h⟩
  · obtain ⟨B, rfl, hB, ht⟩ := hS.resolve_left h0
    refine (mark_sets B n cap k w hB ht hk hn).mono ?_
    rintro e w' ⟨rfl, hM⟩
    exact ⟨rfl, Or.inr ⟨B, rfl, hM.2.1, hM.2.2.2⟩, fun h => absurd h h0, fun _ => ⟨B, rfl, hM.1⟩⟩
theorem held_sets2 (a : Option Addr) (n cap k : Nat) (w : World) (hS : MarkS w a n k) (hk : 0 < k) (hn : k + 4 * n ≤ 100000000) :
    Calls Tryz.prog 45 #[.slice a n cap, .int .i64 k] w fun e w' => e = .returned (.int .i64 ((k + 4 * n : Nat) : Int)) ∧ Below w.heap.size w w' := by
  rcases hS with rfl | ⟨B, rfl, hB, ht⟩
  · exact held_sets0 a cap k w (by omega)
  · exact held_sets B n cap k w hB ht hk hn

theorem Turned.marks {a c : Option Addr} {n k q : Nat} {W W' : World} (h : Turned a n W W') (hS : MarkS W c k q) (h0 : k = 0 ∨ n = 0) : MarkS W' c k q := by
  rcases h0 with h0 | h0
  · exact Or.inl h0
  · exact hS.next (h.1 h0)
theorem slot_not {a : Option Addr} {n z : Nat} {W : World} (h : Slot z W a n) : n = 0 ∨ ∃ B, a = some ⟨B, 0, none⟩ ∧ B ≠ W.heap.size := by
  rcases h with h | ⟨B, e, hB, _⟩
  · exact Or.inl h
  · exact Or.inr ⟨B, e, by omega⟩
/-- What is done has one list at most. -/
def OneL (x : AAct) : Prop := x.sets.length ≤ 5 ∧ x.cols.length ≤ 5 ∧ (x.sets.length = 0 ∨ x.cols.length = 0)
set_option maxRecDepth 100000 in
set_option maxHeartbeats 2000000 in
theorem mark_act (x : AAct) (a0 a1 : Option Addr) (c0 c1 : Nat) (w : World) (hx : OneL x) (h1 : Slot 4 w a0 x.sets.length) (h2 : Slot 7 w a1 x.cols.length) :
    Calls Tryz.prog 14 #[.agg #[.int .i64 x.kd, .string x.nm, .int .i64 x.id, .slice a0 x.sets.length c0, .slice a1 x.cols.length c1, .int .i64 x.g.kd, .string x.g.nm, .string x.g.nw, .string x.g.c.nm, .int .i64 x.g.c.kd, .bool x.g.c.nd, .bool x.g.c.oc, .int .i64 x.g.c.k, .int .i64 x.g.c.n, .string x.g.c.s, .string x.l.fr, .string x.l.co, .string x.l.tt, .int .i64 x.l.hw], .int .i64 1] w fun e w' => e = .returned (.int .i64 ((1 + 4 * x.sets.length + 7 * x.cols.length : Nat) : Int)) ∧ MarkS w' a0 x.sets.length 1 ∧ MarkC w' a1 x.cols.length (1 + 4 * x.sets.length) ∧ (∀ C, C ≤ w.heap.size → Far C a0 x.sets.length → Far C a1 x.cols.length → Below C w w') ∧
      ∀ b cs, b < w.heap.size → (x.sets.length = 0 ∨ ∃ B, a0 = some ⟨B, 0, none⟩ ∧ B ≠ b) → (x.cols.length = 0 ∨ ∃ B, a1 = some ⟨B, 0, none⟩ ∧ B ≠ b) → w.rangeAt b 0 cs → w'.rangeAt b 0 cs := by
  have A0 : Below w.heap.size w (w.alloc (.cells #[.int .i64 x.kd, .string x.nm, .int .i64 x.id, .slice a0 x.sets.length c0, .slice a1 x.cols.length c1, .int .i64 x.g.kd, .string x.g.nm, .string x.g.nw, .string x.g.c.nm, .int .i64 x.g.c.kd, .bool x.g.c.nd, .bool x.g.c.oc, .int .i64 x.g.c.k, .int .i64 x.g.c.n, .string x.g.c.s, .string x.l.fr, .string x.l.co, .string x.l.tt, .int .i64 x.l.hw] 34)) := (Below.refl _ _).alloc (Nat.le_refl _) _
  have H0 : Hid (BoxL w w.heap.size [.int .i64 x.kd, .string x.nm, .int .i64 x.id, .slice a0 x.sets.length c0, .slice a1 x.cols.length c1, .int .i64 x.g.kd, .string x.g.nm, .string x.g.nw, .string x.g.c.nm, .int .i64 x.g.c.kd, .bool x.g.c.nd, .bool x.g.c.oc, .int .i64 x.g.c.k, .int .i64 x.g.c.n, .string x.g.c.s, .string x.l.fr, .string x.l.co, .string x.l.tt, .int .i64 x.l.hw] (w.alloc (.cells #[.int .i64 x.kd, .string x.nm, .int .i64 x.id, .slice a0 x.sets.length c0, .slice a1 x.cols.length c1, .int .i64 x.g.kd, .string x.g.nm, .string x.g.nw, .string x.g.c.nm, .int .i64 x.g.c.kd, .bool x.g.c.nd, .bool x.g.c.oc, .int .i64 x.g.c.k, .int .i64 x.g.c.n, .string x.g.c.s, .string x.l.fr, .string x.l.co, .string x.l.tt, .int .i64 x.l.hw] 34))) := BoxL.start _ _ _
  have HS : Hid ((Slot 4 (w.alloc (.cells #[.int .i64 x.kd, .string x.nm, .int .i64 x.id, .slice a0 x.sets.length c0, .slice a1 x.cols.length c1, .int .i64 x.g.kd, .string x.g.nm, .string x.g.nw, .string x.g.c.nm, .int .i64 x.g.c.kd, .bool x.g.c.nd, .bool x.g.c.oc, .int .i64 x.g.c.k, .int .i64 x.g.c.n, .string x.g.c.s, .string x.l.fr, .string x.l.co, .string x.l.tt, .int .i64 x.l.hw] 34)) a0 x.sets.length ∧ Slot 7 (w.alloc (.cells #[.int .i64 x.kd, .string x.nm, .int .i64 x.id, .slice a0 x.sets.length c0, .slice a1 x.cols.length c1, .int .i64 x.g.kd, .string x.g.nm, .string x.g.nw, .string x.g.c.nm, .int .i64 x.g.c.kd, .bool x.g.c.nd, .bool x.g.c.oc, .int .i64 x.g.c.k, .int .i64 x.g.c.n, .string x.g.c.s, .string x.l.fr, .string x.l.co, .string x.l.tt, .int .i64 x.l.hw] 34)) a1 x.cols.length)) := ⟨h1.next A0, h2.next A0⟩
  have HX : Hid (OneL x) := hx
  have hN : Hid ((x.sets.length = 0 ∨ ∃ B, a0 = some ⟨B, 0, none⟩ ∧ B ≠ w.heap.size) ∧ (x.cols.length = 0 ∨ ∃ B, a1 = some ⟨B, 0, none⟩ ∧ B ≠ w.heap.size)) := ⟨slot_not h1, slot_not h2⟩
  have A1 : Hid (Below w.heap.size w (w.alloc (.cells #[.int .i64 x.kd, .string x.nm, .int .i64 x.id, .slice a0 x.sets.length c0, .slice a1 x.cols.length c1, .int .i64 x.g.kd, .string x.g.nm, .string x.g.nw, .string x.g.c.nm, .int .i64 x.g.c.kd, .bool x.g.c.nd, .bool x.g.c.oc, .int .i64 x.g.c.k, .int .i64 x.g.c.n, .string x.g.c.s, .string x.l.fr, .string x.l.co, .string x.l.tt, .int .i64 x.l.hw] 34))) := A0
  clear A0 h1 h2 hx
  have y3 := H0.out.1 3 _ rfl
  have hx1 := HX.out.1
  have hx2 := HX.out.2.1
  go_enter Tryz.func14, Tryz.ntmps14
  go_wp2_with fail
  refine (mark_sets2 a0 x.sets.length c0 1 _ HS.out.1 (by omega) (by omega)).mono ?_
  rintro e w1 ⟨rfl, hM, hT⟩
  have hsz := hT.below (C := 0) (Nat.zero_le _) (by
    rcases hN.out.1 with h | ⟨B, h, _⟩
    · exact Or.inl h
    · exact Or.inr ⟨B, h, Nat.zero_le _⟩)
  have R1 : Hid (w1.rangeAt w.heap.size 0 [.int .i64 x.kd, .string x.nm, .int .i64 x.id, .slice a0 x.sets.length c0, .slice a1 x.cols.length c1, .int .i64 x.g.kd, .string x.g.nm, .string x.g.nw, .string x.g.c.nm, .int .i64 x.g.c.kd, .bool x.g.c.nd, .bool x.g.c.oc, .int .i64 x.g.c.k, .int .i64 x.g.c.n, .string x.g.c.s, .string x.l.fr, .string x.l.co, .string x.l.tt, .int .i64 x.l.hw] ∧ w.heap.size < w1.heap.size) := ⟨hT.range H0.out.1 H0.out.2.1 hN.out.1, Nat.lt_of_lt_of_le H0.out.2.1 hsz.size⟩
  have S1 : Hid (Slot 7 w1 a1 x.cols.length) := hT.slot HS.out.2 HX.out.2.2
  have M1 : Hid (MarkS w1 a0 x.sets.length 1) := hM
  have T1 : Hid (Turned a0 x.sets.length (w.alloc (.cells #[.int .i64 x.kd, .string x.nm, .int .i64 x.id, .slice a0 x.sets.length c0, .slice a1 x.cols.length c1, .int .i64 x.g.kd, .string x.g.nm, .string x.g.nw, .string x.g.c.nm, .int .i64 x.g.c.kd, .bool x.g.c.nd, .bool x.g.c.oc, .int .i64 x.g.c.k, .int .i64 x.g.c.n, .string x.g.c.s, .string x.l.fr, .string x.l.co, .string x.l.tt, .int .i64 x.l.hw] 34)) w1) := hT
  clear hM hT hsz HS y3
  have y4 := R1.out.1 4 _ rfl
  go_wp2_with fail
  refine (mark_cols2 a1 x.cols.length c1 (1 + 4 * x.sets.length) _ S1.out (by omega) (by omega)).mono ?_
  rintro e w2 ⟨rfl, hM, hT⟩
  have M2 : Hid (MarkS w2 a0 x.sets.length 1 ∧ MarkC w2 a1 x.cols.length (1 + 4 * x.sets.length)) := ⟨hT.marks M1.out HX.out.2.2, hM⟩
  have T2 : Hid (Turned a1 x.cols.length w1 w2) := hT
  clear hM hT y4
  go_wp2_with fail
  go_ret
  refine ⟨rfl, M2.out.1, M2.out.2, fun C hC h3 h4 => ?_, fun b cs hb h3 h4 hr => T2.out.range (T1.out.range (range_next hr hb A1.out) (Nat.lt_of_lt_of_le hb A1.out.size) h3) (Nat.lt_trans hb R1.out.2) h4⟩
  have b1 := A1.out.mono hC
  have b2 := T1.out.below (Nat.le_trans hC H0.out.2.2.size) h3
  exact (b1.trans b2).trans (T2.out.below (Nat.le_trans hC (Nat.le_of_lt R1.out.2)) h4)

set_option maxRecDepth 100000 in
set_option maxHeartbeats 2000000 in
theorem held_act (x : AAct) (a0 a1 : Option Addr) (c0 c1 : Nat) (w : World) (hx : OneL x) (h1 : MarkS w a0 x.sets.length 1) (h2 : MarkC w a1 x.cols.length (1 + 4 * x.sets.length)) :
    Calls Tryz.prog 15 #[.agg #[.int .i64 x.kd, .string x.nm, .int .i64 x.id, .slice a0 x.sets.length c0, .slice a1 x.cols.length c1, .int .i64 x.g.kd, .string x.g.nm, .string x.g.nw, .string x.g.c.nm, .int .i64 x.g.c.kd, .bool x.g.c.nd, .bool x.g.c.oc, .int .i64 x.g.c.k, .int .i64 x.g.c.n, .string x.g.c.s, .string x.l.fr, .string x.l.co, .string x.l.tt, .int .i64 x.l.hw], .int .i64 1] w fun e w' => e = .returned (.int .i64 ((1 + 4 * x.sets.length + 7 * x.cols.length : Nat) : Int)) ∧ Below w.heap.size w w' := by
  have A0 : Below w.heap.size w (w.alloc (.cells #[.int .i64 x.kd, .string x.nm, .int .i64 x.id, .slice a0 x.sets.length c0, .slice a1 x.cols.length c1, .int .i64 x.g.kd, .string x.g.nm, .string x.g.nw, .string x.g.c.nm, .int .i64 x.g.c.kd, .bool x.g.c.nd, .bool x.g.c.oc, .int .i64 x.g.c.k, .int .i64 x.g.c.n, .string x.g.c.s, .string x.l.fr, .string x.l.co, .string x.l.tt, .int .i64 x.l.hw] 34)) := (Below.refl _ _).alloc (Nat.le_refl _) _
  have H0 : Hid (BoxL w w.heap.size [.int .i64 x.kd, .string x.nm, .int .i64 x.id, .slice a0 x.sets.length c0, .slice a1 x.cols.length c1, .int .i64 x.g.kd, .string x.g.nm, .string x.g.nw, .string x.g.c.nm, .int .i64 x.g.c.kd, .bool x.g.c.nd, .bool x.g.c.oc, .int .i64 x.g.c.k, .int .i64 x.g.c.n, .string x.g.c.s, .string x.l.fr, .string x.l.co, .string x.l.tt, .int .i64 x.l.hw] (w.alloc (.cells #[.int .i64 x.kd, .string x.nm, .int .i64 x.id, .slice a0 x.sets.length c0, .slice a1 x.cols.length c1, .int .i64 x.g.kd, .string x.g.nm, .string x.g.nw, .string x.g.c.nm, .int .i64 x.g.c.kd, .bool x.g.c.nd, .bool x.g.c.oc, .int .i64 x.g.c.k, .int .i64 x.g.c.n, .string x.g.c.s, .string x.l.fr, .string x.l.co, .string x.l.tt, .int .i64 x.l.hw] 34))) := BoxL.start _ _ _
  have HS : Hid ((MarkS (w.alloc (.cells #[.int .i64 x.kd, .string x.nm, .int .i64 x.id, .slice a0 x.sets.length c0, .slice a1 x.cols.length c1, .int .i64 x.g.kd, .string x.g.nm, .string x.g.nw, .string x.g.c.nm, .int .i64 x.g.c.kd, .bool x.g.c.nd, .bool x.g.c.oc, .int .i64 x.g.c.k, .int .i64 x.g.c.n, .string x.g.c.s, .string x.l.fr, .string x.l.co, .string x.l.tt, .int .i64 x.l.hw] 34)) a0 x.sets.length 1 ∧ MarkC (w.alloc (.cells #[.int .i64 x.kd, .string x.nm, .int .i64 x.id, .slice a0 x.sets.length c0, .slice a1 x.cols.length c1, .int .i64 x.g.kd, .string x.g.nm, .string x.g.nw, .string x.g.c.nm, .int .i64 x.g.c.kd, .bool x.g.c.nd, .bool x.g.c.oc, .int .i64 x.g.c.k, .int .i64 x.g.c.n, .string x.g.c.s, .string x.l.fr, .string x.l.co, .string x.l.tt, .int .i64 x.l.hw] 34)) a1 x.cols.length (1 + 4 * x.sets.length))) := ⟨h1.next A0, h2.next A0⟩
  have HX : Hid (OneL x) := hx
  clear A0 h1 h2 hx
  have y3 := H0.out.1 3 _ rfl
  have hx1 := HX.out.1
  have hx2 := HX.out.2.1
  go_enter Tryz.func15, Tryz.ntmps15
  go_wp2_with fail
  refine (held_sets2 a0 x.sets.length c0 1 _ HS.out.1 (by omega) (by omega)).mono ?_
  rintro e w1 ⟨rfl, hb⟩
  have H1 : Hid (BoxL w w.heap.size [.int .i64 x.kd, .string x.nm, .int .i64 x.id, .slice a0 x.sets.length c0, .slice a1 x.cols.length c1, .int .i64 x.g.kd, .string x.g.nm, .string x.g.nw, .string x.g.c.nm, .int .i64 x.g.c.kd, .bool x.g.c.nd, .bool x.g.c.oc, .int .i64 x.g.c.k, .int .i64 x.g.c.n, .string x.g.c.s, .string x.l.fr, .string x.l.co, .string x.l.tt, .int .i64 x.l.hw] w1) := H0.out.next hb
  have M1 : Hid (MarkC w1 a1 x.cols.length (1 + 4 * x.sets.length)) := HS.out.2.next hb
  clear H0 HS hb y3
  have y4 := H1.out.1 4 _ rfl
  go_wp2_with fail
  refine (held_cols2 a1 x.cols.length c1 (1 + 4 * x.sets.length) _ M1.out (by omega) (by omega)).mono ?_
  rintro e w2 ⟨rfl, hb⟩
  have H2 : Hid (BoxL w w.heap.size [.int .i64 x.kd, .string x.nm, .int .i64 x.id, .slice a0 x.sets.length c0, .slice a1 x.cols.length c1, .int .i64 x.g.kd, .string x.g.nm, .string x.g.nw, .string x.g.c.nm, .int .i64 x.g.c.kd, .bool x.g.c.nd, .bool x.g.c.oc, .int .i64 x.g.c.k, .int .i64 x.g.c.n, .string x.g.c.s, .string x.l.fr, .string x.l.co, .string x.l.tt, .int .i64 x.l.hw] w2) := H1.out.next hb
  clear H1 M1 hb y4
  go_wp2_with fail
  go_ret
  exact ⟨rfl, H2.out.2.2⟩

end Go.Proofs.YtpcfebekkgfpjaaGreatDoor

/- Plain facts on decimals and on texts between quotes: no program in them. -/
namespace Go.Proofs.YtpcfebekkgfpjaaGreatDoor

def dig (c : UInt8) : Bool := decide (48 ≤ c.toNat) && decide (c.toNat ≤ 57)

/-- impl's scan: the number of the digits behind a, refused above 999. -/
def scan : List UInt8 → Nat → Option Nat
  | [], a => some a
  | c :: r, a => if dig c then (if 999 < a * 10 + (c.toNat - 48) then none else scan r (a * 10 + (c.toNat - 48))) else none
/-- The specification's scan. -/
def numScan : List UInt8 → Nat → Option Nat
  | [], a => some a
  | c :: r, a => if dig c then numScan r (a * 10 + (c.toNat - 48)) else none

theorem scan_le : ∀ (l : List UInt8) (a b : Nat), a ≤ 999 → scan l a = some b → b ≤ 999
  | [], a, b, ha, h => by simp [scan] at h; omega
  | c :: r, a, b, ha, h => by
    unfold scan at h
    split at h
    · split at h
      · cases h
      · exact scan_le r _ b (by omega) h
    · cases h

def readNum (t : List UInt8) : Option Int :=
  match scan (Lib.trimPrefix t [45]) 0 with
  | none => none
  | some a => if Lib.itoa (if Lib.hasPrefix t [45] then -(a : Int) else a) = t then some (if Lib.hasPrefix t [45] then -(a : Int) else a) else none

theorem readNum_some {t : List UInt8} {n : Int} (h : readNum t = some n) : Lib.itoa n = t ∧ -999 ≤ n ∧ n ≤ 999 := by
  unfold readNum at h
  cases ha : scan (Lib.trimPrefix t [45]) 0 with
  | none => rw [ha] at h; cases h
  | some a =>
    have hle := scan_le _ 0 a (by omega) ha
    rw [ha] at h
    have hb : ∀ m : Int, -999 ≤ m → m ≤ 999 → (if Lib.itoa m = t then some m else none) = some n → Lib.itoa n = t ∧ -999 ≤ n ∧ n ≤ 999 := by
      intro m h0 h1 hm
      by_cases he : Lib.itoa m = t
      · rw [if_pos he] at hm
        have hn := Option.some.inj hm
        subst hn
        exact ⟨he, h0, h1⟩
      · rw [if_neg he] at hm; cases hm
    cases hp : Lib.hasPrefix t [45]
    · rw [hp] at h; exact hb _ (by simp <;> omega) (by simp <;> omega) h
    · rw [hp] at h; exact hb _ (by simp <;> omega) (by simp <;> omega) h

/-- The numeral of u below 1000, written out. -/
def decL (u : Nat) : List UInt8 :=
  if u < 10 then [UInt8.ofNat (48 + u)] else if u < 100 then [UInt8.ofNat (48 + u / 10), UInt8.ofNat (48 + u % 10)] else [UInt8.ofNat (48 + u / 10 / 10), UInt8.ofNat (48 + u / 10 % 10), UInt8.ofNat (48 + u % 10)]

theorem dec_small (u : Nat) (h : u < 10) : Lib.decDigits u = [UInt8.ofNat (48 + u)] := by
  rw [Lib.decDigits]; simp [h]
theorem dec_step (u : Nat) (h : ¬ u < 10) : Lib.decDigits u = Lib.decDigits (u / 10) ++ [UInt8.ofNat (48 + u % 10)] := by
  rw [Lib.decDigits]; simp [h]
theorem dec_decL (u : Nat) (h : u < 1000) : Lib.decDigits u = decL u := by
  unfold decL
  by_cases h1 : u < 10
  · rw [if_pos h1, dec_small u h1]
  · rw [if_neg h1, dec_step u h1]
    by_cases h2 : u < 100
    · rw [if_pos h2, dec_small _ (by omega)]; rfl
    · rw [if_neg h2, dec_step (u / 10) (by omega), dec_small _ (by omega)]; rfl

/-- The specification's reading behind the sign: the number, and whether there is one. -/
def numS (neg : Bool) (l : List UInt8) : Int × Bool :=
  if l.length = 0 ∨ 17 < l.length ∨ (l.head? = some 48 ∧ (1 < l.length ∨ neg = true)) then (0, false) else match numScan l 0 with
    | none => (0, false)
    | some a => (if neg then -(a : Int) else (a : Int), true)
def numL (t : List UInt8) : Int × Bool := if t.head? = some 45 then numS true t.tail else numS false t

def posOk (u : Nat) : Bool := numL (decL u) == ((u : Int), true) && scan (decL u) 0 == some u && !(Lib.hasPrefix (decL u) [45]) && Lib.trimPrefix (decL u) [45] == decL u
def negOk (u : Nat) : Bool := numL (45 :: decL u) == (-(u : Int), true) && Lib.trimPrefix (45 :: decL u) [45] == decL u && Lib.hasPrefix (45 :: decL u) [45]

theorem all_pos : (List.range 1000).all posOk = true := by decide +kernel
theorem all_neg : (List.range 999).all (fun u => negOk (u + 1)) = true := by decide +kernel

theorem posOk_of {u : Nat} (h : u < 1000) : posOk u = true := List.all_eq_true.1 all_pos u (List.mem_range.2 h)
theorem negOk_of {u : Nat} (h0 : 0 < u) (h : u < 1000) : negOk u = true := by
  have := List.all_eq_true.1 all_neg (u - 1) (List.mem_range.2 (by omega))
  rwa [show u - 1 + 1 = u by omega] at this

theorem itoa_pos {n : Int} (h0 : 0 ≤ n) (h1 : n ≤ 999) : Lib.itoa n = decL n.toNat := by
  unfold Lib.itoa; rw [if_neg (by omega), dec_decL _ (by omega)]
theorem itoa_neg {n : Int} (h0 : n < 0) (h1 : -999 ≤ n) : Lib.itoa n = 45 :: decL n.natAbs := by
  unfold Lib.itoa; rw [if_pos h0, dec_decL _ (by omega)]

theorem numL_itoa {n : Int} (h0 : -999 ≤ n) (h1 : n ≤ 999) : numL (Lib.itoa n) = (n, true) := by
  by_cases h : n < 0
  · have hk := negOk_of (u := n.natAbs) (by omega) (by omega)
    simp only [negOk, Bool.and_eq_true, beq_iff_eq] at hk
    rw [itoa_neg h h0, hk.1.1]
    have : -(n.natAbs : Int) = n := by omega
    rw [this]
  · have hk := posOk_of (u := n.toNat) (by omega)
    simp only [posOk, Bool.and_eq_true, beq_iff_eq] at hk
    rw [itoa_pos (by omega) h1, hk.1.1.1]
    have : (n.toNat : Int) = n := by omega
    rw [this]

theorem readNum_itoa {n : Int} (h0 : -999 ≤ n) (h1 : n ≤ 999) : readNum (Lib.itoa n) = some n := by
  by_cases h : n < 0
  · have hk := negOk_of (u := n.natAbs) (by omega) (by omega)
    have hp := posOk_of (u := n.natAbs) (by omega)
    simp only [negOk, Bool.and_eq_true, beq_iff_eq] at hk
    simp only [posOk, Bool.and_eq_true, beq_iff_eq] at hp
    have e := itoa_neg h h0
    have hn : -(n.natAbs : Int) = n := by omega
    unfold readNum
    rw [e, hk.1.2, hp.1.1.2]
    simp only [hk.2, if_true, hn, e]
  · have hp := posOk_of (u := n.toNat) (by omega)
    simp only [posOk, Bool.and_eq_true, beq_iff_eq, Bool.not_eq_true'] at hp
    have e := itoa_pos (by omega) h1
    have hn : (n.toNat : Int) = n := by omega
    unfold readNum
    rw [e, hp.2, hp.1.1.2]
    simp only [hp.1.2, Bool.false_eq_true, if_false, hn, e, if_true]

/-- What both find is one. -/
theorem readNum_iff {t : List UInt8} {n : Int} : readNum t = some n ↔ (Lib.itoa n = t ∧ -999 ≤ n ∧ n ≤ 999) :=
  ⟨readNum_some, fun ⟨e, a, b⟩ => by rw [← e]; exact readNum_itoa a b⟩
theorem numL_of_readNum {t : List UInt8} {n : Int} (h : readNum t = some n) : numL t = (n, true) := by
  obtain ⟨e, a, b⟩ := readNum_some h
  rw [← e]; exact numL_itoa a b

end Go.Proofs.YtpcfebekkgfpjaaGreatDoor
