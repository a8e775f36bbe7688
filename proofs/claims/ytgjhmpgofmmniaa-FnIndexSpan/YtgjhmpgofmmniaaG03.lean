/- Contract of impl.ValOk, over the seat's translation. -/
import Derived.Test.YtgjhmpgofmmniaaG02
import Derived.Deep.MidRow
import Derived.Test.YtgjhmpgofmmniaaRows
import Derived.WalkKit
import Derived.WalkSpells
import Derived.WalkLawsBesides
import Derived.Deep.RegionHeld3
import Derived.Sort.Walk0
import Derived.Laws.StructEq
namespace Go.Proofs.Ytgjhmpgofmmniaa
open Go.RowKit

theorem value_any (k n : Int) (s : ByteArray) (w : World) (hs : s.size ≤ maxLen) :
    Calls Try.prog 64 #[.agg #[.int .i64 k, .int .i64 n, .string s]] w fun e w' => ∃ t v, e = .returned (.tuple #[.iface t v, .bool (valOk k n s)]) ∧ Below w.heap.size w w' := by
  by_cases h0 : k = 0
  · subst h0; exact (value_none n s w).mono fun e w' h => ⟨_, _, h⟩
  · by_cases h1 : k = 1
    · subst h1; exact (value_num n s w).mono fun e w' h => ⟨_, _, h⟩
    · by_cases h2 : k = 2
      · subst h2; exact (value_text n s w hs).mono fun e w' h => ⟨_, _, h⟩
      · exact (value_other k n s w (beq_eq_false_iff_ne.2 h0) (beq_eq_false_iff_ne.2 h1) (beq_eq_false_iff_ne.2 h2)).mono fun e w' h => ⟨_, _, h⟩

theorem impl_ok (k n : Int) (s : ByteArray) (w : World) (hs : s.size ≤ maxLen) :
    Calls Try.prog 57 #[.agg #[.int .i64 k, .int .i64 n, .string s]] w fun e w' => e = .returned (.bool (valOk k n s)) ∧ Below w.heap.size w w' := by
  go_enter Try.func57, Try.ntmps57
  go_wp2_with fail
  refine (value_any _ _ _ _ hs).mono ?_
  rintro e w' ⟨t, v, rfl, hb⟩
  go_wp2_with fail
  go_ret
  exact ⟨rfl, ((Below.refl _ _).alloc (Nat.le_refl _) _).trans (hb.mono (by simp))⟩

end Go.Proofs.Ytgjhmpgofmmniaa

/- Entries: where they lie, and how they are read. Over the seat's translation. -/
namespace Go.Proofs.Ytgjhmpgofmmniaa
open Go.RowKit

/-- An entry. -/
structure AEnt where
  k : Int
  n : Int
  s : ByteArray
  id : Int

def AEnt.cells (e : AEnt) : List Value := [.int .i64 e.k, .int .i64 e.n, .string e.s, .int .i64 e.id]
def AEnt.fit (e : AEnt) : Prop := e.s.size ≤ maxLen

/-- The entries L lie in W from where the slice begins. -/
def EntsAt (W : World) (a : Option Addr) (L : List AEnt) : Prop :=
  L = [] ∨ ∃ b o, a = some ⟨b, o, none⟩ ∧ b < W.heap.size ∧ ∀ i c, L[i]? = some c → W.rangeAt b (o + i * 4) c.cells

theorem EntsAt.keep {W W' : World} {a : Option Addr} {L : List AEnt} (h : EntsAt W a L) (hb : Below W.heap.size W W') : EntsAt W' a L := by
  rcases h with h | ⟨b, o, ha, hlt, hr⟩
  · exact Or.inl h
  · refine Or.inr ⟨b, o, ha, Nat.lt_of_lt_of_le hlt hb.size, fun i c hc j v hv => ?_⟩
    rw [(bcell hb).1 _ _ hlt]
    exact hr i c hc j v hv

theorem run_ix4 {P : Program} (t e : TypeId) (b o len cap k : Nat) (w : World) (hk : k < len) (ht : P.underlying t = some (.slice e)) (hs : (sizeOf e).run P w = .ok 4 w) :
    (Instr.indexAt t (.slice (some ⟨b, o, none⟩) len cap) (.int .i64 k)).run P w = .ok (.pointer (some ⟨b, o + k * 4, none⟩)) w := by
  have hE : P.elem t = e := by simp [Program.elem, ht]
  rw [run_indexAt_slice w t _ len cap .i64 k (by rw [hE]; exact ht), if_pos ⟨by omega, by omega⟩, hE, hs]
  simp [Addr.add_mid]

theorem EntsAt.at {W : World} {a : Option Addr} {L : List AEnt} (h : EntsAt W a L) {k : Nat} (hk : k < L.length) :
    ∃ b o, a = some ⟨b, o, none⟩ ∧ b < W.heap.size ∧ W.rangeAt b (o + k * 4) L[k].cells := by
  rcases h with h | ⟨b, o, ha, hlt, hr⟩
  · subst h; simp at hk
  · exact ⟨b, o, ha, hlt, hr k _ (List.getElem?_eq_getElem hk)⟩

/-- The four cells of an entry at an offset. -/
abbrev Cells4 (W : World) (b o : Nat) (c : AEnt) : Prop :=
  W.cell? ⟨b, o, none⟩ = some (.int .i64 c.k) ∧ W.cell? ⟨b, o + 1, none⟩ = some (.int .i64 c.n) ∧ W.cell? ⟨b, o + 2, none⟩ = some (.string c.s) ∧ W.cell? ⟨b, o + 3, none⟩ = some (.int .i64 c.id)
theorem cells4_of {W : World} {b o : Nat} {c : AEnt} (h : W.rangeAt b o c.cells) : Cells4 W b o c := ⟨h 0 _ rfl, h 1 _ rfl, h 2 _ rfl, h 3 _ rfl⟩
theorem cells4_next {W W' : World} {b o : Nat} {c : AEnt} (h : Cells4 W b o c) (hlt : b < W.heap.size) (hb : Below W.heap.size W W') : Cells4 W' b o c := by
  have hc := fun x => (bcell hb).1 b x hlt
  unfold Cells4
  simp only [hc]
  exact h

theorem Try.info29 : ∃ i, Try.prog.info? 29 = some i ∧ i.zero = some (.agg #[.int .i64 0, .int .i64 0, .string ⟨#[]⟩, .int .i64 0]) ∧ i.size = 4 ∧ i.bytes ≤ 128 := by
  have h : (Try.prog.info? 29).map (fun i => (i.zero, i.size, decide (i.bytes ≤ 128))) = some (some (.agg #[.int .i64 0, .int .i64 0, .string ⟨#[]⟩, .int .i64 0]), 4, true) := by kernel_rfl
  obtain ⟨i, hi, he⟩ := Option.map_eq_some_iff.1 h
  simp only [Prod.mk.injEq, decide_eq_true_eq] at he
  exact ⟨i, hi, he.1, he.2.1, he.2.2⟩

theorem quiet_below (B : Nat) (w : World) (n : Nat) : Below B w (w.drewN n) := by
  induction n with
  | zero => exact Below.refl _ _
  | succ n ih => exact ih.drew

theorem there_next {B n : Nat} {W W' : World} (h : W.there B 0 n) (hB : B < W.heap.size) (hb : Below W.heap.size W W') : W'.there B 0 n := fun j hj => by
  rw [(bcell hb).1 _ _ hB, (bcell hb).2 _ _ hB]
  exact h j hj

/-- What is left of l: -1, or not less than nought, and then P. -/
def Rest (l z : Int) (P : Prop) : Prop := z = -1 ∨ (0 ≤ z ∧ z ≤ l ∧ P)

theorem size_alloc (w : World) (o : Obj) : (w.alloc o).heap.size = w.heap.size + 1 := by simp

theorem range_next {W W' : World} {B o : Nat} {cs : List Value} (h : W.rangeAt B o cs) (hB : B < W.heap.size) (hb : Below W.heap.size W W') : W'.rangeAt B o cs := fun j v hv => by
  rw [(bcell hb).1 _ _ hB]
  exact h j v hv

/-- The box at B holds these values in W. -/
def Box (B : Nat) (cs : List Value) (W : World) : Prop := W.rangeAt B 0 cs ∧ B < W.heap.size
theorem Box.next {B : Nat} {cs : List Value} {W W' : World} (h : Box B cs W) (hb : Below W.heap.size W W') : Box B cs W' := ⟨range_next h.1 h.2 hb, Nat.lt_of_lt_of_le h.2 hb.size⟩
theorem Box.start (w : World) (cs : List Value) (t : TypeId) : Box w.heap.size cs (w.alloc (.cells cs.toArray t)) := by
  refine ⟨fun j v hv => ?_, by simp⟩
  have hb : (w.alloc (.cells cs.toArray t)).heap[w.heap.size]? = some (.cells cs.toArray t) := by
    show (w.heap.push _)[w.heap.size]? = _
    simp
  simp only [World.cell?, hb]
  simpa using hv
theorem Box.four {B : Nat} {v0 v1 v2 v3 : Value} {W : World} (h : Box B [v0, v1, v2, v3] W) : W.cell? ⟨B, 0, none⟩ = some v0 ∧ W.cell? ⟨B, 1, none⟩ = some v1 ∧ W.cell? ⟨B, 2, none⟩ = some v2 ∧ W.cell? ⟨B, 3, none⟩ = some v3 := ⟨h.1 0 _ rfl, h.1 1 _ rfl, h.1 2 _ rfl, h.1 3 _ rfl⟩
theorem Box.three {B : Nat} {v0 v1 v2 : Value} {W : World} (h : Box B [v0, v1, v2] W) : W.cell? ⟨B, 0, none⟩ = some v0 ∧ W.cell? ⟨B, 1, none⟩ = some v1 ∧ W.cell? ⟨B, 2, none⟩ = some v2 := ⟨h.1 0 _ rfl, h.1 1 _ rfl, h.1 2 _ rfl⟩

end Go.Proofs.Ytgjhmpgofmmniaa

/- Contracts of cmp.isNaN, cmp.Compare, cmp.Or at int and string, over the seat's translation. -/
namespace Go.Proofs.Ytgjhmpgofmmniaa
open Go.RowKit

theorem ret_int {k : IntKind} {a b : Int} (h : a = b) : Ending.returned (.int k a) = .returned (.int k b) := by rw [h]

theorem nan_int (a : Int) (w : World) : Calls Try.prog 62 #[.int .i64 a] w fun e w' => e = .returned (.bool false) ∧ w' = w := by
  go_enter Try.func62, Try.ntmps62
  go_wp2
  go_ret
  simp

theorem nan_str (s : ByteArray) (w : World) : Calls Try.prog 63 #[.string s] w fun e w' => e = .returned (.bool false) ∧ w' = w := by
  go_enter Try.func63, Try.ntmps63
  go_wp2
  go_ret
  simp

def cmpI (x y : Int) : Int := if x < y then -1 else if y < x then 1 else 0
def cmpS (s t : ByteArray) : Int := if Op.bytesLess s.toList t.toList then -1 else if (!Op.bytesLess s.toList t.toList && !(s.toList == t.toList)) then 1 else 0

theorem cmp_int (a b : Int) (w : World) : Calls Try.prog 55 #[.int .i64 a, .int .i64 b] w fun e w' => e = .returned (.int .i64 (cmpI a b)) ∧ w' = w := by
  go_enter Try.func55, Try.ntmps55
  go_wp2_with (go_at_call 62; refine (nan_int _ _).mono ?_; rintro e w' ⟨rfl, rfl⟩)
  · go_ret
    simp_all [cmpI]
  · go_ret
    simp_all [cmpI]
  · go_ret
    refine ⟨ret_int ?_, rfl⟩
    unfold cmpI
    rw [if_neg (by omega), if_neg (by omega)]

theorem cmp_str (s t : ByteArray) (w : World) : Calls Try.prog 56 #[.string s, .string t] w fun e w' => e = .returned (.int .i64 (cmpS s t)) ∧ w' = w := by
  go_enter Try.func56, Try.ntmps56
  go_wp2_with (go_at_call 63; refine (nan_str _ _).mono ?_; rintro e w' ⟨rfl, rfl⟩)
  all_goals
    go_ret
    simp_all [cmpS]

def orI (x y z : Int) : Int := if x = 0 then (if y = 0 then z else y) else x

theorem or_three (x y z : Int) (g : Nat) (w : World) (h0 : w.cell? ⟨g, 0, none⟩ = some (.int .i64 x)) (h1 : w.cell? ⟨g, 1, none⟩ = some (.int .i64 y)) (h2 : w.cell? ⟨g, 2, none⟩ = some (.int .i64 z)) :
    Calls Try.prog 54 #[.slice (some ⟨g, 0, none⟩) 3 3] w fun e w' => e = .returned (.int .i64 (orI x y z)) ∧ w' = w := by
  go_enter Try.func54, Try.ntmps54
  go_wp2
  go_loop [5, 8] (fun _ i => ∃ k : Nat, k ≤ 3 ∧ i = .int .i64 k ∧ (1 ≤ k → x = 0) ∧ (2 ≤ k → y = 0) ∧ (3 ≤ k → z = 0)) (fun _ i => 3 - (intOf i).toNat)
  case atStart => exact ⟨0, Nat.zero_le _, rfl, by omega, by omega, by omega⟩
  case round =>
    obtain ⟨k, hk, rfl, kx, ky, kz⟩ := hrel
    have hh : k = 0 ∨ k = 1 ∨ k = 2 ∨ k = 3 := by omega
    rcases hh with rfl | rfl | rfl | rfl
    · clear kx ky kz
      go_wp2
      · go_ret
        refine ⟨ret_int ?_, rfl⟩
        have hx : ¬ x = 0 := by simp_all
        simp [orI, hx]
      · have hx : x = 0 := by simp_all
        go_round
        case rel => exact ⟨1, by omega, rfl, fun _ => hx, by omega, by omega⟩
        case measure => simp [intOf]
    · have hx := kx (by omega)
      clear kx ky kz
      go_wp2
      · go_ret
        refine ⟨ret_int ?_, rfl⟩
        have hy : ¬ y = 0 := by simp_all
        simp [orI, hy]
      · have hy : y = 0 := by simp_all
        go_round
        case rel => exact ⟨2, by omega, rfl, fun _ => hx, fun _ => hy, by omega⟩
        case measure => simp [intOf]
    · have hx := kx (by omega)
      have hy := ky (by omega)
      clear kx ky kz
      go_wp2
      · go_ret
        refine ⟨ret_int ?_, rfl⟩
        simp [orI]
      · have hz : z = 0 := by simp_all
        go_round
        case rel => exact ⟨3, by omega, rfl, fun _ => hx, fun _ => hy, fun _ => hz⟩
        case measure => simp [intOf]
    · have hx := kx (by omega)
      have hy := ky (by omega)
      have hz := kz (by omega)
      clear kx ky kz
      go_wp2
      go_ret
      exact ⟨ret_int (by simp [orI]), rfl⟩

end Go.Proofs.Ytgjhmpgofmmniaa

/- Contracts of impl.compareVals and spec.ValLess, over the seat's translation. -/
namespace Go.Proofs.Ytgjhmpgofmmniaa
open Go.RowKit

def cmpV (k1 n1 : Int) (s1 : ByteArray) (k2 n2 : Int) (s2 : ByteArray) : Int := orI (cmpI k1 k2) (cmpI n1 n2) (cmpS s1 s2)

set_option maxHeartbeats 400000 in
theorem compare_vals (k1 n1 : Int) (s1 : ByteArray) (k2 n2 : Int) (s2 : ByteArray) (w : World) :
    Calls Try.prog 36 #[.agg #[.int .i64 k1, .int .i64 n1, .string s1], .agg #[.int .i64 k2, .int .i64 n2, .string s2]] w fun e w' => e = .returned (.int .i64 (cmpV k1 n1 s1 k2 n2 s2)) ∧ Below w.heap.size w w' := by
  go_enter Try.func36, Try.ntmps36
  go_wp2
  go_region_held3 (fun w' => w'.cell? ⟨w.heap.size, 0, none⟩ = some (.int .i64 k1) ∧ w'.cell? ⟨w.heap.size, 1, none⟩ = some (.int .i64 n1) ∧ w'.cell? ⟨w.heap.size, 2, none⟩ = some (.string s1) ∧ w'.cell? ⟨w.heap.size + 1, 0, none⟩ = some (.int .i64 k2) ∧ w'.cell? ⟨w.heap.size + 1, 1, none⟩ = some (.int .i64 n2) ∧ w'.cell? ⟨w.heap.size + 1, 2, none⟩ = some (.string s2)) (go_keep)
    (first
      | (go_at_call 55; refine (cmp_int _ _ _).mono ?_; rintro e w' ⟨rfl, rfl⟩)
      | (go_at_call 56; refine (cmp_str _ _ _).mono ?_; rintro e w' ⟨rfl, rfl⟩)
      | (go_at_call 54; refine (or_three (cmpI k1 k2) (cmpI n1 n2) (cmpS s1 s2) _ _ ?_ ?_ ?_).mono ?_; (go_simp); (go_simp); (go_simp); rintro e w' ⟨rfl, rfl⟩))
  go_wp2
  go_ret
  refine ⟨rfl, ?_⟩
  exact ((((Below.refl _ _).alloc (Nat.le_refl _) _).alloc (by simp) _).alloc (by simp; omega) _).drew

def lessV (k1 n1 : Int) (s1 : ByteArray) (k2 n2 : Int) (s2 : ByteArray) : Bool := decide (cmpV k1 n1 s1 k2 n2 s2 < 0)

def bad (s t : ByteArray) : Bool := Op.bytesLess s.toList t.toList
theorem less_eq (k1 n1 : Int) (s1 : ByteArray) (k2 n2 : Int) (s2 : ByteArray) :
    lessV k1 n1 s1 k2 n2 s2 = (if k1 = k2 then (if n1 = n2 then bad s1 s2 else decide (n1 < n2)) else decide (k1 < k2)) := by
  unfold lessV cmpV orI cmpI cmpS bad
  by_cases h1 : k1 = k2
  · subst h1
    by_cases h2 : n1 = n2
    · subst h2
      cases h3 : Op.bytesLess s1.toList s2.toList <;> simp
      split <;> simp
    · simp [h2]
      by_cases h4 : n1 < n2
      · simp [h4]
      · have : n2 < n1 := by omega
        simp [h4, this]
  · simp [h1]
    by_cases h4 : k1 < k2
    · simp [h4]
    · have : k2 < k1 := by omega
      simp [h4, this]

set_option maxHeartbeats 400000 in
theorem spec_less (k1 n1 : Int) (s1 : ByteArray) (k2 n2 : Int) (s2 : ByteArray) (w : World) :
    Calls Try.prog 35 #[.agg #[.int .i64 k1, .int .i64 n1, .string s1], .agg #[.int .i64 k2, .int .i64 n2, .string s2]] w fun e w' => e = .returned (.bool (lessV k1 n1 s1 k2 n2 s2)) ∧ Below w.heap.size w w' := by
  rw [less_eq]
  go_enter Try.func35, Try.ntmps35
  go_wp2
  all_goals
    go_ret
    refine ⟨?_, (((Below.refl _ _).alloc (Nat.le_refl _) _).alloc (by simp) _)⟩
    simp_all [bad]

end Go.Proofs.Ytgjhmpgofmmniaa

/- The order of entries, and what is right of them. -/
namespace Go.Proofs.Ytgjhmpgofmmniaa
open Go.RowKit

/-- One ahead of, at, or behind the other: below 0, 0, or above. -/
def cmpE (a b : AEnt) : Int := if cmpV a.k a.n a.s b.k b.n b.s = 0 then cmpI a.id b.id else cmpV a.k a.n a.s b.k b.n b.s
def eqV (a b : AEnt) : Bool := a.k == b.k && (a.n == b.n && a.s.toList == b.s.toList)
def lessE (a b : AEnt) : Bool := if eqV a b then decide (a.id < b.id) else lessV a.k a.n a.s b.k b.n b.s
def eqE (a b : AEnt) : Bool := eqV a b && a.id == b.id
def AEnt.ok (e : AEnt) : Bool := valOk e.k e.n e.s && (decide (1 ≤ e.id) && decide (e.id ≤ 60))

theorem bl_irr (a : List UInt8) : Op.bytesLess a a = false := by
  rw [bytesLess_eq, decide_eq_false_iff_not]; exact List.lt_irrefl a
theorem bl_asym (a b : List UInt8) (h : Op.bytesLess a b = true) : Op.bytesLess b a = false := by
  rw [bytesLess_eq, decide_eq_true_eq] at h
  rw [bytesLess_eq, decide_eq_false_iff_not]; exact List.lt_asymm h
theorem bl_trans (a b c : List UInt8) (h : Op.bytesLess a b = true) (k : Op.bytesLess b c = true) : Op.bytesLess a c = true := by
  rw [bytesLess_eq, decide_eq_true_eq] at h k ⊢
  exact List.lt_trans h k
theorem bl_tri (a b : List UInt8) (h : Op.bytesLess a b = false) (k : Op.bytesLess b a = false) : a = b := by
  rw [bytesLess_eq, decide_eq_false_iff_not] at h k
  exact List.le_antisymm (List.not_lt.1 k) (List.not_lt.1 h)

theorem eqV_iff (a b : AEnt) : eqV a b = true ↔ a.k = b.k ∧ a.n = b.n ∧ a.s.toList = b.s.toList := by simp [eqV]
theorem toList_inj {s t : ByteArray} (h : s.toList = t.toList) : s = t := by
  rw [Lib.toList_data, Lib.toList_data] at h
  cases s; cases t
  simp at h
  rw [h]
theorem eqV_ext {a b : AEnt} (h : eqV a b = true) : a.k = b.k ∧ a.n = b.n ∧ a.s = b.s := by
  obtain ⟨h1, h2, h3⟩ := (eqV_iff a b).1 h
  exact ⟨h1, h2, toList_inj h3⟩
theorem eqE_ext {a b : AEnt} (h : eqE a b = true) : a = b := by
  simp only [eqE, Bool.and_eq_true, beq_iff_eq] at h
  obtain ⟨h1, h2, h3⟩ := eqV_ext h.1
  cases a; cases b
  simp_all
theorem eqV_refl (a : AEnt) : eqV a a = true := by simp [eqV]
theorem eqE_refl (a : AEnt) : eqE a a = true := by simp [eqE, eqV]
theorem eqE_iff (a b : AEnt) : eqE a b = true ↔ a = b := ⟨eqE_ext, fun h => h ▸ eqE_refl a⟩

/-- The four are held against each other one by one. -/
theorem lessE_eq (a b : AEnt) : lessE a b = (if a.k = b.k then (if a.n = b.n then (if a.s.toList = b.s.toList then decide (a.id < b.id) else bad a.s b.s) else decide (a.n < b.n)) else decide (a.k < b.k)) := by
  unfold lessE
  rw [less_eq]
  by_cases h1 : a.k = b.k
  · by_cases h2 : a.n = b.n
    · by_cases h3 : a.s.toList = b.s.toList
      · simp [eqV, h1, h2, h3]
      · simp [eqV, h1, h2, h3]
    · simp [eqV, h1, h2]
  · simp [eqV, h1]

theorem lessE_irr (a : AEnt) : lessE a a = false := by rw [lessE_eq]; simp
def lx (k1 n1 : Int) (l1 : List UInt8) (i1 k2 n2 : Int) (l2 : List UInt8) (i2 : Int) : Bool :=
  if k1 = k2 then (if n1 = n2 then (if l1 = l2 then decide (i1 < i2) else Op.bytesLess l1 l2) else decide (n1 < n2)) else decide (k1 < k2)
theorem lx_trans (k1 n1 : Int) (l1 : List UInt8) (i1 k2 n2 : Int) (l2 : List UInt8) (i2 k3 n3 : Int) (l3 : List UInt8) (i3 : Int) (h : lx k1 n1 l1 i1 k2 n2 l2 i2 = true) (k : lx k2 n2 l2 i2 k3 n3 l3 i3 = true) : lx k1 n1 l1 i1 k3 n3 l3 i3 = true := by
  unfold lx at *
  by_cases p : k1 = k2
  · subst p
    by_cases q : k1 = k3
    · subst q
      by_cases r : n1 = n2
      · subst r
        by_cases t : n1 = n3
        · subst t
          by_cases x : l1 = l2
          · subst x
            by_cases y : l1 = l3
            · subst y
              simp only [if_true, decide_eq_true_eq] at *
              omega
            · simp only [if_true, if_neg y] at *; exact k
          · by_cases y : l2 = l3
            · subst y; simp only [if_true, if_neg x] at *; exact h
            · simp only [if_true, if_neg x, if_neg y] at *
              have hk := bl_trans _ _ _ h k
              have : ¬ l1 = l3 := fun e => by rw [e, bl_irr] at hk; cases hk
              simp only [if_neg this]; exact hk
        · simp only [if_true, if_neg t] at *; exact k
      · by_cases t : n2 = n3
        · subst t; simp only [if_true, if_neg r] at *; exact h
        · simp only [if_true, if_neg r, if_neg t, decide_eq_true_eq] at *
          rw [if_neg (by omega), decide_eq_true_eq]; omega
    · simp only [if_true, if_neg q] at *; exact k
  · by_cases q : k2 = k3
    · subst q; simp only [if_neg p] at *; exact h
    · simp only [if_neg p, if_neg q, decide_eq_true_eq] at *
      rw [if_neg (by omega), decide_eq_true_eq]; omega
theorem lessE_trans (a b c : AEnt) (h : lessE a b = true) (k : lessE b c = true) : lessE a c = true := by
  rw [lessE_eq] at *
  exact lx_trans _ _ _ _ _ _ _ _ _ _ _ _ h k
theorem lessE_asym (a b : AEnt) (h : lessE a b = true) : lessE b a = false := by
  cases k : lessE b a
  · rfl
  · have := lessE_trans a b a h k
    rw [lessE_irr] at this
    cases this
theorem lessE_tri (a b : AEnt) (h : lessE a b = false) (k : lessE b a = false) : a = b := by
  rw [lessE_eq] at h k
  unfold bad at h k
  have h1 : a.k = b.k := by
    by_cases p : a.k = b.k
    · exact p
    · rw [if_neg p, decide_eq_false_iff_not] at h
      rw [if_neg (fun e => p e.symm), decide_eq_false_iff_not] at k
      omega
  rw [h1] at h k
  simp only [if_true] at h k
  have h2 : a.n = b.n := by
    by_cases p : a.n = b.n
    · exact p
    · rw [if_neg p, decide_eq_false_iff_not] at h
      rw [if_neg (fun e => p e.symm), decide_eq_false_iff_not] at k
      omega
  rw [h2] at h k
  simp only [if_true] at h k
  have h3 : a.s.toList = b.s.toList := by
    by_cases p : a.s.toList = b.s.toList
    · exact p
    · rw [if_neg p] at h
      rw [if_neg (fun e => p e.symm)] at k
      exact bl_tri _ _ h k
  rw [h3] at h k
  simp only [if_true, decide_eq_false_iff_not] at h k
  have h4 : a.id = b.id := by omega
  exact eqE_ext (by simp [eqE, eqV, h1, h2, h3, h4])

theorem cmpV_eq (k1 n1 : Int) (s1 : ByteArray) (k2 n2 : Int) (s2 : ByteArray) :
    cmpV k1 n1 s1 k2 n2 s2 = if k1 = k2 ∧ n1 = n2 ∧ s1.toList = s2.toList then 0 else if lessV k1 n1 s1 k2 n2 s2 then -1 else 1 := by
  unfold lessV
  have h : cmpV k1 n1 s1 k2 n2 s2 = 0 ∨ cmpV k1 n1 s1 k2 n2 s2 = 1 ∨ cmpV k1 n1 s1 k2 n2 s2 = -1 := by
    unfold cmpV orI cmpI cmpS
    repeat' split
    all_goals omega
  have h0 : cmpV k1 n1 s1 k2 n2 s2 = 0 ↔ k1 = k2 ∧ n1 = n2 ∧ s1.toList = s2.toList := by
    unfold cmpV orI cmpI cmpS
    by_cases p : k1 = k2
    · subst p
      by_cases q : n1 = n2
      · subst q
        by_cases r : s1.toList = s2.toList
        · simp [r, bl_irr]
        · cases x : Op.bytesLess s1.toList s2.toList <;> simp [r]
      · by_cases x : n1 < n2
        · simp [q, x]
        · have : n2 < n1 := by omega
          simp [q, x, this]
    · by_cases x : k1 < k2
      · simp [p, x]
      · have : k2 < k1 := by omega
        simp [p, x, this]
  rcases h with h | h | h
  · rw [if_pos (h0.1 h), h]
  · rw [if_neg (fun e => by rw [h0.2 e] at h; omega), h]; rfl
  · rw [if_neg (fun e => by rw [h0.2 e] at h; omega), h]; rfl
theorem cmpE_eq (a b : AEnt) : cmpE a b = if lessE a b then -1 else if eqE a b then 0 else 1 := by
  unfold cmpE lessE eqE
  rw [cmpV_eq]
  by_cases h : eqV a b = true
  · rw [if_pos ((eqV_iff a b).1 h)]
    simp only [h, if_true, Bool.true_and, cmpI]
    by_cases x : a.id < b.id
    · simp [x]
    · by_cases y : a.id = b.id
      · simp [y]
      · have : b.id < a.id := by omega
        simp [x, y, this]
  · have h' : ¬ (a.k = b.k ∧ a.n = b.n ∧ a.s.toList = b.s.toList) := fun e => h ((eqV_iff a b).2 e)
    simp only [Bool.not_eq_true] at h
    rw [if_neg h']
    simp only [h]
    cases lessV a.k a.n a.s b.k b.n b.s <;> simp
theorem cmpE_lt (a b : AEnt) : decide (cmpE a b < 0) = lessE a b := by
  rw [cmpE_eq]
  cases lessE a b
  · cases eqE a b <;> rfl
  · rfl
theorem cmpE_zero (a b : AEnt) : (cmpE a b == 0) = eqE a b := by
  rw [cmpE_eq]
  cases h : lessE a b
  · cases eqE a b <;> rfl
  · cases k : eqE a b
    · rfl
    · rw [eqE_ext k, lessE_irr] at h; cases h

/-- Each stands ahead of the next. -/
def Asc (L : List AEnt) : Prop := ∀ i c d, L[i]? = some c → L[i + 1]? = some d → lessE c d = true
def ascB (L : List AEnt) : Bool := (List.range L.length).all fun i => match L[i]?, L[i + 1]? with | some c, some d => lessE c d | _, _ => true
theorem ascB_iff (L : List AEnt) : ascB L = true ↔ Asc L := by
  unfold ascB Asc
  rw [List.all_eq_true]
  constructor
  · intro h i c d hc hd
    have := h i (List.mem_range.2 (List.getElem?_eq_some_iff.1 hc).1)
    simpa [hc, hd] using this
  · intro h i hi
    have hi := List.mem_range.1 hi
    rw [List.getElem?_eq_getElem hi]
    cases hd : L[i + 1]? with
    | none => rfl
    | some d => exact h i _ d (List.getElem?_eq_getElem hi) hd
theorem Asc.lt {L : List AEnt} (h : Asc L) {i j : Nat} {c d : AEnt} (hij : i < j) (hc : L[i]? = some c) (hd : L[j]? = some d) : lessE c d = true := by
  induction j generalizing d with
  | zero => omega
  | succ j ih =>
    have hj : j < L.length := by have := (List.getElem?_eq_some_iff.1 hd).1; omega
    have he := List.getElem?_eq_getElem hj
    by_cases hij' : i = j
    · subst hij'; exact h i c d hc hd
    · exact lessE_trans _ _ _ (ih (by omega) he) (h j _ d he hd)

def indexOk (L : List AEnt) : Bool := decide (L.length ≤ 16) && (L.all AEnt.ok && ascB L)

theorem all_ok {L : List AEnt} (h : ∀ i c, i < L.length → L[i]? = some c → c.ok = true) : L.all AEnt.ok = true := by
  rw [List.all_eq_true]
  intro c hc
  obtain ⟨i, hi, he⟩ := List.getElem_of_mem hc
  exact h i c hi (by rw [List.getElem?_eq_getElem hi, he])
theorem all_bad {L : List AEnt} {k : Nat} {c : AEnt} (hc : L[k]? = some c) (h : c.ok = false) : L.all AEnt.ok = false := by
  rw [List.all_eq_false]
  obtain ⟨hk, e⟩ := List.getElem?_eq_some_iff.1 hc
  exact ⟨c, e ▸ List.getElem_mem hk, by simp [h]⟩
theorem asc_bad {L : List AEnt} {k : Nat} {c d : AEnt} (hc : L[k]? = some c) (hd : L[k + 1]? = some d) (h : lessE c d = false) : ascB L = false := by
  cases k' : ascB L
  · rfl
  · have := (ascB_iff L).1 k' k c d hc hd
    rw [h] at this; cases this

end Go.Proofs.Ytgjhmpgofmmniaa

/- The contracts of spec.l8Less and spec.IndexOk, over the seat's translation. -/
namespace Go.Proofs.Ytgjhmpgofmmniaa
open Go.RowKit

set_option maxHeartbeats 1000000 in
theorem neq_val (c d : AEnt) (w : World) :
    (binOp .neq 27 (.agg #[.int .i64 c.k, .int .i64 c.n, .string c.s]) (.agg #[.int .i64 d.k, .int .i64 d.n, .string d.s])).run Try.prog w = .ok (.bool (!(eqV c d))) w := by
  unfold eqV
  go_simp
  by_cases a : c.k = d.k <;> by_cases b : c.n = d.n <;> by_cases e : c.s.toList = d.s.toList <;> simp [a, b, e]

set_option maxRecDepth 100000 in
set_option maxHeartbeats 1000000 in
theorem less_entry (x y : AEnt) (w : World) :
    Calls Try.prog 32 #[.agg #[.int .i64 x.k, .int .i64 x.n, .string x.s, .int .i64 x.id], .agg #[.int .i64 y.k, .int .i64 y.n, .string y.s, .int .i64 y.id]] w fun e w' => e = .returned (.bool (lessE x y)) ∧ Below w.heap.size w w' := by
  have hq := neq_val x y
  have hB : Hid (Below w.heap.size w ((w.alloc (.cells #[.int .i64 x.k, .int .i64 x.n, .string x.s, .int .i64 x.id] 29)).alloc (.cells #[.int .i64 y.k, .int .i64 y.n, .string y.s, .int .i64 y.id] 29))) := ((Below.refl _ _).alloc (Nat.le_refl _) _).alloc (by simp) _
  cases he : eqV x y
  · have hl : Hid (lessE x y = lessV x.k x.n x.s y.k y.n y.s) := by unfold lessE; rw [he]; rfl
    go_enter Try.func32, Try.ntmps32
    go_wp2_with fail
    refine (spec_less _ _ _ _ _ _ _).mono ?_
    rintro e w' ⟨rfl, hb⟩
    clear hq he
    go_wp2_with fail
    go_ret
    exact ⟨ret_bool hl.out.symm, hB.out.trans (hb.mono (by simp; omega))⟩
  · have hl : Hid (lessE x y = decide (x.id < y.id)) := by unfold lessE; rw [he]; rfl
    go_enter Try.func32, Try.ntmps32
    go_wp2_with fail
    all_goals
      go_ret
      exact ⟨ret_bool (by rw [hl.out]), hB.out⟩

end Go.Proofs.Ytgjhmpgofmmniaa
