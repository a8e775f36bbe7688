/- Contract of impl.valueOf at a text, over the seat's translation. -/
import Derived.Test.YtobblnlefhkanaaG01
import Derived.Deep.MidRow
namespace Go.Proofs.Ytobblnlefhkanaa
open Go.RowKit

set_option maxHeartbeats 400000 in
theorem value_text (n : Int) (s : ByteArray) (w : World) (hs : s.size ≤ maxLen) :
    Calls Try.prog 64 #[.agg #[.int .i64 2, .int .i64 n, .string s]] w fun e w' => e = .returned (.tuple #[.iface 93 (.string s), .bool (valOk 2 n s)]) ∧ Below w.heap.size w w' := by
  have hm1 := m_text_ok s
  have hm2 := m_text_val s
  have hB := held_box w 2 n s 36
  go_enter Try.func64, Try.ntmps64
  go_wp2
  cases hn : textOk s
  · clear hB
    first
      | (go_region_with (go_at_call 99; refine (text_ok _ _ hs).mono ?_; rintro e w' ⟨rfl, hb⟩))
      | fail
    all_goals
      go_wp2
      go_ret2
      have hb := ‹Below _ (World.drew _) _›
      refine ⟨?_, (((Below.refl _ _).alloc (Nat.le_refl _) _).drew).trans (hb.mono (by simp))⟩
      simp [valOk, hn, go_sem]
  · by_cases hse : n = 0
    · subst hse
      go_region_held3 (fun W => Held1 w w.heap.size 2 0 s W) (first | assumption | exact held_drew (by assumption))
        (first
          | (go_at_call 99; refine (text_ok _ _ hs).mono ?_; rintro e w' ⟨rfl, hb⟩; have hN := held_next (by assumption) hb; clear hb)
          | (go_at_call 101; refine (text_val _ _).mono ?_; rintro e w' ⟨rfl, hb⟩; have hN := held_next (by assumption) hb; clear hb))
      go_wp2
      go_ret2
      have hE := ‹Held1 w w.heap.size 2 0 s _›
      refine ⟨?_, hE.2.2.2.2⟩
      simp [valOk, hn]
    · have hne : (0 : Int) ≠ n := fun h => hse h.symm
      go_region_held3 (fun W => Held1 w w.heap.size 2 n s W) (first | assumption | exact held_drew (by assumption))
        (first
          | (go_at_call 99; refine (text_ok _ _ hs).mono ?_; rintro e w' ⟨rfl, hb⟩; have hN := held_next (by assumption) hb; clear hb)
          | (go_at_call 101; refine (text_val _ _).mono ?_; rintro e w' ⟨rfl, hb⟩; have hN := held_next (by assumption) hb; clear hb))
      go_wp2
      go_ret2
      have hE := ‹Held1 w w.heap.size 2 n s _›
      refine ⟨?_, hE.2.2.2.2⟩
      simp [valOk, hse]

end Go.Proofs.Ytobblnlefhkanaa

/- Contracts of impl.valueOf at nothing and at what is of no kind, over the seat's translation. -/
namespace Go.Proofs.Ytobblnlefhkanaa
open Go.RowKit

set_option maxHeartbeats 400000 in
theorem value_none (n : Int) (s : ByteArray) (w : World) :
    Calls Try.prog 64 #[.agg #[.int .i64 0, .int .i64 n, .string s]] w fun e w' => e = .returned (.tuple #[.iface 91 (.agg #[]), .bool (valOk 0 n s)]) ∧ Below w.heap.size w w' := by
  have hm1 := m_none_ok
  have hm2 := m_none_val
  have hB := held_box w 0 n s 36
  by_cases hse : n = 0
  · subst hse
    by_cases hl : s.toList = []
    all_goals
      go_enter Try.func64, Try.ntmps64
      go_wp2
      go_region_held3 (fun W => Held1 w w.heap.size 0 0 s W) (first | assumption | exact held_drew (by assumption))
        (first
          | (go_at_call 89; refine (none_ok _).mono ?_; rintro e w' ⟨rfl, hb⟩; have hN := held_next (by assumption) hb; clear hb)
          | (go_at_call 91; refine (none_val _).mono ?_; rintro e w' ⟨rfl, hb⟩; have hN := held_next (by assumption) hb; clear hb))
      go_wp2
      go_ret2
      have hE := ‹Held1 w w.heap.size 0 0 s _›
      refine ⟨?_, hE.2.2.2.2⟩
      simp [valOk, hl]
  · have hne : ¬ (0 : Int) = n := fun h => hse h.symm
    go_enter Try.func64, Try.ntmps64
    go_wp2
    go_region_held3 (fun W => Held1 w w.heap.size 0 n s W) (first | assumption | exact held_drew (by assumption))
      (first
        | (go_at_call 89; refine (none_ok _).mono ?_; rintro e w' ⟨rfl, hb⟩; have hN := held_next (by assumption) hb; clear hb)
        | (go_at_call 91; refine (none_val _).mono ?_; rintro e w' ⟨rfl, hb⟩; have hN := held_next (by assumption) hb; clear hb))
    go_wp2
    go_ret2
    have hE := ‹Held1 w w.heap.size 0 n s _›
    refine ⟨?_, hE.2.2.2.2⟩
    simp [valOk, hse]

set_option maxHeartbeats 400000 in
theorem value_other (k n : Int) (s : ByteArray) (w : World) (h0 : (k == 0) = false) (h1 : (k == 1) = false) (h2 : (k == 2) = false) :
    Calls Try.prog 64 #[.agg #[.int .i64 k, .int .i64 n, .string s]] w fun e w' => e = .returned (.tuple #[.iface 91 (.agg #[]), .bool (valOk k n s)]) ∧ Below w.heap.size w w' := by
  go_enter Try.func64, Try.ntmps64
  go_wp2
  go_ret2
  refine ⟨?_, (Below.refl _ _).alloc (Nat.le_refl _) _⟩
  simp at h0 h1 h2
  simp [valOk, h0, h1, h2]

end Go.Proofs.Ytobblnlefhkanaa

/- Contract of impl.ValOk, over the seat's translation. -/
namespace Go.Proofs.Ytobblnlefhkanaa
open Go.RowKit

theorem value_any (k n : Int) (s : ByteArray) (w : World) (hs : s.size ≤ maxLen) :
    Calls Try.prog 64 #[.agg #[.int .i64 k, .int .i64 n, .string s]] w fun e w' => ∃ t v, e = .returned (.tuple #[.iface t v, .bool (valOk k n s)]) ∧ Below w.heap.size w w' := by
  by_cases h0 : k = 0
  · subst h0; exact (value_none n s w).mono fun e w' h => ⟨_, _, h⟩
  · by_cases h1 : k = 1
    · subst h1; exact (value_num n s w).mono fun e w' h => ⟨_, _, h⟩
    · by_cases h2 : k = 2
      · subst h2; exact (value_text n s w hs).mono fun e w' h => ⟨_, _, h⟩
      · exact (value_other k n s w (beq_eq_false_iff_ne.2 h0) (beq_eq_false_iff_ne.2 h1) (beq_eq_false_iff_ne.2 h2)).mono fun e w' h => ⟨_, _, h⟩

theorem impl_ok (k n : Int) (s : ByteArray) (w : World) (hs : s.size ≤ maxLen) :
    Calls Try.prog 55 #[.agg #[.int .i64 k, .int .i64 n, .string s]] w fun e w' => e = .returned (.bool (valOk k n s)) ∧ Below w.heap.size w w' := by
  go_enter Try.func55, Try.ntmps55
  go_wp2_with fail
  refine (value_any _ _ _ _ hs).mono ?_
  rintro e w' ⟨t, v, rfl, hb⟩
  go_wp2_with fail
  go_ret
  exact ⟨rfl, ((Below.refl _ _).alloc (Nat.le_refl _) _).trans (hb.mono (by simp))⟩

end Go.Proofs.Ytobblnlefhkanaa

/- Entries: where they lie, and how they are read. Over the seat's translation. -/
namespace Go.Proofs.Ytobblnlefhkanaa
open Go.RowKit

/-- An entry. -/
structure AEnt where
  k : Int
  n : Int
  s : ByteArray
  id : Int

def AEnt.cells (e : AEnt) : List Value := [.int .i64 e.k, .int .i64 e.n, .string e.s, .int .i64 e.id]
def AEnt.fit (e : AEnt) : Prop := e.s.size ≤ maxLen

/-- The entries L lie in W from where the slice begins. -/
def EntsAt (W : World) (a : Option Addr) (L : List AEnt) : Prop :=
  L = [] ∨ ∃ b o, a = some ⟨b, o, none⟩ ∧ b < W.heap.size ∧ ∀ i c, L[i]? = some c → W.rangeAt b (o + i * 4) c.cells

theorem EntsAt.keep {W W' : World} {a : Option Addr} {L : List AEnt} (h : EntsAt W a L) (hb : Below W.heap.size W W') : EntsAt W' a L := by
  rcases h with h | ⟨b, o, ha, hlt, hr⟩
  · exact Or.inl h
  · refine Or.inr ⟨b, o, ha, Nat.lt_of_lt_of_le hlt hb.size, fun i c hc j v hv => ?_⟩
    rw [(bcell hb).1 _ _ hlt]
    exact hr i c hc j v hv

theorem run_ix4 {P : Program} (t e : TypeId) (b o len cap k : Nat) (w : World) (hk : k < len) (ht : P.underlying t = some (.slice e)) (hs : (sizeOf e).run P w = .ok 4 w) :
    (Instr.indexAt t (.slice (some ⟨b, o, none⟩) len cap) (.int .i64 k)).run P w = .ok (.pointer (some ⟨b, o + k * 4, none⟩)) w := by
  have hE : P.elem t = e := by simp [Program.elem, ht]
  rw [run_indexAt_slice w t _ len cap .i64 k (by rw [hE]; exact ht), if_pos ⟨by omega, by omega⟩, hE, hs]
  simp [Addr.add_mid]

theorem EntsAt.at {W : World} {a : Option Addr} {L : List AEnt} (h : EntsAt W a L) {k : Nat} (hk : k < L.length) :
    ∃ b o, a = some ⟨b, o, none⟩ ∧ b < W.heap.size ∧ W.rangeAt b (o + k * 4) L[k].cells := by
  rcases h with h | ⟨b, o, ha, hlt, hr⟩
  · subst h; simp at hk
  · exact ⟨b, o, ha, hlt, hr k _ (List.getElem?_eq_getElem hk)⟩

/-- The four cells of an entry at an offset. -/
abbrev Cells4 (W : World) (b o : Nat) (c : AEnt) : Prop :=
  W.cell? ⟨b, o, none⟩ = some (.int .i64 c.k) ∧ W.cell? ⟨b, o + 1, none⟩ = some (.int .i64 c.n) ∧ W.cell? ⟨b, o + 2, none⟩ = some (.string c.s) ∧ W.cell? ⟨b, o + 3, none⟩ = some (.int .i64 c.id)
theorem cells4_of {W : World} {b o : Nat} {c : AEnt} (h : W.rangeAt b o c.cells) : Cells4 W b o c := ⟨h 0 _ rfl, h 1 _ rfl, h 2 _ rfl, h 3 _ rfl⟩
theorem cells4_next {W W' : World} {b o : Nat} {c : AEnt} (h : Cells4 W b o c) (hlt : b < W.heap.size) (hb : Below W.heap.size W W') : Cells4 W' b o c := by
  have hc := fun x => (bcell hb).1 b x hlt
  unfold Cells4
  simp only [hc]
  exact h

theorem Try.info38 : ∃ i, Try.prog.info? 38 = some i ∧ i.zero = some (.agg #[.int .i64 0, .int .i64 0, .string ⟨#[]⟩, .int .i64 0]) ∧ i.size = 4 ∧ i.bytes ≤ 128 := by
  have h : (Try.prog.info? 38).map (fun i => (i.zero, i.size, decide (i.bytes ≤ 128))) = some (some (.agg #[.int .i64 0, .int .i64 0, .string ⟨#[]⟩, .int .i64 0]), 4, true) := by kernel_rfl
  obtain ⟨i, hi, he⟩ := Option.map_eq_some_iff.1 h
  simp only [Prod.mk.injEq, decide_eq_true_eq] at he
  exact ⟨i, hi, he.1, he.2.1, he.2.2⟩

theorem quiet_below (B : Nat) (w : World) (n : Nat) : Below B w (w.drewN n) := by
  induction n with
  | zero => exact Below.refl _ _
  | succ n ih => exact ih.drew

theorem there_next {B n : Nat} {W W' : World} (h : W.there B 0 n) (hB : B < W.heap.size) (hb : Below W.heap.size W W') : W'.there B 0 n := fun j hj => by
  rw [(bcell hb).1 _ _ hB, (bcell hb).2 _ _ hB]
  exact h j hj

/-- What is left of l: -1, or not less than nought, and then P. -/
def Rest (l z : Int) (P : Prop) : Prop := z = -1 ∨ (0 ≤ z ∧ z ≤ l ∧ P)

theorem size_alloc (w : World) (o : Obj) : (w.alloc o).heap.size = w.heap.size + 1 := by simp

theorem range_next {W W' : World} {B o : Nat} {cs : List Value} (h : W.rangeAt B o cs) (hB : B < W.heap.size) (hb : Below W.heap.size W W') : W'.rangeAt B o cs := fun j v hv => by
  rw [(bcell hb).1 _ _ hB]
  exact h j v hv

/-- The box at B holds these values in W. -/
def Box (B : Nat) (cs : List Value) (W : World) : Prop := W.rangeAt B 0 cs ∧ B < W.heap.size
theorem Box.next {B : Nat} {cs : List Value} {W W' : World} (h : Box B cs W) (hb : Below W.heap.size W W') : Box B cs W' := ⟨range_next h.1 h.2 hb, Nat.lt_of_lt_of_le h.2 hb.size⟩
theorem Box.start (w : World) (cs : List Value) (t : TypeId) : Box w.heap.size cs (w.alloc (.cells cs.toArray t)) := by
  refine ⟨fun j v hv => ?_, by simp⟩
  have hb : (w.alloc (.cells cs.toArray t)).heap[w.heap.size]? = some (.cells cs.toArray t) := by
    show (w.heap.push _)[w.heap.size]? = _
    simp
  simp only [World.cell?, hb]
  simpa using hv
theorem Box.four {B : Nat} {v0 v1 v2 v3 : Value} {W : World} (h : Box B [v0, v1, v2, v3] W) : W.cell? ⟨B, 0, none⟩ = some v0 ∧ W.cell? ⟨B, 1, none⟩ = some v1 ∧ W.cell? ⟨B, 2, none⟩ = some v2 ∧ W.cell? ⟨B, 3, none⟩ = some v3 := ⟨h.1 0 _ rfl, h.1 1 _ rfl, h.1 2 _ rfl, h.1 3 _ rfl⟩
theorem Box.three {B : Nat} {v0 v1 v2 : Value} {W : World} (h : Box B [v0, v1, v2] W) : W.cell? ⟨B, 0, none⟩ = some v0 ∧ W.cell? ⟨B, 1, none⟩ = some v1 ∧ W.cell? ⟨B, 2, none⟩ = some v2 := ⟨h.1 0 _ rfl, h.1 1 _ rfl, h.1 2 _ rfl⟩

end Go.Proofs.Ytobblnlefhkanaa

/- An entry at two places. -/
namespace Go.Proofs.Ytobblnlefhkanaa
open Go.RowKit

/-- An entry lies at two places in W, and W lies over w. -/
abbrev TwoEnts (w : World) (b1 o1 b2 o2 : Nat) (c d : AEnt) (W : World) : Prop := Cells4 W b1 o1 c ∧ Cells4 W b2 o2 d ∧ b1 < W.heap.size ∧ b2 < W.heap.size ∧ Below w.heap.size w W

theorem twoe_next {w : World} {b1 o1 b2 o2 : Nat} {c d : AEnt} {W W' : World} (h : TwoEnts w b1 o1 b2 o2 c d W) (hb : Below W.heap.size W W') : TwoEnts w b1 o1 b2 o2 c d W' := by
  obtain ⟨h1, h2, h3, h4, h5⟩ := h
  have hz := hb.size
  exact ⟨cells4_next h1 h3 hb, cells4_next h2 h4 hb, by omega, by omega, h5.trans (hb.mono h5.size)⟩

theorem twoe_drew {w : World} {b1 o1 b2 o2 : Nat} {c d : AEnt} {W : World} (h : TwoEnts w b1 o1 b2 o2 c d W) : TwoEnts w b1 o1 b2 o2 c d W.drew := twoe_next h (Below.refl _ _).drew

end Go.Proofs.Ytobblnlefhkanaa
