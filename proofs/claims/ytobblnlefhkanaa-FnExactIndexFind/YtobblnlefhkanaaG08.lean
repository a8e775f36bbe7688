/- What is carried through the laws of IndexPut and IndexOff, over the seat's translation. -/
import Derived.Test.YtobblnlefhkanaaG03
import Derived.Test.YtobblnlefhkanaaG07
import Derived.Test.YtobblnlefhkanaaG05
import Derived.Laws.StructEq
import Derived.Test.YtobblnlefhkanaaG02
namespace Go.Proofs.Ytobblnlefhkanaa
open Go.RowKit

/-- The entries L lie in W ahead of block p. -/
def FarE (p : Nat) (a : Option Addr) (L : List AEnt) (W : World) : Prop :=
  L = [] ∨ ∃ b o, a = some ⟨b, o, none⟩ ∧ b < p ∧ ∀ i c, L[i]? = some c → W.rangeAt b (o + i * 4) c.cells
theorem FarE.next {p : Nat} {a : Option Addr} {L : List AEnt} {W W' : World} (h : FarE p a L W) (hb : Below p W W') : FarE p a L W' := by
  rcases h with h | ⟨b, o, e, hlt, hr⟩
  · exact Or.inl h
  · exact Or.inr ⟨b, o, e, hlt, fun i c hc j v hv => by rw [hb.cell (p := ⟨b, _, none⟩) hlt]; exact hr i c hc j v hv⟩
theorem FarE.ents {p : Nat} {a : Option Addr} {L : List AEnt} {W : World} (h : FarE p a L W) (hp : p ≤ W.heap.size) : EntsAt W a L := by
  rcases h with h | ⟨b, o, e, hlt, hr⟩
  · exact Or.inl h
  · exact Or.inr ⟨b, o, e, Nat.lt_of_lt_of_le hlt hp, hr⟩
theorem FarE.of {a : Option Addr} {L : List AEnt} {W : World} (h : EntsAt W a L) : FarE W.heap.size a L W := h
theorem FarE.mono {p q : Nat} {a : Option Addr} {L : List AEnt} {W : World} (h : FarE p a L W) (hp : p ≤ q) : FarE q a L W := by
  rcases h with h | ⟨b, o, e, hlt, hr⟩
  · exact Or.inl h
  · exact Or.inr ⟨b, o, e, Nat.lt_of_lt_of_le hlt hp, hr⟩

/-- What came in: entries, and an entry in its box; all lies ahead of block p. -/
structure InE (w : World) (p : Nat) (a : Option Addr) (L : List AEnt) (x : AEnt) (W : World) : Prop where
  inp : FarE p a L W
  box : W.rangeAt w.heap.size 0 [.int .i64 x.k, .int .i64 x.n, .string x.s, .int .i64 x.id]
  lt : w.heap.size < p
  le : p ≤ W.heap.size
  bel : Below w.heap.size w W
theorem InE.next {w : World} {p : Nat} {a : Option Addr} {L : List AEnt} {x : AEnt} {W W' : World} (h : InE w p a L x W) (hb : Below p W W') : InE w p a L x W' :=
  ⟨h.inp.next hb, fun j v hv => by rw [hb.cell (p := ⟨w.heap.size, _, none⟩) h.lt]; exact h.box j v hv, h.lt, Nat.le_trans h.le hb.size, h.bel.trans (hb.mono (Nat.le_of_lt h.lt))⟩
theorem InE.later {w : World} {p : Nat} {a : Option Addr} {L : List AEnt} {x : AEnt} {W W' : World} (h : InE w p a L x W) (hb : Below W.heap.size W W') : InE w p a L x W' := h.next (hb.mono h.le)
theorem InE.drew {w : World} {p : Nat} {a : Option Addr} {L : List AEnt} {x : AEnt} {W : World} (h : InE w p a L x W) : InE w p a L x W.drew := h.later (Below.refl _ _).drew
theorem InE.up {w : World} {p : Nat} {a : Option Addr} {L : List AEnt} {x : AEnt} {W : World} (h : InE w p a L x W) : InE w W.heap.size a L x W := ⟨h.inp.mono h.le, h.box, Nat.lt_of_lt_of_le h.lt h.le, Nat.le_refl _, h.bel⟩
theorem InE.start {w : World} {a : Option Addr} {L : List AEnt} (x : AEnt) (h : EntsAt w a L) (t : TypeId) : InE w (w.heap.size + 1) a L x (w.alloc (.cells #[.int .i64 x.k, .int .i64 x.n, .string x.s, .int .i64 x.id] t)) :=
  ⟨(h.keep ((Below.refl _ _).alloc (Nat.le_refl _) _)) |> FarE.of |> fun k => by rwa [size_alloc] at k, (Box.start w [.int .i64 x.k, .int .i64 x.n, .string x.s, .int .i64 x.id] t).1, Nat.lt_succ_self _, by simp, (Below.refl _ _).alloc (Nat.le_refl _) _⟩
theorem InE.cells {w : World} {p : Nat} {a : Option Addr} {L : List AEnt} {x : AEnt} {W : World} (h : InE w p a L x W) : W.cell? ⟨w.heap.size, 0, none⟩ = some (.int .i64 x.k) ∧ W.cell? ⟨w.heap.size, 1, none⟩ = some (.int .i64 x.n) ∧ W.cell? ⟨w.heap.size, 2, none⟩ = some (.string x.s) ∧ W.cell? ⟨w.heap.size, 3, none⟩ = some (.int .i64 x.id) :=
  ⟨h.box 0 _ rfl, h.box 1 _ rfl, h.box 2 _ rfl, h.box 3 _ rfl⟩
theorem InE.ents {w : World} {p : Nat} {a : Option Addr} {L : List AEnt} {x : AEnt} {W : World} (h : InE w p a L x W) : EntsAt W a L := h.inp.ents h.le

/-- The same, its box's cells besides. -/
abbrev InC (w : World) (p : Nat) (a : Option Addr) (L : List AEnt) (x : AEnt) (W : World) : Prop :=
  InE w p a L x W ∧ W.cell? ⟨w.heap.size, 0, none⟩ = some (.int .i64 x.k) ∧ W.cell? ⟨w.heap.size, 1, none⟩ = some (.int .i64 x.n) ∧ W.cell? ⟨w.heap.size, 2, none⟩ = some (.string x.s) ∧ W.cell? ⟨w.heap.size, 3, none⟩ = some (.int .i64 x.id)
theorem InE.c {w : World} {p : Nat} {a : Option Addr} {L : List AEnt} {x : AEnt} {W : World} (h : InE w p a L x W) : InC w p a L x W := ⟨h, h.cells⟩
theorem inc_later {w : World} {p : Nat} {a : Option Addr} {L : List AEnt} {x : AEnt} {W W' : World} (h : InC w p a L x W) (hb : Below W.heap.size W W') : InC w p a L x W' := (h.1.later hb).c
theorem inc_drew {w : World} {p : Nat} {a : Option Addr} {L : List AEnt} {x : AEnt} {W : World} (h : InC w p a L x W) : InC w p a L x W.drew := inc_later h (Below.refl _ _).drew

theorem row_any {base : Nat} {v : Value} {L : List AEnt} {W : World} (h : RowE base v L W) : ∃ a c, v = .slice a L.length c ∧ EntsAt W a L := by
  obtain ⟨a, c, h1, -, -, h2⟩ := h.slice
  exact ⟨a, c, h1, h2⟩

theorem RowE.same {base : Nat} {a : Option Addr} {n c : Nat} {L : List AEnt} {W : World} (h : RowE base (.slice a n c) L W) : EntsAt W a L := by
  obtain ⟨a', c', e, h2⟩ := row_any h
  cases e
  exact h2

/-- Besides, what the specification answers. -/
structure SpE (w : World) (p : Nat) (a : Option Addr) (L : List AEnt) (x : AEnt) (aw : Option Addr) (N : List AEnt) (W : World) : Prop where
  ine : InE w p a L x W
  sp : FarE p aw N W
theorem SpE.next {w : World} {p : Nat} {a : Option Addr} {L : List AEnt} {x : AEnt} {aw : Option Addr} {N : List AEnt} {W W' : World} (h : SpE w p a L x aw N W) (hb : Below p W W') : SpE w p a L x aw N W' := ⟨h.ine.next hb, h.sp.next hb⟩
theorem SpE.later {w : World} {p : Nat} {a : Option Addr} {L : List AEnt} {x : AEnt} {aw : Option Addr} {N : List AEnt} {W W' : World} (h : SpE w p a L x aw N W) (hb : Below W.heap.size W W') : SpE w p a L x aw N W' := h.next (hb.mono h.ine.le)
theorem SpE.ents {w : World} {p : Nat} {a : Option Addr} {L : List AEnt} {x : AEnt} {aw : Option Addr} {N : List AEnt} {W : World} (h : SpE w p a L x aw N W) : EntsAt W aw N := h.sp.ents h.ine.le

/-- Besides, the entries made anew at block p. -/
abbrev XE (w : World) (p : Nat) (a : Option Addr) (L : List AEnt) (x : AEnt) (aw : Option Addr) (N : List AEnt) (W : World) : Prop :=
  (SpE w p a L x aw N W ∧ p < W.heap.size ∧ EntsAt W (some ⟨p, 0, none⟩) L ∧ W.there p 0 (L.length * 4)) ∧ W.cell? ⟨w.heap.size, 0, none⟩ = some (.int .i64 x.k) ∧ W.cell? ⟨w.heap.size, 1, none⟩ = some (.int .i64 x.n) ∧ W.cell? ⟨w.heap.size, 2, none⟩ = some (.string x.s) ∧ W.cell? ⟨w.heap.size, 3, none⟩ = some (.int .i64 x.id)
theorem xe_later {w : World} {p : Nat} {a : Option Addr} {L : List AEnt} {x : AEnt} {aw : Option Addr} {N : List AEnt} {W W' : World} (h : XE w p a L x aw N W) (hb : Below W.heap.size W W') : XE w p a L x aw N W' := by
  obtain ⟨⟨h1, h2, h3, h4⟩, _⟩ := h
  have h1' := h1.later hb
  exact ⟨⟨h1', Nat.lt_of_lt_of_le h2 hb.size, h3.keep hb, there_next h4 h2 hb⟩, h1'.ine.cells⟩
theorem xe_drew {w : World} {p : Nat} {a : Option Addr} {L : List AEnt} {x : AEnt} {aw : Option Addr} {N : List AEnt} {W : World} (h : XE w p a L x aw N W) : XE w p a L x aw N W.drew := xe_later h (Below.refl _ _).drew

/-- Block g bears the marks of n entries from 1 on. -/
def MkE (g n : Nat) (W : World) : Prop := g < W.heap.size ∧ ∀ j, j < n → W.rangeAt g (j * 4) (mkEnt (1 + 4 * j)).cells
theorem MkE.next {g n : Nat} {W W' : World} (h : MkE g n W) (hb : Below W.heap.size W W') : MkE g n W' := ⟨Nat.lt_of_lt_of_le h.1 hb.size, fun j hj => range_next (h.2 j hj) h.1 hb⟩
/-- What the specification answers, and marks. -/
abbrev YE (w : World) (p : Nat) (a : Option Addr) (L : List AEnt) (x : AEnt) (aw : Option Addr) (N : List AEnt) (g n : Nat) (W : World) : Prop :=
  (SpE w p a L x aw N W ∧ MkE g n W) ∧ W.cell? ⟨w.heap.size, 0, none⟩ = some (.int .i64 x.k) ∧ W.cell? ⟨w.heap.size, 1, none⟩ = some (.int .i64 x.n) ∧ W.cell? ⟨w.heap.size, 2, none⟩ = some (.string x.s) ∧ W.cell? ⟨w.heap.size, 3, none⟩ = some (.int .i64 x.id)
theorem ye_later {w : World} {p : Nat} {a : Option Addr} {L : List AEnt} {x : AEnt} {aw : Option Addr} {N : List AEnt} {g n : Nat} {W W' : World} (h : YE w p a L x aw N g n W) (hb : Below W.heap.size W W') : YE w p a L x aw N g n W' := by
  obtain ⟨⟨h1, h2⟩, _⟩ := h
  have h1' := h1.later hb
  exact ⟨⟨h1', h2.next hb⟩, h1'.ine.cells⟩
theorem ye_drew {w : World} {p : Nat} {a : Option Addr} {L : List AEnt} {x : AEnt} {aw : Option Addr} {N : List AEnt} {g n : Nat} {W : World} (h : YE w p a L x aw N g n W) : YE w p a L x aw N g n W.drew := ye_later h (Below.refl _ _).drew

/-- A row's block, or any block where there is no entry. -/
theorem RowE.block {base : Nat} {a : Option Addr} {n c : Nat} {L : List AEnt} {W : World} (h : RowE base (.slice a n c) L W) (hb : base < W.heap.size) (hn : n = L.length) : ∃ g, (a = some ⟨g, 0, none⟩ ∨ n = 0) ∧ base ≤ g ∧ g < W.heap.size ∧ W.there g 0 (n * 4) := by
  rcases h with ⟨hv, hL⟩ | ⟨b, cap, hv, h1, h2, _, _, h5⟩
  · subst hL
    subst hn
    exact ⟨base, Or.inr rfl, Nat.le_refl _, hb, fun j hj => by simp at hj⟩
  · cases hv
    exact ⟨b, Or.inl rfl, h1, h2, h5⟩
theorem RowE.turn {base B : Nat} {v : Value} {L : List AEnt} {W W' : World} (h : RowE base v L W) (ht : Turn B W W') (hB : B < base) : RowE base v L W' := by
  rcases h with h | ⟨b, cap, hv, h1, h2, h3, h4, h5⟩
  · exact Or.inl h
  · have hne : b ≠ B := by omega
    refine Or.inr ⟨b, cap, hv, h1, Nat.lt_of_lt_of_le h2 ht.size, h3, ht.ents h4 (Or.inr fun b' o' e => by cases e; exact hne), fun j hj => ?_⟩
    rw [ht.cell h2 hne, ht.frozen h2 hne]
    exact h5 j hj

end Go.Proofs.Ytobblnlefhkanaa

/- The contracts of spec.l8Less and spec.IndexOk, over the seat's translation. -/
namespace Go.Proofs.Ytobblnlefhkanaa
open Go.RowKit

set_option maxHeartbeats 1000000 in
theorem neq_val (c d : AEnt) (w : World) :
    (binOp .neq 36 (.agg #[.int .i64 c.k, .int .i64 c.n, .string c.s]) (.agg #[.int .i64 d.k, .int .i64 d.n, .string d.s])).run Try.prog w = .ok (.bool (!(eqV c d))) w := by
  unfold eqV
  go_simp
  by_cases a : c.k = d.k <;> by_cases b : c.n = d.n <;> by_cases e : c.s.toList = d.s.toList <;> simp [a, b, e]

set_option maxRecDepth 100000 in
set_option maxHeartbeats 1000000 in
theorem less_entry (x y : AEnt) (w : World) :
    Calls Try.prog 34 #[.agg #[.int .i64 x.k, .int .i64 x.n, .string x.s, .int .i64 x.id], .agg #[.int .i64 y.k, .int .i64 y.n, .string y.s, .int .i64 y.id]] w fun e w' => e = .returned (.bool (lessE x y)) ∧ Below w.heap.size w w' := by
  have hq := neq_val x y
  have hB : Hid (Below w.heap.size w ((w.alloc (.cells #[.int .i64 x.k, .int .i64 x.n, .string x.s, .int .i64 x.id] 38)).alloc (.cells #[.int .i64 y.k, .int .i64 y.n, .string y.s, .int .i64 y.id] 38))) := ((Below.refl _ _).alloc (Nat.le_refl _) _).alloc (by simp) _
  cases he : eqV x y
  · have hl : Hid (lessE x y = lessV x.k x.n x.s y.k y.n y.s) := by unfold lessE; rw [he]; rfl
    go_enter Try.func34, Try.ntmps34
    go_wp2_with fail
    refine (spec_less _ _ _ _ _ _ _).mono ?_
    rintro e w' ⟨rfl, hb⟩
    clear hq he
    go_wp2_with fail
    go_ret
    exact ⟨ret_bool hl.out.symm, hB.out.trans (hb.mono (by simp; omega))⟩
  · have hl : Hid (lessE x y = decide (x.id < y.id)) := by unfold lessE; rw [he]; rfl
    go_enter Try.func34, Try.ntmps34
    go_wp2_with fail
    all_goals
      go_ret
      exact ⟨ret_bool (by rw [hl.out]), hB.out⟩

end Go.Proofs.Ytobblnlefhkanaa

/- The contract of spec.IndexOk, over the seat's translation. -/
namespace Go.Proofs.Ytobblnlefhkanaa
open Go.RowKit

/-- The first k are right, and each of them stands ahead of the next. -/
def OkTo (L : List AEnt) (k : Nat) : Prop := (∀ i c, i < k → L[i]? = some c → c.ok = true) ∧ ∀ i c d, i + 1 < k → L[i]? = some c → L[i + 1]? = some d → lessE c d = true
theorem spec_next {L : List AEnt} {k : Nat} {d : AEnt} (h : OkTo L k) (hd : L[k]? = some d) (hok : d.ok = true) (hl : ∀ j c, j + 1 = k → L[j]? = some c → lessE c d = true) : OkTo L (k + 1) := by
  refine ⟨fun i c hi hc => ?_, fun i c e hi hc he => ?_⟩
  · by_cases hik : i = k
    · subst hik; rw [hd] at hc; cases hc; exact hok
    · exact h.1 i c (by omega) hc
  · by_cases hik : i + 1 = k
    · rw [hik, hd] at he; cases he; exact hl i c hik hc
    · exact h.2 i c e (by omega) hc he
theorem index_end {L : List AEnt} (h : OkTo L L.length) : indexOk L = decide (L.length ≤ 16) := by
  have h1 : L.all AEnt.ok = true := all_ok h.1
  have h2 : ascB L = true := (ascB_iff L).2 fun i c d hc hd => h.2 i c d (by have := (List.getElem?_eq_some_iff.1 hd).1; omega) hc hd
  simp [indexOk, h1, h2]
theorem index_bad {L : List AEnt} {k : Nat} {d : AEnt} (hd : L[k]? = some d) (h : d.ok = false) : indexOk L = false := by
  simp [indexOk, all_bad hd h]
theorem index_swap {L : List AEnt} {j k : Nat} {c d : AEnt} (hj : j + 1 = k) (hc : L[j]? = some c) (hd : L[k]? = some d) (h : lessE c d = false) : indexOk L = false := by
  subst hj
  simp [indexOk, asc_bad hc hd h]

set_option maxRecDepth 100000 in
set_option maxHeartbeats 4000000 in
theorem spec_index (a : Option Addr) (cap : Nat) (L : List AEnt) (w : World) (hL : EntsAt w a L) (hf : ∀ c ∈ L, c.fit) (hm : L.length ≤ maxLen) :
    Calls Try.prog 10 #[.slice a L.length cap] w fun e w' => e = .returned (.bool (indexOk L)) ∧ Below w.heap.size w w' := by
  unfold maxLen at hm
  go_enter Try.func10, Try.ntmps10
  go_wp2_with fail
  go_loopw [3] (fun i wr => ∃ k : Nat, k ≤ L.length ∧ i = .int .i64 k ∧ Hid (OkTo L k ∧ Below w.heap.size w wr)) (fun i _ => L.length - (intOf i).toNat)
  case atStart => exact ⟨0, Nat.zero_le _, rfl, ⟨⟨fun i c hi => absurd hi (Nat.not_lt_zero _), fun i c d hi => absurd hi (Nat.not_lt_zero _)⟩, Below.refl _ _⟩⟩
  case round =>
    obtain ⟨k, hk, rfl, hH⟩ := hrel
    by_cases hlt : k < L.length
    rotate_left
    · have hkl : k = L.length := by omega
      subst hkl
      go_wp2_with fail
      go_ret
      refine ⟨ret_bool ?_, hH.out.2⟩
      rw [index_end hH.out.1, Bool.eq_iff_iff]
      simp only [decide_eq_true_eq]
      omega
    · obtain ⟨j, hj⟩ : ∃ j, j = k - 1 := ⟨_, rfl⟩
      have hjl : j < L.length := by omega
      obtain ⟨b, o, hab, hbl, hr⟩ := (hL.keep hH.out.2).at hlt
      obtain ⟨b', o', hab', -, hr'⟩ := (hL.keep hH.out.2).at hjl
      rw [hab] at hab'
      simp only [Option.some.injEq, Addr.mk.injEq] at hab'
      obtain ⟨rfl, rfl, _⟩ := hab'
      have hc1 := List.getElem?_eq_getElem hjl
      have hc2 := List.getElem?_eq_getElem hlt
      have hft := hf _ (List.getElem_mem hlt)
      revert hr hr' hc1 hc2 hft
      generalize L[j] = c
      generalize L[k] = d
      intro hr hr' hc1 hc2 hft
      have hix : ∀ wx, (Instr.indexAt 25 (.slice a L.length cap) (.int .i64 k)).run Try.prog wx = .ok (.pointer (some ⟨b, o + k * 4, none⟩)) wx := fun wx => by
        rw [hab]; exact run_ix4 _ _ _ _ _ _ _ wx hlt Try.underlying25 (Try.sizeOf38 wx)
      have hT : TwoEnts w b (o + j * 4) b (o + k * 4) c d wr := ⟨cells4_of hr', cells4_of hr, hbl, hbl, hH.out.2⟩
      have hC : Hid (L[j]? = some c ∧ L[k]? = some d) := ⟨hc1, hc2⟩
      have inh : Nonempty (Over (TwoEnts w b (o + j * 4) b (o + k * 4) c d)) := ⟨⟨wr, hT⟩⟩
      have f0 : ∀ p : Over (TwoEnts w b (o + j * 4) b (o + k * 4) c d), Cells4 p.W b (o + j * 4) c := fun p => p.ok.1
      have f1 : ∀ p : Over (TwoEnts w b (o + j * 4) b (o + k * 4) c d), Cells4 p.W b (o + k * 4) d := fun p => p.ok.2.1
      have hiy : 0 < k → ∀ wx, (Instr.indexAt 25 (.slice a L.length cap) (.int .i64 ((k : Int) - 1))).run Try.prog wx = .ok (.pointer (some ⟨b, o + j * 4, none⟩)) wx := fun hk0 wx => by
        rw [hab, show ((k : Int) - 1) = ((j : Nat) : Int) by omega]; exact run_ix4 _ _ _ _ _ _ _ wx hjl Try.underlying25 (Try.sizeOf38 wx)
      have hJ : Hid (j = k - 1) := hj
      have hcon2 : ∀ W, Calls Try.prog 34 #[.agg #[.int .i64 c.k, .int .i64 c.n, .string c.s, .int .i64 c.id], .agg #[.int .i64 d.k, .int .i64 d.n, .string d.s, .int .i64 d.id]] W fun e w' => e = .returned (.bool (lessE c d)) ∧ Below W.heap.size W w' := fun W => less_entry c d W
      clear hab hr hr' hL hbl hc1 hc2 hj hjl
      cases hok : valOk d.k d.n d.s
      · have hcon : ∀ W, Calls Try.prog 33 #[.agg #[.int .i64 d.k, .int .i64 d.n, .string d.s]] W fun e w' => e = .returned (.bool false) ∧ Below W.heap.size W w' := fun W => by
          have := spec_ok d.k d.n d.s W hft
          rwa [hok] at this
        clear hiy
        go_wp2_with fail
        refine wp_region_over (S := TwoEnts w b (o + j * 4) b (o + k * 4) c d) (by kernel_rfl) (by kernel_rfl) (twoe_drew hT) ?_
        repeat (go_big_quiet_step (first | exact over_call (hcon _) (fun _ h => twoe_next (Over.ok _) h) | exact over_call (hcon2 _) (fun _ h => twoe_next (Over.ok _) h)))
        refine wpQuiet_nil ?_
        rintro wq ⟨p, hp⟩
        have hq := p.ok
        rw [← hp] at hq
        clear hp p f0 f1 inh
        go_wp2_with fail
        go_ret
        exact ⟨ret_bool (index_bad hC.out.2 (by simp only [AEnt.ok, hok, Bool.false_and])).symm, hq.2.2.2.2⟩
      have hcon : ∀ W, Calls Try.prog 33 #[.agg #[.int .i64 d.k, .int .i64 d.n, .string d.s]] W fun e w' => e = .returned (.bool true) ∧ Below W.heap.size W w' := fun W => by
        have := spec_ok d.k d.n d.s W hft
        rwa [hok] at this
      by_cases h1 : 1 ≤ d.id
      rotate_left
      · have hg1 : decide (d.id < 1) = true := decide_eq_true (by omega)
        have H1 : Hid (¬ 1 ≤ d.id) := h1
        clear hiy h1
        go_wp2_with fail
        refine wp_region_over (S := TwoEnts w b (o + j * 4) b (o + k * 4) c d) (by kernel_rfl) (by kernel_rfl) (twoe_drew hT) ?_
        repeat (go_big_quiet_step (first | exact over_call (hcon _) (fun _ h => twoe_next (Over.ok _) h) | exact over_call (hcon2 _) (fun _ h => twoe_next (Over.ok _) h)))
        refine wpQuiet_nil ?_
        rintro wq ⟨p, hp⟩
        have hq := p.ok
        rw [← hp] at hq
        clear hp p f0 f1 inh
        go_wp2_with fail
        go_ret
        exact ⟨ret_bool (index_bad hC.out.2 (by rw [AEnt.ok, decide_eq_false (by have := H1.out; omega)]; simp)).symm, hq.2.2.2.2⟩
      have hg1 : decide (d.id < 1) = false := decide_eq_false (by omega)
      have H1 : Hid (1 ≤ d.id) := h1
      clear h1
      by_cases h2 : d.id ≤ 60
      rotate_left
      · have hg2 : decide ((60 : Int) < d.id) = true := decide_eq_true (by omega)
        have H2 : Hid (¬ d.id ≤ 60) := h2
        clear hiy h2
        go_wp2_with fail
        refine wp_region_over (S := TwoEnts w b (o + j * 4) b (o + k * 4) c d) (by kernel_rfl) (by kernel_rfl) (twoe_drew hT) ?_
        repeat (go_big_quiet_step (first | exact over_call (hcon _) (fun _ h => twoe_next (Over.ok _) h) | exact over_call (hcon2 _) (fun _ h => twoe_next (Over.ok _) h)))
        refine wpQuiet_nil ?_
        rintro wq ⟨p, hp⟩
        have hq := p.ok
        rw [← hp] at hq
        clear hp p f0 f1 inh
        go_wp2_with fail
        go_ret
        exact ⟨ret_bool (index_bad hC.out.2 (by rw [AEnt.ok, decide_eq_false (p := d.id ≤ 60) (by have := H2.out; omega)]; simp)).symm, hq.2.2.2.2⟩
      have hg2 : decide ((60 : Int) < d.id) = false := decide_eq_false (by omega)
      have H2 : Hid (d.id ≤ 60) := h2
      clear h2
      by_cases h3 : 0 < k
      rotate_left
      · have hg3 : decide (0 < k) = false := decide_eq_false (by omega)
        have H3 : Hid (¬ 0 < k) := h3
        clear hiy h3
        go_wp2_with fail
        refine wp_region_over (S := TwoEnts w b (o + j * 4) b (o + k * 4) c d) (by kernel_rfl) (by kernel_rfl) (twoe_drew hT) ?_
        repeat (go_big_quiet_step (first | exact over_call (hcon _) (fun _ h => twoe_next (Over.ok _) h) | exact over_call (hcon2 _) (fun _ h => twoe_next (Over.ok _) h)))
        refine wpQuiet_nil ?_
        rintro wq ⟨p, hp⟩
        have hq := p.ok
        rw [← hp] at hq
        clear hp p f0 f1 inh
        go_wp2_with fail
        go_roundw
        case rel => exact ⟨k + 1, by omega, by go_num, ⟨spec_next hH.out.1 hC.out.2 (by rw [AEnt.ok, hok, decide_eq_true (by have := H1.out; omega), decide_eq_true (by have := H2.out; omega)]; rfl) (fun j c hj => by have := H3.out; omega), hq.2.2.2.2⟩⟩
        case measure => simp [intOf]; omega
      have hg3 : decide (0 < k) = true := decide_eq_true (by omega)
      have hiz := hiy h3
      have H3 : Hid (0 < k) := h3
      clear hiy h3
      cases hl : lessE c d
      · rw [hl] at hcon2
        go_wp2_with fail
        refine wp_region_over (S := TwoEnts w b (o + j * 4) b (o + k * 4) c d) (by kernel_rfl) (by kernel_rfl) (twoe_drew hT) ?_
        repeat (go_big_quiet_step (first | exact over_call (hcon _) (fun _ h => twoe_next (Over.ok _) h) | exact over_call (hcon2 _) (fun _ h => twoe_next (Over.ok _) h)))
        refine wpQuiet_nil ?_
        rintro wq ⟨p, hp⟩
        have hq := p.ok
        rw [← hp] at hq
        clear hp p f0 f1 inh
        go_wp2_with fail
        go_ret
        exact ⟨ret_bool (index_swap (by have := hJ.out; have := H3.out; omega) hC.out.1 hC.out.2 hl).symm, hq.2.2.2.2⟩
      · rw [hl] at hcon2
        go_wp2_with fail
        refine wp_region_over (S := TwoEnts w b (o + j * 4) b (o + k * 4) c d) (by kernel_rfl) (by kernel_rfl) (twoe_drew hT) ?_
        repeat (go_big_quiet_step (first | exact over_call (hcon _) (fun _ h => twoe_next (Over.ok _) h) | exact over_call (hcon2 _) (fun _ h => twoe_next (Over.ok _) h)))
        refine wpQuiet_nil ?_
        rintro wq ⟨p, hp⟩
        have hq := p.ok
        rw [← hp] at hq
        clear hp p f0 f1 inh
        go_wp2_with fail
        go_roundw
        case rel => exact ⟨k + 1, by omega, by go_num, ⟨spec_next hH.out.1 hC.out.2 (by rw [AEnt.ok, hok, decide_eq_true (by have := H1.out; omega), decide_eq_true (by have := H2.out; omega)]; rfl) (fun i e hi he => by rw [show i = j by have := hJ.out; have := H3.out; omega, hC.out.1] at he; cases he; exact hl), hq.2.2.2.2⟩⟩
        case measure => simp [intOf]; omega

end Go.Proofs.Ytobblnlefhkanaa
