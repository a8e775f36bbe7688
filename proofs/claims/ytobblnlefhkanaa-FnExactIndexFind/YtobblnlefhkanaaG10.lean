/- What is carried through the law of IndexFind, over the seat's translation. -/
import Derived.Test.YtobblnlefhkanaaG04
import Derived.Test.YtobblnlefhkanaaG09
import Derived.Test.YtobblnlefhkanaaG05
import Derived.Test.YtobblnlefhkanaaG03
import Derived.Test.YtobblnlefhkanaaG06
import Derived.Test.YtobblnlefhkanaaG07
namespace Go.Proofs.Ytobblnlefhkanaa
open Go.RowKit

/-- What came in: entries, and a value in its box; all lies ahead of block p. -/
structure InF (w : World) (p : Nat) (a : Option Addr) (L : List AEnt) (lo : AEnt) (W : World) : Prop where
  inp : FarE p a L W
  lo : W.rangeAt w.heap.size 0 [.int .i64 lo.k, .int .i64 lo.n, .string lo.s]
  lt : w.heap.size < p
  le : p ≤ W.heap.size
  bel : Below w.heap.size w W
theorem InF.next {w : World} {p : Nat} {a : Option Addr} {L : List AEnt} {lo : AEnt} {W W' : World} (h : InF w p a L lo W) (hb : Below p W W') : InF w p a L lo W' :=
  ⟨h.inp.next hb, fun j v hv => by rw [hb.cell (p := ⟨w.heap.size, _, none⟩) h.lt]; exact h.lo j v hv, h.lt, Nat.le_trans h.le hb.size, h.bel.trans (hb.mono (by have := h.lt; omega))⟩
theorem InF.later {w : World} {p : Nat} {a : Option Addr} {L : List AEnt} {lo : AEnt} {W W' : World} (h : InF w p a L lo W) (hb : Below W.heap.size W W') : InF w p a L lo W' := h.next (hb.mono h.le)
theorem InF.up {w : World} {p : Nat} {a : Option Addr} {L : List AEnt} {lo : AEnt} {W : World} (h : InF w p a L lo W) : InF w W.heap.size a L lo W := ⟨h.inp.mono h.le, h.lo, Nat.lt_of_lt_of_le h.lt h.le, Nat.le_refl _, h.bel⟩
theorem InF.ents {w : World} {p : Nat} {a : Option Addr} {L : List AEnt} {lo : AEnt} {W : World} (h : InF w p a L lo W) : EntsAt W a L := h.inp.ents h.le
theorem InF.start {w : World} {a : Option Addr} {L : List AEnt} (lo : AEnt) (h : EntsAt w a L) (t : TypeId) : InF w (w.heap.size + 1) a L lo (w.alloc (.cells #[.int .i64 lo.k, .int .i64 lo.n, .string lo.s] t)) := by
  have b1 : Below w.heap.size w (w.alloc (.cells #[.int .i64 lo.k, .int .i64 lo.n, .string lo.s] t)) := (Below.refl _ _).alloc (Nat.le_refl _) _
  exact ⟨((FarE.of h).next b1).mono (by omega), (Box.start w [.int .i64 lo.k, .int .i64 lo.n, .string lo.s] t).1, by omega, by simp, b1⟩
/-- The boxes' cells. -/
abbrev CelF (w : World) (lo : AEnt) (W : World) : Prop :=
  W.cell? ⟨w.heap.size, 0, none⟩ = some (.int .i64 lo.k) ∧ W.cell? ⟨w.heap.size, 1, none⟩ = some (.int .i64 lo.n) ∧ W.cell? ⟨w.heap.size, 2, none⟩ = some (.string lo.s)
theorem InF.cells {w : World} {p : Nat} {a : Option Addr} {L : List AEnt} {lo : AEnt} {W : World} (h : InF w p a L lo W) : CelF w lo W := ⟨h.lo 0 _ rfl, h.lo 1 _ rfl, h.lo 2 _ rfl⟩
abbrev InFC (w : World) (p : Nat) (a : Option Addr) (L : List AEnt) (lo : AEnt) (W : World) : Prop := InF w p a L lo W ∧ CelF w lo W
theorem InF.c {w : World} {p : Nat} {a : Option Addr} {L : List AEnt} {lo : AEnt} {W : World} (h : InF w p a L lo W) : InFC w p a L lo W := ⟨h, h.cells⟩
theorem inf_later {w : World} {p : Nat} {a : Option Addr} {L : List AEnt} {lo : AEnt} {W W' : World} (h : InFC w p a L lo W) (hb : Below W.heap.size W W') : InFC w p a L lo W' := (h.1.later hb).c
theorem inf_drew {w : World} {p : Nat} {a : Option Addr} {L : List AEnt} {lo : AEnt} {W : World} (h : InFC w p a L lo W) : InFC w p a L lo W.drew := inf_later h (Below.refl _ _).drew

/-- Besides, what the specification answers. -/
structure SpF (w : World) (p : Nat) (a : Option Addr) (L : List AEnt) (lo : AEnt) (aw : Option Addr) (N : List Int) (W : World) : Prop where
  inv : InF w p a L lo W
  sp : FarI p aw N W
theorem SpF.next {w : World} {p : Nat} {a : Option Addr} {L : List AEnt} {lo : AEnt} {aw : Option Addr} {N : List Int} {W W' : World} (h : SpF w p a L lo aw N W) (hb : Below p W W') : SpF w p a L lo aw N W' := ⟨h.inv.next hb, h.sp.next hb⟩
theorem SpF.later {w : World} {p : Nat} {a : Option Addr} {L : List AEnt} {lo : AEnt} {aw : Option Addr} {N : List Int} {W W' : World} (h : SpF w p a L lo aw N W) (hb : Below W.heap.size W W') : SpF w p a L lo aw N W' := h.next (hb.mono h.inv.le)
theorem SpF.ints {w : World} {p : Nat} {a : Option Addr} {L : List AEnt} {lo : AEnt} {aw : Option Addr} {N : List Int} {W : World} (h : SpF w p a L lo aw N W) : IntsAt W aw N := h.sp.ints h.inv.le

/-- Besides, the entries made anew at block p. -/
abbrev XF (w : World) (p : Nat) (a : Option Addr) (L : List AEnt) (lo : AEnt) (aw : Option Addr) (N : List Int) (W : World) : Prop :=
  (SpF w p a L lo aw N W ∧ p < W.heap.size ∧ EntsAt W (some ⟨p, 0, none⟩) L ∧ W.there p 0 (L.length * 4)) ∧ CelF w lo W
theorem xf_later {w : World} {p : Nat} {a : Option Addr} {L : List AEnt} {lo : AEnt} {aw : Option Addr} {N : List Int} {W W' : World} (h : XF w p a L lo aw N W) (hb : Below W.heap.size W W') : XF w p a L lo aw N W' := by
  obtain ⟨⟨h1, h2, h3, h4⟩, _⟩ := h
  have h1' := h1.later hb
  exact ⟨⟨h1', Nat.lt_of_lt_of_le h2 hb.size, h3.keep hb, there_next h4 h2 hb⟩, h1'.inv.cells⟩
theorem xf_drew {w : World} {p : Nat} {a : Option Addr} {L : List AEnt} {lo : AEnt} {aw : Option Addr} {N : List Int} {W : World} (h : XF w p a L lo aw N W) : XF w p a L lo aw N W.drew := xf_later h (Below.refl _ _).drew

/-- What the specification answers, and marks. -/
abbrev YF (w : World) (p : Nat) (a : Option Addr) (L : List AEnt) (lo : AEnt) (aw : Option Addr) (N : List Int) (g n : Nat) (W : World) : Prop :=
  (SpF w p a L lo aw N W ∧ MkI g n W) ∧ CelF w lo W
theorem yf_later {w : World} {p : Nat} {a : Option Addr} {L : List AEnt} {lo : AEnt} {aw : Option Addr} {N : List Int} {g n : Nat} {W W' : World} (h : YF w p a L lo aw N g n W) (hb : Below W.heap.size W W') : YF w p a L lo aw N g n W' := by
  obtain ⟨⟨h1, h2⟩, _⟩ := h
  have h1' := h1.later hb
  exact ⟨⟨h1', h2.next hb⟩, h1'.inv.cells⟩
theorem yf_drew {w : World} {p : Nat} {a : Option Addr} {L : List AEnt} {lo : AEnt} {aw : Option Addr} {N : List Int} {g n : Nat} {W : World} (h : YF w p a L lo aw N g n W) : YF w p a L lo aw N g n W.drew := yf_later h (Below.refl _ _).drew

end Go.Proofs.Ytobblnlefhkanaa

/- The contract of slices.BinarySearchFunc at entries, over the seat's translation. -/
namespace Go.Proofs.Ytobblnlefhkanaa
open Go.RowKit

/-- So many stand ahead of x, and no more. -/
def IsAt (M : List AEnt) (x : AEnt) (i : Nat) : Prop := i ≤ M.length ∧ (∀ t c, t < i → M[t]? = some c → lessE c x = true) ∧ ∀ t c, i ≤ t → M[t]? = some c → lessE c x = false
theorem isAt_up {M : List AEnt} (hA : Asc M) {x c : AEnt} {h : Nat} (hc : M[h]? = some c) (hl : lessE c x = true) : ∀ t d, t < h + 1 → M[t]? = some d → lessE d x = true := fun t d ht hd => by
  by_cases e : t = h
  · subst e; rw [hc] at hd; cases hd; exact hl
  · exact lessE_trans _ _ _ (hA.lt (by omega) hd hc) hl
theorem isAt_down {M : List AEnt} (hA : Asc M) {x c : AEnt} {h : Nat} (hc : M[h]? = some c) (hl : lessE c x = false) : ∀ t d, h ≤ t → M[t]? = some d → lessE d x = false := fun t d ht hd => by
  by_cases e : t = h
  · subst e; rw [hc] at hd; cases hd; exact hl
  · cases k : lessE d x
    · rfl
    · have := lessE_trans _ _ _ (hA.lt (by omega) hc hd) k
      rw [hl] at this; cases this

theorem box4_of {B : Nat} {v0 v1 v2 v3 : Value} {W : World} (h : W.cell? ⟨B, 0, none⟩ = some v0 ∧ W.cell? ⟨B, 1, none⟩ = some v1 ∧ W.cell? ⟨B, 2, none⟩ = some v2 ∧ W.cell? ⟨B, 3, none⟩ = some v3) : W.rangeAt B 0 [v0, v1, v2, v3] := fun j v hv => by
  obtain ⟨h0, h1, h2, h3⟩ := h
  match j with
  | 0 => simp at hv; subst hv; exact h0
  | 1 => simp at hv; subst hv; exact h1
  | 2 => simp at hv; subst hv; exact h2
  | 3 => simp at hv; subst hv; exact h3
  | j + 4 => simp at hv

def isThere (M : List AEnt) (x : AEnt) (i : Nat) : Bool := match M[i]? with | some c => eqE c x | none => false

/-- An entry lies in a row and another one in a box in W, and W lies over w. -/
abbrev EntBox (w : World) (b o : Nat) (c : AEnt) (B : Nat) (x : AEnt) (W : World) : Prop :=
  Cells4 W b o c ∧ (W.cell? ⟨B, 0, none⟩ = some (.int .i64 x.k) ∧ W.cell? ⟨B, 1, none⟩ = some (.int .i64 x.n) ∧ W.cell? ⟨B, 2, none⟩ = some (.string x.s) ∧ W.cell? ⟨B, 3, none⟩ = some (.int .i64 x.id)) ∧ b < W.heap.size ∧ B < W.heap.size ∧ Below w.heap.size w W
theorem entbox_next {w : World} {b o : Nat} {c : AEnt} {B : Nat} {x : AEnt} {W W' : World} (h : EntBox w b o c B x W) (hb : Below W.heap.size W W') : EntBox w b o c B x W' := by
  obtain ⟨h1, ⟨g0, g1, g2, g3⟩, h3, h4, h5⟩ := h
  have hz := hb.size
  have hc := fun o => (bcell hb).1 B o h4
  exact ⟨cells4_next h1 h3 hb, ⟨(hc _).trans g0, (hc _).trans g1, (hc _).trans g2, (hc _).trans g3⟩, by omega, by omega, h5.trans (hb.mono h5.size)⟩
theorem entbox_drew {w : World} {b o : Nat} {c : AEnt} {B : Nat} {x : AEnt} {W : World} (h : EntBox w b o c B x W) : EntBox w b o c B x W.drew := entbox_next h (Below.refl _ _).drew

set_option maxRecDepth 100000 in
set_option maxHeartbeats 4000000 in
theorem search (a : Option Addr) (cap : Nat) (M : List AEnt) (x : AEnt) (w : World) (ha : EntsAt w a M) (hA : Asc M) (hm : M.length ≤ 1048576) :
    Calls Try.prog 61 #[.slice a M.length cap, .agg #[.int .i64 x.k, .int .i64 x.n, .string x.s, .int .i64 x.id], .func (.func 50) #[] #[]] w
      fun e w' => ∃ i, e = .returned (.tuple #[.int .i64 (i : Nat), .bool (isThere M x i)]) ∧ IsAt M x i ∧ Below w.heap.size w w' := by
  have bA : Hid (Below w.heap.size w (w.alloc (.cells #[.int .i64 x.k, .int .i64 x.n, .string x.s, .int .i64 x.id] 38))) := (Below.refl _ _).alloc (Nat.le_refl _) _
  have nB : Hid (Box w.heap.size [.int .i64 x.k, .int .i64 x.n, .string x.s, .int .i64 x.id] (w.alloc (.cells #[.int .i64 x.k, .int .i64 x.n, .string x.s, .int .i64 x.id] 38))) := Box.start _ _ _
  go_enter Try.func61, Try.ntmps61
  go_wp2_with fail
  go_loopw [9, 10] (fun i j wr => ∃ p q : Nat, p ≤ q ∧ q ≤ M.length ∧ i = .int .i64 p ∧ j = .int .i64 q ∧ Hid ((∀ t c, t < p → M[t]? = some c → lessE c x = true) ∧ (∀ t c, q ≤ t → M[t]? = some c → lessE c x = false) ∧ Box w.heap.size [.int .i64 x.k, .int .i64 x.n, .string x.s, .int .i64 x.id] wr ∧ Below w.heap.size w wr)) (fun i j _ => (intOf j).toNat - (intOf i).toNat)
  case atStart => exact ⟨0, M.length, Nat.zero_le _, Nat.le_refl _, rfl, rfl, fun t c ht => absurd ht (Nat.not_lt_zero _), (fun t c ht hc => by have := (List.getElem?_eq_some_iff.1 hc).1; omega), nB.out, bA.out⟩
  case round =>
    obtain ⟨p, q, hpq, hq, rfl, rfl, hH⟩ := hrel
    clear bA nB
    by_cases hlt : p < q
    · obtain ⟨h, hh⟩ : ∃ h, h = (p + q) / 2 := ⟨_, rfl⟩
      have hhl : h < M.length := by omega
      have hp1 : p ≤ h := by omega
      have hp2 : h < q := by omega
      obtain ⟨b, o, hab, hbl, hr⟩ := (ha.keep hH.out.2.2.2).at hhl
      have hc := List.getElem?_eq_getElem hhl
      revert hr hc
      generalize M[h] = c
      intro hr hc
      have hi : ((p : Int) + q) / 2 = (h : Nat) := by omega
      have hix : ∀ wx, (Instr.indexAt 25 (.slice a M.length cap) (.int .i64 (((p : Int) + q) / 2))).run Try.prog wx = .ok (.pointer (some ⟨b, o + h * 4, none⟩)) wx := fun wx => by
        rw [hab, hi]; exact run_ix4 _ _ _ _ _ _ _ wx hhl Try.underlying25 (Try.sizeOf38 wx)
      have hT : EntBox w b (o + h * 4) c w.heap.size x wr := ⟨cells4_of hr, hH.out.2.2.1.four, hbl, hH.out.2.2.1.2, hH.out.2.2.2⟩
      have HI : Hid (((p : Int) + q) / 2 = (h : Nat)) := hi
      have hC : Hid (M[h]? = some c) := hc
      have hw1 : IntKind.i64.wrap (((p : Int) + q) / 2 + 1) = ((p : Int) + q) / 2 + 1 := by
        rw [hi]
        simp [IntKind.wrap, IntKind.bits, IntKind.signed]
        omega
      clear hab hr ha hbl hc hi hh
      go_wp2_with fail
      go_region_held3 (fun W => EntBox w b (o + h * 4) c w.heap.size x W) (first | assumption | exact entbox_drew (by assumption))
        (first
          | (go_at_call 50; refine (compare_entries _ _ _).mono ?_; rintro e w' ⟨rfl, hq⟩; have hN := entbox_next (by assumption) hq; clear hq))
      have hZ := ‹EntBox w b (o + h * 4) c w.heap.size x _›
      have hP : Hid (Box w.heap.size [.int .i64 x.k, .int .i64 x.n, .string x.s, .int .i64 x.id] _ ∧ Below w.heap.size w _) := ⟨⟨box4_of hZ.2.1, hZ.2.2.2.1⟩, hZ.2.2.2.2⟩
      clear hZ hT
      cases hs : lessE c x
      · have hE : Hid (lessE c x = false) := hs
        have hn : ¬ cmpE c x < 0 := by
          have := cmpE_lt c x
          rw [hs, decide_eq_false_iff_not] at this
          exact this
        go_wp2_with fail
        go_roundw
        case rel => exact ⟨p, h, hp1, by omega, rfl, by rw [HI.out], ⟨hH.out.1, isAt_down hA hC.out hE.out, hP.out.1, hP.out.2⟩⟩
        case measure => simp [intOf]; omega
      · have hE : Hid (lessE c x = true) := hs
        have hn : cmpE c x < 0 := by
          have := cmpE_lt c x
          rw [hs, decide_eq_true_iff] at this
          exact this
        go_wp2_with fail
        go_roundw
        case rel => exact ⟨h + 1, q, by omega, hq, by rw [HI.out]; rfl, rfl, ⟨isAt_up hA hC.out hE.out, hH.out.2.1, hP.out.1, hP.out.2⟩⟩
        case measure => simp [intOf]; omega
    · have hpe : p = q := by omega
      subst hpe
      have HI : Hid (IsAt M x p) := ⟨hq, hH.out.1, hH.out.2.1⟩
      by_cases hpl : p < M.length
      rotate_left
      · have hg : decide (p < M.length) = false := decide_eq_false hpl
        have HT : Hid (isThere M x p = false) := by show isThere M x p = false; rw [isThere, List.getElem?_eq_none (by omega)]
        have hpe : p = M.length := by omega
        subst hpe
        have HB : Hid (Below w.heap.size w wr) := hH.out.2.2.2
        have inh : Nonempty (Over (fun W => Below w.heap.size w W)) := ⟨⟨wr, HB.out⟩⟩
        go_wp2_with fail
        refine wp_region_over (S := fun W => Below w.heap.size w W) (by kernel_rfl) (by kernel_rfl) HB.out.drew ?_
        repeat (go_big_quiet_step (fail))
        refine wpQuiet_nil ?_
        rintro wq ⟨pp, hp⟩
        have hZ := pp.ok
        rw [← hp] at hZ
        clear hp pp inh
        go_wp2_with fail
        go_ret2
        exact ⟨M.length, by rw [HT.out]; rfl, HI.out, hZ⟩
      · obtain ⟨b, o, hab, hbl, hr⟩ := (ha.keep hH.out.2.2.2).at hpl
        have hc := List.getElem?_eq_getElem hpl
        revert hr hc
        generalize M[p] = c
        intro hr hc
        have hix : ∀ wx, (Instr.indexAt 25 (.slice a M.length cap) (.int .i64 p)).run Try.prog wx = .ok (.pointer (some ⟨b, o + p * 4, none⟩)) wx := fun wx => by
          rw [hab]; exact run_ix4 _ _ _ _ _ _ _ wx hpl Try.underlying25 (Try.sizeOf38 wx)
        have hT : EntBox w b (o + p * 4) c w.heap.size x wr := ⟨cells4_of hr, hH.out.2.2.1.four, hbl, hH.out.2.2.1.2, hH.out.2.2.2⟩
        have hg : decide (p < M.length) = true := decide_eq_true hpl
        have HT : Hid (isThere M x p = eqE c x) := by show isThere M x p = eqE c x; rw [isThere, hc]
        have inh : Nonempty (Over (EntBox w b (o + p * 4) c w.heap.size x)) := ⟨⟨wr, hT⟩⟩
        have f0 : ∀ q : Over (EntBox w b (o + p * 4) c w.heap.size x), Cells4 q.W b (o + p * 4) c := fun q => q.ok.1
        have f1 : ∀ q : Over (EntBox w b (o + p * 4) c w.heap.size x), q.W.cell? ⟨w.heap.size, 0, none⟩ = some (.int .i64 x.k) ∧ q.W.cell? ⟨w.heap.size, 1, none⟩ = some (.int .i64 x.n) ∧ q.W.cell? ⟨w.heap.size, 2, none⟩ = some (.string x.s) ∧ q.W.cell? ⟨w.heap.size, 3, none⟩ = some (.int .i64 x.id) := fun q => q.ok.2.1
        clear hab hr ha hbl hc hpl
        go_wp2_with fail
        refine wp_region_over (S := EntBox w b (o + p * 4) c w.heap.size x) (by kernel_rfl) (by kernel_rfl) (entbox_drew hT) ?_
        repeat (go_big_quiet_step (exact over_call (compare_entries _ _ _) (fun _ h => entbox_next (Over.ok _) h)))
        refine wpQuiet_nil ?_
        rintro wq ⟨pp, hp⟩
        have hZ := pp.ok
        rw [← hp] at hZ
        clear hp pp inh f0 f1
        go_wp2_with fail
        go_ret2
        refine ⟨p, ?_, HI.out, hZ.2.2.2.2⟩
        rw [HT.out, ← cmpE_zero]
        rfl

end Go.Proofs.Ytobblnlefhkanaa

/- The contract of (*impl.sorted).place at entries, over the seat's translation. -/
namespace Go.Proofs.Ytobblnlefhkanaa
open Go.RowKit

/-- So many stand ahead of x. -/
def posE (M : List AEnt) (x : AEnt) : Nat := (M.takeWhile fun c => lessE c x).length
theorem tw_in {p : AEnt → Bool} (M : List AEnt) : ∀ t c, t < (M.takeWhile p).length → M[t]? = some c → p c = true := by
  induction M with
  | nil => intro t c h; simp at h
  | cons d M ih =>
    intro t c h hc
    cases hd : p d
    · simp [hd] at h
    · cases t with
      | zero => simp at hc; subst hc; exact hd
      | succ t => exact ih t c (by simpa [List.takeWhile_cons, hd] using h) (by simpa using hc)
theorem tw_end {p : AEnt → Bool} (M : List AEnt) : ∀ c, M[(M.takeWhile p).length]? = some c → p c = false := by
  induction M with
  | nil => intro c h; simp at h
  | cons d M ih =>
    intro c hc
    cases hd : p d
    · simp [hd] at hc; subst hc; exact hd
    · exact ih c (by simpa [List.takeWhile_cons, hd] using hc)
theorem isAt_pos {M : List AEnt} (hA : Asc M) (x : AEnt) : IsAt M x (posE M x) := by
  refine ⟨(List.takeWhile_prefix _).length_le, tw_in M, fun t c ht hc => ?_⟩
  have hp : posE M x < M.length := by have := (List.getElem?_eq_some_iff.1 hc).1; omega
  have he := List.getElem?_eq_getElem hp
  exact isAt_down hA he (tw_end (p := fun c => lessE c x) M _ he) t c ht hc
theorem isAt_one {M : List AEnt} {x : AEnt} {i j : Nat} (h : IsAt M x i) (k : IsAt M x j) : i = j := by
  rcases Nat.lt_trichotomy i j with hij | hij | hij
  · have hl : i < M.length := by have := k.1; omega
    have he := List.getElem?_eq_getElem hl
    have := k.2.1 i _ hij he
    rw [h.2.2 i _ (Nat.le_refl _) he] at this; cases this
  · exact hij
  · have hl : j < M.length := by have := h.1; omega
    have he := List.getElem?_eq_getElem hl
    have := h.2.1 j _ hij he
    rw [k.2.2 j _ (Nat.le_refl _) he] at this; cases this
def thereE (M : List AEnt) (x : AEnt) : Bool := isThere M x (posE M x)

theorem search_at (a : Option Addr) (cap : Nat) (M : List AEnt) (x : AEnt) (w : World) (ha : EntsAt w a M) (hA : Asc M) (hm : M.length ≤ 1048576) :
    Calls Try.prog 61 #[.slice a M.length cap, .agg #[.int .i64 x.k, .int .i64 x.n, .string x.s, .int .i64 x.id], .func (.func 50) #[] #[]] w
      fun e w' => e = .returned (.tuple #[.int .i64 (posE M x : Nat), .bool (thereE M x)]) ∧ Below w.heap.size w w' :=
  (search a cap M x w ha hA hm).mono fun e w' ⟨i, he, hi, hb⟩ => by
    have := isAt_one hi (isAt_pos hA x)
    subst this
    exact ⟨he, hb⟩

/-- The list in the box at B holds these entries. -/
abbrev Lst (B : Nat) (a : Option Addr) (c : Nat) (M : List AEnt) (W : World) : Prop := SBox B (.slice a M.length c) (.func (.func 50) #[] #[]) W ∧ EntsAt W a M ∧ B < W.heap.size
theorem lst_next {B : Nat} {a : Option Addr} {c : Nat} {M : List AEnt} {W W' : World} (h : Lst B a c M W) (hb : Below W.heap.size W W') : Lst B a c M W' :=
  ⟨sbox_next h.1 h.2.2 hb, h.2.1.keep hb, Nat.lt_of_lt_of_le h.2.2 hb.size⟩

/-- Besides, x in a box. -/
abbrev LstBox (w : World) (B : Nat) (a : Option Addr) (c : Nat) (M : List AEnt) (C : Nat) (x : AEnt) (W : World) : Prop :=
  Lst B a c M W ∧ (W.cell? ⟨C, 0, none⟩ = some (.int .i64 x.k) ∧ W.cell? ⟨C, 1, none⟩ = some (.int .i64 x.n) ∧ W.cell? ⟨C, 2, none⟩ = some (.string x.s) ∧ W.cell? ⟨C, 3, none⟩ = some (.int .i64 x.id)) ∧ C < W.heap.size ∧ Below w.heap.size w W
theorem lstbox_next {w : World} {B : Nat} {a : Option Addr} {c : Nat} {M : List AEnt} {C : Nat} {x : AEnt} {W W' : World} (h : LstBox w B a c M C x W) (hb : Below W.heap.size W W') : LstBox w B a c M C x W' := by
  obtain ⟨h1, ⟨g0, g1, g2, g3⟩, h3, h5⟩ := h
  have hc := fun o => (bcell hb).1 C o h3
  exact ⟨lst_next h1 hb, ⟨(hc _).trans g0, (hc _).trans g1, (hc _).trans g2, (hc _).trans g3⟩, Nat.lt_of_lt_of_le h3 hb.size, h5.trans (hb.mono h5.size)⟩

set_option maxRecDepth 100000 in
set_option maxHeartbeats 2000000 in
theorem place_of (B : Nat) (a : Option Addr) (cap : Nat) (M : List AEnt) (x : AEnt) (w : World) (hL : Lst B a cap M w) (hA : Asc M) (hm : M.length ≤ 1048576) :
    Calls Try.prog 53 #[.pointer (some ⟨B, 0, none⟩), .agg #[.int .i64 x.k, .int .i64 x.n, .string x.s, .int .i64 x.id]] w
      fun e w' => e = .returned (.tuple #[.int .i64 (posE M x : Nat), .bool (thereE M x)]) ∧ Below w.heap.size w w' := by
  have bA : Below w.heap.size w (w.alloc (.cells #[.int .i64 x.k, .int .i64 x.n, .string x.s, .int .i64 x.id] 38)) := (Below.refl _ _).alloc (Nat.le_refl _) _
  have hT : LstBox w B a cap M w.heap.size x (w.alloc (.cells #[.int .i64 x.k, .int .i64 x.n, .string x.s, .int .i64 x.id] 38)) :=
    ⟨lst_next hL bA, (Box.start w [.int .i64 x.k, .int .i64 x.n, .string x.s, .int .i64 x.id] 38).four, by simp, bA⟩
  have inh : Nonempty (Over (LstBox w B a cap M w.heap.size x)) := ⟨⟨_, hT⟩⟩
  have f0 : ∀ q : Over (LstBox w B a cap M w.heap.size x), SBox B (.slice a M.length cap) (.func (.func 50) #[] #[]) q.W := fun q => q.ok.1.1
  have f1 : ∀ q : Over (LstBox w B a cap M w.heap.size x), q.W.cell? ⟨w.heap.size, 0, none⟩ = some (.int .i64 x.k) ∧ q.W.cell? ⟨w.heap.size, 1, none⟩ = some (.int .i64 x.n) ∧ q.W.cell? ⟨w.heap.size, 2, none⟩ = some (.string x.s) ∧ q.W.cell? ⟨w.heap.size, 3, none⟩ = some (.int .i64 x.id) := fun q => q.ok.2.1
  have hcon : ∀ q : Over (LstBox w B a cap M w.heap.size x), Calls Try.prog 61 #[.slice a M.length cap, .agg #[.int .i64 x.k, .int .i64 x.n, .string x.s, .int .i64 x.id], .func (.func 50) #[] #[]] q.W
      fun e w' => e = .returned (.tuple #[.int .i64 (posE M x : Nat), .bool (thereE M x)]) ∧ Below q.W.heap.size q.W w' := fun q => search_at _ _ _ _ _ q.ok.1.2.1 hA hm
  clear bA hL
  go_enter Try.func53, Try.ntmps53
  go_wp2_with fail
  refine wp_region_over (S := LstBox w B a cap M w.heap.size x) (by kernel_rfl) (by kernel_rfl) (lstbox_next hT (Below.refl _ _).drew) ?_
  repeat (go_big_quiet_step (exact over_call (hcon _) (fun _ h => lstbox_next (Over.ok _) h)))
  refine wpQuiet_nil ?_
  rintro wq ⟨pp, hp⟩
  have hZ := pp.ok
  rw [← hp] at hZ
  clear hp pp inh f0 f1 hcon
  go_wp2_with fail
  go_ret2
  exact ⟨rfl, hZ.2.2.2⟩

end Go.Proofs.Ytobblnlefhkanaa

/- The contract of slices.Delete at one entry, over the seat's translation. -/
namespace Go.Proofs.Ytobblnlefhkanaa
open Go.RowKit

set_option maxRecDepth 100000 in
set_option maxHeartbeats 4000000 in
theorem own_there {base g n cap : Nat} {L : List AEnt} {W : World} (h : OwnE base (.slice (some ⟨g, 0, none⟩) n cap) L W) : EntsAt W (some ⟨g, 0, none⟩) L ∧ W.there g 0 (cap * 4) := by
  rcases h.form with ⟨h, _⟩ | ⟨b, c, h, h1, h2, h3, h4, h5, h6⟩
  · cases h
  · cases h
    exact ⟨h5, h6⟩

theorem ents_set {W : World} {g o : Nat} {vs : List Value} {N : List AEnt} (h : EntsAt W (some ⟨g, 0, none⟩) N) (ho : N.length * 4 ≤ o) : EntsAt (W.setCells g o vs) (some ⟨g, 0, none⟩) N := by
  rcases h with h | ⟨b, o', e, hlt, hr⟩
  · exact Or.inl h
  · cases e
    refine Or.inr ⟨g, 0, rfl, by rw [size_sets]; exact hlt, fun i c hc => World.rangeAt_setCells_apart (hr i c hc) _ _ _ (Or.inr (Or.inl ?_))⟩
    have hi := (List.getElem?_eq_some_iff.1 hc).1
    have : c.cells.length = 4 := rfl
    omega
theorem below_setC {C B : Nat} {w W : World} (h : Below C w W) (hC : C ≤ B) (o : Nat) (vs : List Value) : Below C w (W.setCells B o vs) := by
  induction vs generalizing o W with
  | nil => exact h
  | cons v r ih => exact ih (h.setCell hC v) _

set_option maxRecDepth 100000 in
set_option maxHeartbeats 4000000 in
theorem delete_entries (g cap i r : Nat) (M : List AEnt) (hM : M.length = r + 1) (w : World) (base : Nat) (hO : OwnE base (.slice (some ⟨g, 0, none⟩) M.length cap) M w) (hi : i ≤ r) (hl : M.length ≤ 1048576) (hbs : base ≤ w.heap.size) :
    Calls Try.prog 62 #[.slice (some ⟨g, 0, none⟩) (r + 1) cap, .int .i64 i, .int .i64 ((i : Int) + 1)] w
      fun e w' => ∃ v, e = .returned v ∧ RowE base v (M.take i ++ M.drop (i + 1)) w' ∧ Below base w w' := by
  obtain ⟨hbg, hgl, hcl, hcm, hE, hT⟩ : base ≤ g ∧ g < w.heap.size ∧ M.length ≤ cap ∧ cap ≤ maxLen ∧ EntsAt w (some ⟨g, 0, none⟩) M ∧ w.there g 0 (cap * 4) := by
    rcases hO.form with ⟨h, _⟩ | ⟨b, c, h, h1, h2, h3, h4, h5, h6⟩
    · cases h
    · cases h
      exact ⟨h1, h2, h3, h4, h5, h6⟩
  have hne : ((i : Int) == (i : Int) + 1) = false := by simp; omega
  have hi1 : (i : Int) + 1 ≤ (r : Int) + 1 := by omega
  have hi2 : (0 : Int) ≤ (i : Int) + 1 := by omega
  have hi3 : i ≤ cap := by omega
  have hr3 : r ≤ cap := by omega
  have hr4 : r + 1 ≤ cap := by omega
  have hr5 : ¬ cap = r := by omega
  have hO' : OwnE base (.slice (some ⟨g, 0, none⟩) M.length cap) M w.drew := hO
  have hlen : Hid ((M.take i ++ M.drop (i + 1)).length = r) := by show (M.take i ++ M.drop (i + 1)).length = r; simp; omega
  have hl2 : r ≤ 1048576 := by omega
  have hdr' : EntsAt w.drew (some ⟨g, (i + 1) * 4, none⟩) (M.drop (i + 1)) := by simpa using ents_drop (hE.keep ((Below.refl _ _).drew)) (i + 1)
  by_cases hce : cap = i + 1
  · have hir : r = i := by omega
    subst hir
    subst hce
    go_enter Try.func62, Try.ntmps62
    go_wp2_with fail
    go_region_held_law (fun W => w.heap.size ≤ W.heap.size) (first | assumption | exact Nat.le_refl _ | exact Nat.le_trans (by assumption) (World.grownBy.size (by assumption)))
      (first
        | (refine step_fits (some 26) rfl rfl _ _ rfl base g (r + 1) M r rfl hO' (by omega) _ _ _ (M.drop (r + 1)) rfl (by simp <;> omega) (Or.inl (by simp <;> omega)) (by simp <;> omega) r (by omega) ?_; intro w3 ho3 hg3; (try simp only [Act.put, List.setIfInBounds_toArray, List.set_cons_zero, List.set_cons_succ])))
    have hF : Hid (OwnE base (.slice (some ⟨g, 0, none⟩) r (r + 1)) (M.take r ++ M.drop (r + 1)) w3 ∧ Below base w w3) := ⟨ho3, ((Below.refl base w).drew).grown hg3 hbs (fun k hk => by cases hk; exact hbg)⟩
    have hgl3 : Hid (g < w3.heap.size) := Nat.lt_of_lt_of_le hgl hg3.size
    have ht3 : w3.there g (r * 4) 4 := fun j hj => by
      have := (own_there ho3).2 (r * 4 + j) (by omega)
      rwa [Nat.zero_add] at this
    have hcl : ∀ ty c, (Builtin.clear_ #[25] ty #[.slice (some ⟨g, r * 4, none⟩) 1 c]).run Try.prog w3 = .ok (.tuple #[]) (w3.setCells g (r * 4) [.int .i64 0, .int .i64 0, .string ⟨#[]⟩, .int .i64 0]) := fun ty c => run_clear_one w3 ty g (r * 4) c ht3
    clear ho3 hg3 ht3 hO'
    go_wp2_with fail
    go_ret
    refine ⟨_, rfl, Or.inr ⟨g, (r + 1), by rw [hlen.out]; rfl, hbg, by rw [size_sets]; exact hgl3.out, by rw [hlen.out]; exact hr3, ents_set (own_there hF.out.1).1 (by rw [hlen.out]; exact Nat.le_refl _), ?_⟩, below_setC hF.out.2 hbg _ _⟩
    rw [hlen.out]
    exact World.there_setCells (fun j hj => (own_there hF.out.1).2 j (by omega)) _ _ _
  · go_enter Try.func62, Try.ntmps62
    go_wp2_with fail
    go_region_held_law (fun W => w.heap.size ≤ W.heap.size) (first | assumption | exact Nat.le_refl _ | exact Nat.le_trans (by assumption) (World.grownBy.size (by assumption)))
      (first
        | (refine step_fits (some 26) rfl rfl _ _ rfl base g cap M i rfl hO' (by omega) _ _ _ (M.drop (i + 1)) rfl (by simp <;> omega) hdr' (by simp <;> omega) r (by omega) ?_; intro w3 ho3 hg3; (try simp only [Act.put, List.setIfInBounds_toArray, List.set_cons_zero, List.set_cons_succ])))
    have hF : Hid (OwnE base (.slice (some ⟨g, 0, none⟩) r cap) (M.take i ++ M.drop (i + 1)) w3 ∧ Below base w w3) := ⟨ho3, ((Below.refl base w).drew).grown hg3 hbs (fun k hk => by cases hk; exact hbg)⟩
    have hgl3 : Hid (g < w3.heap.size) := Nat.lt_of_lt_of_le hgl hg3.size
    have ht3 : w3.there g (r * 4) 4 := fun j hj => by
      have := (own_there ho3).2 (r * 4 + j) (by omega)
      rwa [Nat.zero_add] at this
    have hcl : ∀ ty c, (Builtin.clear_ #[25] ty #[.slice (some ⟨g, r * 4, none⟩) 1 c]).run Try.prog w3 = .ok (.tuple #[]) (w3.setCells g (r * 4) [.int .i64 0, .int .i64 0, .string ⟨#[]⟩, .int .i64 0]) := fun ty c => run_clear_one w3 ty g (r * 4) c ht3
    clear ho3 hg3 ht3 hO'
    go_wp2_with fail
    go_ret
    refine ⟨_, rfl, Or.inr ⟨g, cap, by rw [hlen.out]; rfl, hbg, by rw [size_sets]; exact hgl3.out, by rw [hlen.out]; exact hr3, ents_set (own_there hF.out.1).1 (by rw [hlen.out]; exact Nat.le_refl _), ?_⟩, below_setC hF.out.2 hbg _ _⟩
    rw [hlen.out]
    exact World.there_setCells (fun j hj => (own_there hF.out.1).2 j (by omega)) _ _ _

end Go.Proofs.Ytobblnlefhkanaa
