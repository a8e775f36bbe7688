/- The contract of slices.BinarySearchFunc at entries, over the seat's translation. -/
import Derived.Test.YtobblnlefhkanaaIxI1
import Derived.Test.YtobblnlefhkanaaOver
namespace Go.Proofs.Ytobblnlefhkanaa
open Go.RowKit

/-- So many stand ahead of x, and no more. -/
def IsAt (M : List AEnt) (x : AEnt) (i : Nat) : Prop := i ≤ M.length ∧ (∀ t c, t < i → M[t]? = some c → lessE c x = true) ∧ ∀ t c, i ≤ t → M[t]? = some c → lessE c x = false
theorem isAt_up {M : List AEnt} (hA : Asc M) {x c : AEnt} {h : Nat} (hc : M[h]? = some c) (hl : lessE c x = true) : ∀ t d, t < h + 1 → M[t]? = some d → lessE d x = true := fun t d ht hd => by
  by_cases e : t = h
  · subst e; rw [hc] at hd; cases hd; exact hl
  · exact lessE_trans _ _ _ (hA.lt (by omega) hd hc) hl
theorem isAt_down {M : List AEnt} (hA : Asc M) {x c : AEnt} {h : Nat} (hc : M[h]? = some c) (hl : lessE c x = false) : ∀ t d, h ≤ t → M[t]? = some d → lessE d x = false := fun t d ht hd => by
  by_cases e : t = h
  · subst e; rw [hc] at hd; cases hd; exact hl
  · cases k : lessE d x
    · rfl
    · have := lessE_trans _ _ _ (hA.lt (by omega) hc hd) k
      rw [hl] at this; cases this

theorem box4_of {B : Nat} {v0 v1 v2 v3 : Value} {W : World} (h : W.cell? ⟨B, 0, none⟩ = some v0 ∧ W.cell? ⟨B, 1, none⟩ = some v1 ∧ W.cell? ⟨B, 2, none⟩ = some v2 ∧ W.cell? ⟨B, 3, none⟩ = some v3) : W.rangeAt B 0 [v0, v1, v2, v3] := fun j v hv => by
  obtain ⟨h0, h1, h2, h3⟩ := h
  match j with
  | 0 => simp at hv; subst hv; exact h0
  | 1 => simp at hv; subst hv; exact h1
  | 2 => simp at hv; subst hv; exact h2
  | 3 => simp at hv; subst hv; exact h3
  | j + 4 => simp at hv

def isThere (M : List AEnt) (x : AEnt) (i : Nat) : Bool := match M[i]? with | some c => eqE c x | none => false

/-- An entry lies in a row and another one in a box in W, and W lies over w. -/
abbrev EntBox (w : World) (b o : Nat) (c : AEnt) (B : Nat) (x : AEnt) (W : World) : Prop :=
  Cells4 W b o c ∧ (W.cell? ⟨B, 0, none⟩ = some (.int .i64 x.k) ∧ W.cell? ⟨B, 1, none⟩ = some (.int .i64 x.n) ∧ W.cell? ⟨B, 2, none⟩ = some (.string x.s) ∧ W.cell? ⟨B, 3, none⟩ = some (.int .i64 x.id)) ∧ b < W.heap.size ∧ B < W.heap.size ∧ Below w.heap.size w W
theorem entbox_next {w : World} {b o : Nat} {c : AEnt} {B : Nat} {x : AEnt} {W W' : World} (h : EntBox w b o c B x W) (hb : Below W.heap.size W W') : EntBox w b o c B x W' := by
  obtain ⟨h1, ⟨g0, g1, g2, g3⟩, h3, h4, h5⟩ := h
  have hz := hb.size
  have hc := fun o => (bcell hb).1 B o h4
  exact ⟨cells4_next h1 h3 hb, ⟨(hc _).trans g0, (hc _).trans g1, (hc _).trans g2, (hc _).trans g3⟩, by omega, by omega, h5.trans (hb.mono h5.size)⟩
theorem entbox_drew {w : World} {b o : Nat} {c : AEnt} {B : Nat} {x : AEnt} {W : World} (h : EntBox w b o c B x W) : EntBox w b o c B x W.drew := entbox_next h (Below.refl _ _).drew

set_option maxRecDepth 100000 in
set_option maxHeartbeats 4000000 in
theorem search (a : Option Addr) (cap : Nat) (M : List AEnt) (x : AEnt) (w : World) (ha : EntsAt w a M) (hA : Asc M) (hm : M.length ≤ 1048576) :
    Calls Try.prog 61 #[.slice a M.length cap, .agg #[.int .i64 x.k, .int .i64 x.n, .string x.s, .int .i64 x.id], .func (.func 50) #[] #[]] w
      fun e w' => ∃ i, e = .returned (.tuple #[.int .i64 (i : Nat), .bool (isThere M x i)]) ∧ IsAt M x i ∧ Below w.heap.size w w' := by
  have bA : Hid (Below w.heap.size w (w.alloc (.cells #[.int .i64 x.k, .int .i64 x.n, .string x.s, .int .i64 x.id] 38))) := (Below.refl _ _).alloc (Nat.le_refl _) _
  have nB : Hid (Box w.heap.size [.int .i64 x.k, .int .i64 x.n, .string x.s, .int .i64 x.id] (w.alloc (.cells #[.int .i64 x.k, .int .i64 x.n, .string x.s, .int .i64 x.id] 38))) := Box.start _ _ _
  go_enter Try.func61, Try.ntmps61
  go_wp2_with fail
  go_loopw [9, 10] (fun i j wr => ∃ p q : Nat, p ≤ q ∧ q ≤ M.length ∧ i = .int .i64 p ∧ j = .int .i64 q ∧ Hid ((∀ t c, t < p → M[t]? = some c → lessE c x = true) ∧ (∀ t c, q ≤ t → M[t]? = some c → lessE c x = false) ∧ Box w.heap.size [.int .i64 x.k, .int .i64 x.n, .string x.s, .int .i64 x.id] wr ∧ Below w.heap.size w wr)) (fun i j _ => (intOf j).toNat - (intOf i).toNat)
  case atStart => exact ⟨0, M.length, Nat.zero_le _, Nat.le_refl _, rfl, rfl, fun t c ht => absurd ht (Nat.not_lt_zero _), (fun t c ht hc => by have := (List.getElem?_eq_some_iff.1 hc).1; omega), nB.out, bA.out⟩
  case round =>
    obtain ⟨p, q, hpq, hq, rfl, rfl, hH⟩ := hrel
    clear bA nB
    by_cases hlt : p < q
    · obtain ⟨h, hh⟩ : ∃ h, h = (p + q) / 2 := ⟨_, rfl⟩
      have hhl : h < M.length := by omega
      have hp1 : p ≤ h := by omega
      have hp2 : h < q := by omega
      obtain ⟨b, o, hab, hbl, hr⟩ := (ha.keep hH.out.2.2.2).at hhl
      have hc := List.getElem?_eq_getElem hhl
      revert hr hc
      generalize M[h] = c
      intro hr hc
      have hi : ((p : Int) + q) / 2 = (h : Nat) := by omega
      have hix : ∀ wx, (Instr.indexAt 25 (.slice a M.length cap) (.int .i64 (((p : Int) + q) / 2))).run Try.prog wx = .ok (.pointer (some ⟨b, o + h * 4, none⟩)) wx := fun wx => by
        rw [hab, hi]; exact run_ix4 _ _ _ _ _ _ _ wx hhl Try.underlying25 (Try.sizeOf38 wx)
      have hT : EntBox w b (o + h * 4) c w.heap.size x wr := ⟨cells4_of hr, hH.out.2.2.1.four, hbl, hH.out.2.2.1.2, hH.out.2.2.2⟩
      have HI : Hid (((p : Int) + q) / 2 = (h : Nat)) := hi
      have hC : Hid (M[h]? = some c) := hc
      have hw1 : IntKind.i64.wrap (((p : Int) + q) / 2 + 1) = ((p : Int) + q) / 2 + 1 := by
        rw [hi]
        simp [IntKind.wrap, IntKind.bits, IntKind.signed]
        omega
      clear hab hr ha hbl hc hi hh
      go_wp2_with fail
      go_region_held3 (fun W => EntBox w b (o + h * 4) c w.heap.size x W) (first | assumption | exact entbox_drew (by assumption))
        (first
          | (go_at_call 50; refine (compare_entries _ _ _).mono ?_; rintro e w' ⟨rfl, hq⟩; have hN := entbox_next (by assumption) hq; clear hq))
      have hZ := ‹EntBox w b (o + h * 4) c w.heap.size x _›
      have hP : Hid (Box w.heap.size [.int .i64 x.k, .int .i64 x.n, .string x.s, .int .i64 x.id] _ ∧ Below w.heap.size w _) := ⟨⟨box4_of hZ.2.1, hZ.2.2.2.1⟩, hZ.2.2.2.2⟩
      clear hZ hT
      cases hs : lessE c x
      · have hE : Hid (lessE c x = false) := hs
        have hn : ¬ cmpE c x < 0 := by
          have := cmpE_lt c x
          rw [hs, decide_eq_false_iff_not] at this
          exact this
        go_wp2_with fail
        go_roundw
        case rel => exact ⟨p, h, hp1, by omega, rfl, by rw [HI.out], ⟨hH.out.1, isAt_down hA hC.out hE.out, hP.out.1, hP.out.2⟩⟩
        case measure => simp [intOf]; omega
      · have hE : Hid (lessE c x = true) := hs
        have hn : cmpE c x < 0 := by
          have := cmpE_lt c x
          rw [hs, decide_eq_true_iff] at this
          exact this
        go_wp2_with fail
        go_roundw
        case rel => exact ⟨h + 1, q, by omega, hq, by rw [HI.out]; rfl, rfl, ⟨isAt_up hA hC.out hE.out, hH.out.2.1, hP.out.1, hP.out.2⟩⟩
        case measure => simp [intOf]; omega
    · have hpe : p = q := by omega
      subst hpe
      have HI : Hid (IsAt M x p) := ⟨hq, hH.out.1, hH.out.2.1⟩
      by_cases hpl : p < M.length
      rotate_left
      · have hg : decide (p < M.length) = false := decide_eq_false hpl
        have HT : Hid (isThere M x p = false) := by show isThere M x p = false; rw [isThere, List.getElem?_eq_none (by omega)]
        have hpe : p = M.length := by omega
        subst hpe
        have HB : Hid (Below w.heap.size w wr) := hH.out.2.2.2
        have inh : Nonempty (Over (fun W => Below w.heap.size w W)) := ⟨⟨wr, HB.out⟩⟩
        go_wp2_with fail
        refine wp_region_over (S := fun W => Below w.heap.size w W) (by kernel_rfl) (by kernel_rfl) HB.out.drew ?_
        repeat (go_big_quiet_step (fail))
        refine wpQuiet_nil ?_
        rintro wq ⟨pp, hp⟩
        have hZ := pp.ok
        rw [← hp] at hZ
        clear hp pp inh
        go_wp2_with fail
        go_ret2
        exact ⟨M.length, by rw [HT.out]; rfl, HI.out, hZ⟩
      · obtain ⟨b, o, hab, hbl, hr⟩ := (ha.keep hH.out.2.2.2).at hpl
        have hc := List.getElem?_eq_getElem hpl
        revert hr hc
        generalize M[p] = c
        intro hr hc
        have hix : ∀ wx, (Instr.indexAt 25 (.slice a M.length cap) (.int .i64 p)).run Try.prog wx = .ok (.pointer (some ⟨b, o + p * 4, none⟩)) wx := fun wx => by
          rw [hab]; exact run_ix4 _ _ _ _ _ _ _ wx hpl Try.underlying25 (Try.sizeOf38 wx)
        have hT : EntBox w b (o + p * 4) c w.heap.size x wr := ⟨cells4_of hr, hH.out.2.2.1.four, hbl, hH.out.2.2.1.2, hH.out.2.2.2⟩
        have hg : decide (p < M.length) = true := decide_eq_true hpl
        have HT : Hid (isThere M x p = eqE c x) := by show isThere M x p = eqE c x; rw [isThere, hc]
        have inh : Nonempty (Over (EntBox w b (o + p * 4) c w.heap.size x)) := ⟨⟨wr, hT⟩⟩
        have f0 : ∀ q : Over (EntBox w b (o + p * 4) c w.heap.size x), Cells4 q.W b (o + p * 4) c := fun q => q.ok.1
        have f1 : ∀ q : Over (EntBox w b (o + p * 4) c w.heap.size x), q.W.cell? ⟨w.heap.size, 0, none⟩ = some (.int .i64 x.k) ∧ q.W.cell? ⟨w.heap.size, 1, none⟩ = some (.int .i64 x.n) ∧ q.W.cell? ⟨w.heap.size, 2, none⟩ = some (.string x.s) ∧ q.W.cell? ⟨w.heap.size, 3, none⟩ = some (.int .i64 x.id) := fun q => q.ok.2.1
        clear hab hr ha hbl hc hpl
        go_wp2_with fail
        refine wp_region_over (S := EntBox w b (o + p * 4) c w.heap.size x) (by kernel_rfl) (by kernel_rfl) (entbox_drew hT) ?_
        repeat (go_big_quiet_step (exact over_call (compare_entries _ _ _) (fun _ h => entbox_next (Over.ok _) h)))
        refine wpQuiet_nil ?_
        rintro wq ⟨pp, hp⟩
        have hZ := pp.ok
        rw [← hp] at hZ
        clear hp pp inh f0 f1
        go_wp2_with fail
        go_ret2
        refine ⟨p, ?_, HI.out, hZ.2.2.2.2⟩
        rw [HT.out, ← cmpE_zero]
        rfl

end Go.Proofs.Ytobblnlefhkanaa
