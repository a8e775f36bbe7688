/- An entry at two places. -/
import Derived.Test.YtgjhmpgofmmniaaG03
import Derived.Test.YtgjhmpgofmmniaaRows
import Derived.WalkKit
import Derived.Deep.QuietTactic
import Derived.BigQuiet
namespace Go.Proofs.Ytgjhmpgofmmniaa
open Go.RowKit

/-- An entry lies at two places in W, and W lies over w. -/
abbrev TwoEnts (w : World) (b1 o1 b2 o2 : Nat) (c d : AEnt) (W : World) : Prop := Cells4 W b1 o1 c ∧ Cells4 W b2 o2 d ∧ b1 < W.heap.size ∧ b2 < W.heap.size ∧ Below w.heap.size w W

theorem twoe_next {w : World} {b1 o1 b2 o2 : Nat} {c d : AEnt} {W W' : World} (h : TwoEnts w b1 o1 b2 o2 c d W) (hb : Below W.heap.size W W') : TwoEnts w b1 o1 b2 o2 c d W' := by
  obtain ⟨h1, h2, h3, h4, h5⟩ := h
  have hz := hb.size
  exact ⟨cells4_next h1 h3 hb, cells4_next h2 h4 hb, by omega, by omega, h5.trans (hb.mono h5.size)⟩

theorem twoe_drew {w : World} {b1 o1 b2 o2 : Nat} {c d : AEnt} {W : World} (h : TwoEnts w b1 o1 b2 o2 c d W) : TwoEnts w b1 o1 b2 o2 c d W.drew := twoe_next h (Below.refl _ _).drew

end Go.Proofs.Ytgjhmpgofmmniaa

/- A region that draws its order, whose operations read and whose callees leave all that S asks: one walk, over the class of worlds that meet S. -/
namespace Go.Proofs.Ytgjhmpgofmmniaa
open Go.RowKit

/-- A world that meets S. -/
structure Over (S : World → Prop) where
  W : World
  ok : S W

theorem wp_region_over {P : Program} {id : Nat} {Q : Exit → Act → World → Prop} {a : Act} {w : World} {l : List Oper} {S : World → Prop} (hm : P.follows .mixedOrders = true) (hB : Region.lexB .any l.toArray = true) (hS : S w.drew)
    (h : wpQuiet P l.toArray (fun w' => ∃ p : Over S, w' = p.W) (fun a' => ∀ w', (∃ p : Over S, w' = p.W) → Q .normal a' w') l a) : (Code.region id l.toArray true).wp P Q a w :=
  wp_region_quiet (C := fun w' => ∃ p : Over S, w' = p.W) hm hB ⟨⟨_, hS⟩, rfl⟩ (by simpa using h)

/-- A callee's contract, met in a world of the class. -/
theorem over_call {P : Program} {f : FuncId} {args : Array Value} {S : World → Prop} {p : Over S} {v : Value} {R : World → Prop} (h : Calls P f args p.W fun e w' => e = .returned v ∧ R w') (hR : ∀ w', R w' → S w') :
    Calls P f args p.W fun e w'' => e = .returned v ∧ ∃ q : Over S, w'' = q.W :=
  h.mono fun _ w' ⟨he, hr⟩ => ⟨he, ⟨w', hR w' hr⟩, rfl⟩

end Go.Proofs.Ytgjhmpgofmmniaa

/- The contract of spec.IndexOk, over the seat's translation. -/
namespace Go.Proofs.Ytgjhmpgofmmniaa
open Go.RowKit

/-- The first k are right, and each of them stands ahead of the next. -/
def OkTo (L : List AEnt) (k : Nat) : Prop := (∀ i c, i < k → L[i]? = some c → c.ok = true) ∧ ∀ i c d, i + 1 < k → L[i]? = some c → L[i + 1]? = some d → lessE c d = true
theorem spec_next {L : List AEnt} {k : Nat} {d : AEnt} (h : OkTo L k) (hd : L[k]? = some d) (hok : d.ok = true) (hl : ∀ j c, j + 1 = k → L[j]? = some c → lessE c d = true) : OkTo L (k + 1) := by
  refine ⟨fun i c hi hc => ?_, fun i c e hi hc he => ?_⟩
  · by_cases hik : i = k
    · subst hik; rw [hd] at hc; cases hc; exact hok
    · exact h.1 i c (by omega) hc
  · by_cases hik : i + 1 = k
    · rw [hik, hd] at he; cases he; exact hl i c hik hc
    · exact h.2 i c e (by omega) hc he
theorem index_end {L : List AEnt} (h : OkTo L L.length) : indexOk L = decide (L.length ≤ 16) := by
  have h1 : L.all AEnt.ok = true := all_ok h.1
  have h2 : ascB L = true := (ascB_iff L).2 fun i c d hc hd => h.2 i c d (by have := (List.getElem?_eq_some_iff.1 hd).1; omega) hc hd
  simp [indexOk, h1, h2]
theorem index_bad {L : List AEnt} {k : Nat} {d : AEnt} (hd : L[k]? = some d) (h : d.ok = false) : indexOk L = false := by
  simp [indexOk, all_bad hd h]
theorem index_swap {L : List AEnt} {j k : Nat} {c d : AEnt} (hj : j + 1 = k) (hc : L[j]? = some c) (hd : L[k]? = some d) (h : lessE c d = false) : indexOk L = false := by
  subst hj
  simp [indexOk, asc_bad hc hd h]

set_option maxRecDepth 100000 in
set_option maxHeartbeats 4000000 in
theorem spec_index (a : Option Addr) (cap : Nat) (L : List AEnt) (w : World) (hL : EntsAt w a L) (hf : ∀ c ∈ L, c.fit) (hm : L.length ≤ maxLen) :
    Calls Try.prog 11 #[.slice a L.length cap] w fun e w' => e = .returned (.bool (indexOk L)) ∧ Below w.heap.size w w' := by
  unfold maxLen at hm
  go_enter Try.func11, Try.ntmps11
  go_wp2_with fail
  go_loopw [3] (fun i wr => ∃ k : Nat, k ≤ L.length ∧ i = .int .i64 k ∧ Hid (OkTo L k ∧ Below w.heap.size w wr)) (fun i _ => L.length - (intOf i).toNat)
  case atStart => exact ⟨0, Nat.zero_le _, rfl, ⟨⟨fun i c hi => absurd hi (Nat.not_lt_zero _), fun i c d hi => absurd hi (Nat.not_lt_zero _)⟩, Below.refl _ _⟩⟩
  case round =>
    obtain ⟨k, hk, rfl, hH⟩ := hrel
    by_cases hlt : k < L.length
    rotate_left
    · have hkl : k = L.length := by omega
      subst hkl
      go_wp2_with fail
      go_ret
      refine ⟨ret_bool ?_, hH.out.2⟩
      rw [index_end hH.out.1, Bool.eq_iff_iff]
      simp only [decide_eq_true_eq]
      omega
    · obtain ⟨j, hj⟩ : ∃ j, j = k - 1 := ⟨_, rfl⟩
      have hjl : j < L.length := by omega
      obtain ⟨b, o, hab, hbl, hr⟩ := (hL.keep hH.out.2).at hlt
      obtain ⟨b', o', hab', -, hr'⟩ := (hL.keep hH.out.2).at hjl
      rw [hab] at hab'
      simp only [Option.some.injEq, Addr.mk.injEq] at hab'
      obtain ⟨rfl, rfl, _⟩ := hab'
      have hc1 := List.getElem?_eq_getElem hjl
      have hc2 := List.getElem?_eq_getElem hlt
      have hft := hf _ (List.getElem_mem hlt)
      revert hr hr' hc1 hc2 hft
      generalize L[j] = c
      generalize L[k] = d
      intro hr hr' hc1 hc2 hft
      have hix : ∀ wx, (Instr.indexAt 23 (.slice a L.length cap) (.int .i64 k)).run Try.prog wx = .ok (.pointer (some ⟨b, o + k * 4, none⟩)) wx := fun wx => by
        rw [hab]; exact run_ix4 _ _ _ _ _ _ _ wx hlt Try.underlying23 (Try.sizeOf29 wx)
      have hT : TwoEnts w b (o + j * 4) b (o + k * 4) c d wr := ⟨cells4_of hr', cells4_of hr, hbl, hbl, hH.out.2⟩
      have hC : Hid (L[j]? = some c ∧ L[k]? = some d) := ⟨hc1, hc2⟩
      have inh : Nonempty (Over (TwoEnts w b (o + j * 4) b (o + k * 4) c d)) := ⟨⟨wr, hT⟩⟩
      have f0 : ∀ p : Over (TwoEnts w b (o + j * 4) b (o + k * 4) c d), Cells4 p.W b (o + j * 4) c := fun p => p.ok.1
      have f1 : ∀ p : Over (TwoEnts w b (o + j * 4) b (o + k * 4) c d), Cells4 p.W b (o + k * 4) d := fun p => p.ok.2.1
      have hiy : 0 < k → ∀ wx, (Instr.indexAt 23 (.slice a L.length cap) (.int .i64 ((k : Int) - 1))).run Try.prog wx = .ok (.pointer (some ⟨b, o + j * 4, none⟩)) wx := fun hk0 wx => by
        rw [hab, show ((k : Int) - 1) = ((j : Nat) : Int) by omega]; exact run_ix4 _ _ _ _ _ _ _ wx hjl Try.underlying23 (Try.sizeOf29 wx)
      have hJ : Hid (j = k - 1) := hj
      have hcon2 : ∀ W, Calls Try.prog 32 #[.agg #[.int .i64 c.k, .int .i64 c.n, .string c.s, .int .i64 c.id], .agg #[.int .i64 d.k, .int .i64 d.n, .string d.s, .int .i64 d.id]] W fun e w' => e = .returned (.bool (lessE c d)) ∧ Below W.heap.size W w' := fun W => less_entry c d W
      clear hab hr hr' hL hbl hc1 hc2 hj hjl
      cases hok : valOk d.k d.n d.s
      · have hcon : ∀ W, Calls Try.prog 31 #[.agg #[.int .i64 d.k, .int .i64 d.n, .string d.s]] W fun e w' => e = .returned (.bool false) ∧ Below W.heap.size W w' := fun W => by
          have := spec_ok d.k d.n d.s W hft
          rwa [hok] at this
        clear hiy
        go_wp2_with fail
        refine wp_region_over (S := TwoEnts w b (o + j * 4) b (o + k * 4) c d) (by kernel_rfl) (by kernel_rfl) (twoe_drew hT) ?_
        repeat (go_big_quiet_step (first | exact over_call (hcon _) (fun _ h => twoe_next (Over.ok _) h) | exact over_call (hcon2 _) (fun _ h => twoe_next (Over.ok _) h)))
        refine wpQuiet_nil ?_
        rintro wq ⟨p, hp⟩
        have hq := p.ok
        rw [← hp] at hq
        clear hp p f0 f1 inh
        go_wp2_with fail
        go_ret
        exact ⟨ret_bool (index_bad hC.out.2 (by simp only [AEnt.ok, hok, Bool.false_and])).symm, hq.2.2.2.2⟩
      have hcon : ∀ W, Calls Try.prog 31 #[.agg #[.int .i64 d.k, .int .i64 d.n, .string d.s]] W fun e w' => e = .returned (.bool true) ∧ Below W.heap.size W w' := fun W => by
        have := spec_ok d.k d.n d.s W hft
        rwa [hok] at this
      by_cases h1 : 1 ≤ d.id
      rotate_left
      · have hg1 : decide (d.id < 1) = true := decide_eq_true (by omega)
        have H1 : Hid (¬ 1 ≤ d.id) := h1
        clear hiy h1
        go_wp2_with fail
        refine wp_region_over (S := TwoEnts w b (o + j * 4) b (o + k * 4) c d) (by kernel_rfl) (by kernel_rfl) (twoe_drew hT) ?_
        repeat (go_big_quiet_step (first | exact over_call (hcon _) (fun _ h => twoe_next (Over.ok _) h) | exact over_call (hcon2 _) (fun _ h => twoe_next (Over.ok _) h)))
        refine wpQuiet_nil ?_
        rintro wq ⟨p, hp⟩
        have hq := p.ok
        rw [← hp] at hq
        clear hp p f0 f1 inh
        go_wp2_with fail
        go_ret
        exact ⟨ret_bool (index_bad hC.out.2 (by rw [AEnt.ok, decide_eq_false (by have := H1.out; omega)]; simp)).symm, hq.2.2.2.2⟩
      have hg1 : decide (d.id < 1) = false := decide_eq_false (by omega)
      have H1 : Hid (1 ≤ d.id) := h1
      clear h1
      by_cases h2 : d.id ≤ 60
      rotate_left
      · have hg2 : decide ((60 : Int) < d.id) = true := decide_eq_true (by omega)
        have H2 : Hid (¬ d.id ≤ 60) := h2
        clear hiy h2
        go_wp2_with fail
        refine wp_region_over (S := TwoEnts w b (o + j * 4) b (o + k * 4) c d) (by kernel_rfl) (by kernel_rfl) (twoe_drew hT) ?_
        repeat (go_big_quiet_step (first | exact over_call (hcon _) (fun _ h => twoe_next (Over.ok _) h) | exact over_call (hcon2 _) (fun _ h => twoe_next (Over.ok _) h)))
        refine wpQuiet_nil ?_
        rintro wq ⟨p, hp⟩
        have hq := p.ok
        rw [← hp] at hq
        clear hp p f0 f1 inh
        go_wp2_with fail
        go_ret
        exact ⟨ret_bool (index_bad hC.out.2 (by rw [AEnt.ok, decide_eq_false (p := d.id ≤ 60) (by have := H2.out; omega)]; simp)).symm, hq.2.2.2.2⟩
      have hg2 : decide ((60 : Int) < d.id) = false := decide_eq_false (by omega)
      have H2 : Hid (d.id ≤ 60) := h2
      clear h2
      by_cases h3 : 0 < k
      rotate_left
      · have hg3 : decide (0 < k) = false := decide_eq_false (by omega)
        have H3 : Hid (¬ 0 < k) := h3
        clear hiy h3
        go_wp2_with fail
        refine wp_region_over (S := TwoEnts w b (o + j * 4) b (o + k * 4) c d) (by kernel_rfl) (by kernel_rfl) (twoe_drew hT) ?_
        repeat (go_big_quiet_step (first | exact over_call (hcon _) (fun _ h => twoe_next (Over.ok _) h) | exact over_call (hcon2 _) (fun _ h => twoe_next (Over.ok _) h)))
        refine wpQuiet_nil ?_
        rintro wq ⟨p, hp⟩
        have hq := p.ok
        rw [← hp] at hq
        clear hp p f0 f1 inh
        go_wp2_with fail
        go_roundw
        case rel => exact ⟨k + 1, by omega, by go_num, ⟨spec_next hH.out.1 hC.out.2 (by rw [AEnt.ok, hok, decide_eq_true (by have := H1.out; omega), decide_eq_true (by have := H2.out; omega)]; rfl) (fun j c hj => by have := H3.out; omega), hq.2.2.2.2⟩⟩
        case measure => simp [intOf]; omega
      have hg3 : decide (0 < k) = true := decide_eq_true (by omega)
      have hiz := hiy h3
      have H3 : Hid (0 < k) := h3
      clear hiy h3
      cases hl : lessE c d
      · rw [hl] at hcon2
        go_wp2_with fail
        refine wp_region_over (S := TwoEnts w b (o + j * 4) b (o + k * 4) c d) (by kernel_rfl) (by kernel_rfl) (twoe_drew hT) ?_
        repeat (go_big_quiet_step (first | exact over_call (hcon _) (fun _ h => twoe_next (Over.ok _) h) | exact over_call (hcon2 _) (fun _ h => twoe_next (Over.ok _) h)))
        refine wpQuiet_nil ?_
        rintro wq ⟨p, hp⟩
        have hq := p.ok
        rw [← hp] at hq
        clear hp p f0 f1 inh
        go_wp2_with fail
        go_ret
        exact ⟨ret_bool (index_swap (by have := hJ.out; have := H3.out; omega) hC.out.1 hC.out.2 hl).symm, hq.2.2.2.2⟩
      · rw [hl] at hcon2
        go_wp2_with fail
        refine wp_region_over (S := TwoEnts w b (o + j * 4) b (o + k * 4) c d) (by kernel_rfl) (by kernel_rfl) (twoe_drew hT) ?_
        repeat (go_big_quiet_step (first | exact over_call (hcon _) (fun _ h => twoe_next (Over.ok _) h) | exact over_call (hcon2 _) (fun _ h => twoe_next (Over.ok _) h)))
        refine wpQuiet_nil ?_
        rintro wq ⟨p, hp⟩
        have hq := p.ok
        rw [← hp] at hq
        clear hp p f0 f1 inh
        go_wp2_with fail
        go_roundw
        case rel => exact ⟨k + 1, by omega, by go_num, ⟨spec_next hH.out.1 hC.out.2 (by rw [AEnt.ok, hok, decide_eq_true (by have := H1.out; omega), decide_eq_true (by have := H2.out; omega)]; rfl) (fun i e hi he => by rw [show i = j by have := hJ.out; have := H3.out; omega, hC.out.1] at he; cases he; exact hl), hq.2.2.2.2⟩⟩
        case measure => simp [intOf]; omega

end Go.Proofs.Ytgjhmpgofmmniaa

/- The contracts of cmp.Or at two, impl.compareEntries and impl.entryOk, over the seat's translation. -/
namespace Go.Proofs.Ytgjhmpgofmmniaa
open Go.RowKit

def orTwo (x y : Int) : Int := if x = 0 then y else x

theorem or_two (x y : Int) (g : Nat) (w : World) (h0 : w.cell? ⟨g, 0, none⟩ = some (.int .i64 x)) (h1 : w.cell? ⟨g, 1, none⟩ = some (.int .i64 y)) :
    Calls Try.prog 54 #[.slice (some ⟨g, 0, none⟩) 2 2] w fun e w' => e = .returned (.int .i64 (orTwo x y)) ∧ w' = w := by
  go_enter Try.func54, Try.ntmps54
  go_wp2
  go_loop [5, 8] (fun _ i => ∃ k : Nat, k ≤ 2 ∧ i = .int .i64 k ∧ (1 ≤ k → x = 0) ∧ (2 ≤ k → y = 0)) (fun _ i => 2 - (intOf i).toNat)
  case atStart => exact ⟨0, Nat.zero_le _, rfl, by omega, by omega⟩
  case round =>
    obtain ⟨k, hk, rfl, kx, ky⟩ := hrel
    have hh : k = 0 ∨ k = 1 ∨ k = 2 := by omega
    rcases hh with rfl | rfl | rfl
    · clear kx ky
      go_wp2
      · go_ret
        refine ⟨ret_int ?_, rfl⟩
        have hx : ¬ x = 0 := by simp_all
        simp [orTwo, hx]
      · have hx : x = 0 := by simp_all
        go_round
        case rel => exact ⟨1, by omega, rfl, fun _ => hx, by omega⟩
        case measure => simp [intOf]
    · have hx := kx (by omega)
      clear kx ky
      go_wp2
      · go_ret
        refine ⟨ret_int ?_, rfl⟩
        simp [orTwo]
      · have hy : y = 0 := by simp_all
        go_round
        case rel => exact ⟨2, by omega, rfl, fun _ => hx, fun _ => hy⟩
        case measure => simp [intOf]
    · have hx := kx (by omega)
      have hy := ky (by omega)
      clear kx ky
      go_wp2
      go_ret
      exact ⟨ret_int (by simp [orTwo]), rfl⟩

/-- Two entries lie in boxes in W, and W lies over w. -/
abbrev TwoBox (w : World) (x y : AEnt) (W : World) : Prop :=
  W.cell? ⟨w.heap.size, 0, none⟩ = some (.int .i64 x.k) ∧ W.cell? ⟨w.heap.size, 1, none⟩ = some (.int .i64 x.n) ∧ W.cell? ⟨w.heap.size, 2, none⟩ = some (.string x.s) ∧ W.cell? ⟨w.heap.size, 3, none⟩ = some (.int .i64 x.id) ∧
  W.cell? ⟨w.heap.size + 1, 0, none⟩ = some (.int .i64 y.k) ∧ W.cell? ⟨w.heap.size + 1, 1, none⟩ = some (.int .i64 y.n) ∧ W.cell? ⟨w.heap.size + 1, 2, none⟩ = some (.string y.s) ∧ W.cell? ⟨w.heap.size + 1, 3, none⟩ = some (.int .i64 y.id) ∧ w.heap.size + 2 ≤ W.heap.size ∧ Below w.heap.size w W
theorem twob_next {w : World} {x y : AEnt} {W W' : World} (h : TwoBox w x y W) (hb : Below W.heap.size W W') : TwoBox w x y W' := by
  obtain ⟨h0, h1, h2, h3, g0, g1, g2, g3, hz, hB⟩ := h
  have hc := (bcell hb).1
  have hs := hb.size
  exact ⟨by rw [hc _ _ (by omega)]; exact h0, by rw [hc _ _ (by omega)]; exact h1, by rw [hc _ _ (by omega)]; exact h2, by rw [hc _ _ (by omega)]; exact h3,
    by rw [hc _ _ (by omega)]; exact g0, by rw [hc _ _ (by omega)]; exact g1, by rw [hc _ _ (by omega)]; exact g2, by rw [hc _ _ (by omega)]; exact g3, by omega, hB.trans (hb.mono (by omega))⟩
theorem twob_drew {w : World} {x y : AEnt} {W : World} (h : TwoBox w x y W) : TwoBox w x y W.drew := twob_next h (Below.refl _ _).drew
theorem twob_start (w : World) (x y : AEnt) (t : TypeId) : TwoBox w x y ((w.alloc (.cells #[.int .i64 x.k, .int .i64 x.n, .string x.s, .int .i64 x.id] t)).alloc (.cells #[.int .i64 y.k, .int .i64 y.n, .string y.s, .int .i64 y.id] t)) := by
  refine ⟨?_, ?_, ?_, ?_, ?_, ?_, ?_, ?_, by simp, ((Below.refl _ _).alloc (Nat.le_refl _) _).alloc (by simp) _⟩
  all_goals go_simp

set_option maxRecDepth 100000 in
set_option maxHeartbeats 2000000 in
theorem compare_entries (x y : AEnt) (w : World) :
    Calls Try.prog 47 #[.agg #[.int .i64 x.k, .int .i64 x.n, .string x.s, .int .i64 x.id], .agg #[.int .i64 y.k, .int .i64 y.n, .string y.s, .int .i64 y.id]] w fun e w' => e = .returned (.int .i64 (cmpE x y)) ∧ Below w.heap.size w w' := by
  have hT := twob_start w x y 29
  have hE : Hid (cmpE x y = orTwo (cmpV x.k x.n x.s y.k y.n y.s) (cmpI x.id y.id)) := rfl
  go_enter Try.func47, Try.ntmps47
  go_wp2_with fail
  go_region_held3 (fun W => TwoBox w x y W) (first | assumption | exact twob_drew (by assumption) | exact twob_next (by assumption) ((Below.refl _ _).alloc (Nat.le_refl _) _))
    (first
      | (go_at_call 36; refine (compare_vals _ _ _ _ _ _ _).mono ?_; rintro e w' ⟨rfl, hb⟩; have hN := twob_next (by assumption) hb; clear hb)
      | (go_at_call 55; refine (cmp_int _ _ _).mono ?_; rintro e w' ⟨rfl, rfl⟩)
      | (go_at_call 54; refine (or_two (cmpV x.k x.n x.s y.k y.n y.s) (cmpI x.id y.id) _ _ ?_ ?_).mono ?_; (go_simp); (go_simp); rintro e w' ⟨rfl, rfl⟩))
  go_wp2_with fail
  go_ret
  have hZ := ‹TwoBox w x y _›
  exact ⟨ret_int hE.out.symm, hZ.2.2.2.2.2.2.2.2.2⟩

set_option maxRecDepth 100000 in
set_option maxHeartbeats 1000000 in
theorem entry_ok (x : AEnt) (w : World) (hf : x.fit) :
    Calls Try.prog 37 #[.agg #[.int .i64 x.k, .int .i64 x.n, .string x.s, .int .i64 x.id]] w fun e w' => e = .returned (.bool x.ok) ∧ Below w.heap.size w w' := by
  have hX := Box.start w [.int .i64 x.k, .int .i64 x.n, .string x.s, .int .i64 x.id] 29
  have H1 : Hid (Box w.heap.size [.int .i64 x.k, .int .i64 x.n, .string x.s, .int .i64 x.id] (w.alloc (.cells #[.int .i64 x.k, .int .i64 x.n, .string x.s, .int .i64 x.id] 29))) := hX
  clear hX
  go_enter Try.func37, Try.ntmps37
  go_wp2_with fail
  refine (impl_ok _ _ _ _ hf).mono ?_
  rintro e w' ⟨rfl, hb⟩
  have hB : Hid (Below w.heap.size w w') := ((Below.refl _ _).alloc (Nat.le_refl _) _).trans (hb.mono (by simp))
  have g := (H1.out.next hb).four
  clear hb H1
  cases hok : valOk x.k x.n x.s
  · go_wp2_with fail
    go_ret
    exact ⟨ret_bool (by rw [AEnt.ok, hok]; rfl), hB.out⟩
  · go_wp2_with fail
    all_goals
      go_ret
      refine ⟨ret_bool ?_, hB.out⟩
      rw [AEnt.ok, hok, Bool.eq_iff_iff]
      simp only [Bool.true_and, Bool.and_eq_true, decide_eq_true_eq, Bool.false_eq_true, false_iff]
      omega

end Go.Proofs.Ytgjhmpgofmmniaa

/- The contract of slices.BinarySearchFunc at entries, over the seat's translation. -/
namespace Go.Proofs.Ytgjhmpgofmmniaa
open Go.RowKit

/-- So many stand ahead of x, and no more. -/
def IsAt (M : List AEnt) (x : AEnt) (i : Nat) : Prop := i ≤ M.length ∧ (∀ t c, t < i → M[t]? = some c → lessE c x = true) ∧ ∀ t c, i ≤ t → M[t]? = some c → lessE c x = false
theorem isAt_up {M : List AEnt} (hA : Asc M) {x c : AEnt} {h : Nat} (hc : M[h]? = some c) (hl : lessE c x = true) : ∀ t d, t < h + 1 → M[t]? = some d → lessE d x = true := fun t d ht hd => by
  by_cases e : t = h
  · subst e; rw [hc] at hd; cases hd; exact hl
  · exact lessE_trans _ _ _ (hA.lt (by omega) hd hc) hl
theorem isAt_down {M : List AEnt} (hA : Asc M) {x c : AEnt} {h : Nat} (hc : M[h]? = some c) (hl : lessE c x = false) : ∀ t d, h ≤ t → M[t]? = some d → lessE d x = false := fun t d ht hd => by
  by_cases e : t = h
  · subst e; rw [hc] at hd; cases hd; exact hl
  · cases k : lessE d x
    · rfl
    · have := lessE_trans _ _ _ (hA.lt (by omega) hc hd) k
      rw [hl] at this; cases this

theorem box4_of {B : Nat} {v0 v1 v2 v3 : Value} {W : World} (h : W.cell? ⟨B, 0, none⟩ = some v0 ∧ W.cell? ⟨B, 1, none⟩ = some v1 ∧ W.cell? ⟨B, 2, none⟩ = some v2 ∧ W.cell? ⟨B, 3, none⟩ = some v3) : W.rangeAt B 0 [v0, v1, v2, v3] := fun j v hv => by
  obtain ⟨h0, h1, h2, h3⟩ := h
  match j with
  | 0 => simp at hv; subst hv; exact h0
  | 1 => simp at hv; subst hv; exact h1
  | 2 => simp at hv; subst hv; exact h2
  | 3 => simp at hv; subst hv; exact h3
  | j + 4 => simp at hv

def isThere (M : List AEnt) (x : AEnt) (i : Nat) : Bool := match M[i]? with | some c => eqE c x | none => false

/-- An entry lies in a row and another one in a box in W, and W lies over w. -/
abbrev EntBox (w : World) (b o : Nat) (c : AEnt) (B : Nat) (x : AEnt) (W : World) : Prop :=
  Cells4 W b o c ∧ (W.cell? ⟨B, 0, none⟩ = some (.int .i64 x.k) ∧ W.cell? ⟨B, 1, none⟩ = some (.int .i64 x.n) ∧ W.cell? ⟨B, 2, none⟩ = some (.string x.s) ∧ W.cell? ⟨B, 3, none⟩ = some (.int .i64 x.id)) ∧ b < W.heap.size ∧ B < W.heap.size ∧ Below w.heap.size w W
theorem entbox_next {w : World} {b o : Nat} {c : AEnt} {B : Nat} {x : AEnt} {W W' : World} (h : EntBox w b o c B x W) (hb : Below W.heap.size W W') : EntBox w b o c B x W' := by
  obtain ⟨h1, ⟨g0, g1, g2, g3⟩, h3, h4, h5⟩ := h
  have hz := hb.size
  have hc := fun o => (bcell hb).1 B o h4
  exact ⟨cells4_next h1 h3 hb, ⟨(hc _).trans g0, (hc _).trans g1, (hc _).trans g2, (hc _).trans g3⟩, by omega, by omega, h5.trans (hb.mono h5.size)⟩
theorem entbox_drew {w : World} {b o : Nat} {c : AEnt} {B : Nat} {x : AEnt} {W : World} (h : EntBox w b o c B x W) : EntBox w b o c B x W.drew := entbox_next h (Below.refl _ _).drew

set_option maxRecDepth 100000 in
set_option maxHeartbeats 4000000 in
theorem search (a : Option Addr) (cap : Nat) (M : List AEnt) (x : AEnt) (w : World) (ha : EntsAt w a M) (hA : Asc M) (hm : M.length ≤ 1048576) :
    Calls Try.prog 61 #[.slice a M.length cap, .agg #[.int .i64 x.k, .int .i64 x.n, .string x.s, .int .i64 x.id], .func (.func 47) #[] #[]] w
      fun e w' => ∃ i, e = .returned (.tuple #[.int .i64 (i : Nat), .bool (isThere M x i)]) ∧ IsAt M x i ∧ Below w.heap.size w w' := by
  have bA : Hid (Below w.heap.size w (w.alloc (.cells #[.int .i64 x.k, .int .i64 x.n, .string x.s, .int .i64 x.id] 29))) := (Below.refl _ _).alloc (Nat.le_refl _) _
  have nB : Hid (Box w.heap.size [.int .i64 x.k, .int .i64 x.n, .string x.s, .int .i64 x.id] (w.alloc (.cells #[.int .i64 x.k, .int .i64 x.n, .string x.s, .int .i64 x.id] 29))) := Box.start _ _ _
  go_enter Try.func61, Try.ntmps61
  go_wp2_with fail
  go_loopw [9, 10] (fun i j wr => ∃ p q : Nat, p ≤ q ∧ q ≤ M.length ∧ i = .int .i64 p ∧ j = .int .i64 q ∧ Hid ((∀ t c, t < p → M[t]? = some c → lessE c x = true) ∧ (∀ t c, q ≤ t → M[t]? = some c → lessE c x = false) ∧ Box w.heap.size [.int .i64 x.k, .int .i64 x.n, .string x.s, .int .i64 x.id] wr ∧ Below w.heap.size w wr)) (fun i j _ => (intOf j).toNat - (intOf i).toNat)
  case atStart => exact ⟨0, M.length, Nat.zero_le _, Nat.le_refl _, rfl, rfl, fun t c ht => absurd ht (Nat.not_lt_zero _), (fun t c ht hc => by have := (List.getElem?_eq_some_iff.1 hc).1; omega), nB.out, bA.out⟩
  case round =>
    obtain ⟨p, q, hpq, hq, rfl, rfl, hH⟩ := hrel
    clear bA nB
    by_cases hlt : p < q
    · obtain ⟨h, hh⟩ : ∃ h, h = (p + q) / 2 := ⟨_, rfl⟩
      have hhl : h < M.length := by omega
      have hp1 : p ≤ h := by omega
      have hp2 : h < q := by omega
      obtain ⟨b, o, hab, hbl, hr⟩ := (ha.keep hH.out.2.2.2).at hhl
      have hc := List.getElem?_eq_getElem hhl
      revert hr hc
      generalize M[h] = c
      intro hr hc
      have hi : ((p : Int) + q) / 2 = (h : Nat) := by omega
      have hix : ∀ wx, (Instr.indexAt 23 (.slice a M.length cap) (.int .i64 (((p : Int) + q) / 2))).run Try.prog wx = .ok (.pointer (some ⟨b, o + h * 4, none⟩)) wx := fun wx => by
        rw [hab, hi]; exact run_ix4 _ _ _ _ _ _ _ wx hhl Try.underlying23 (Try.sizeOf29 wx)
      have hT : EntBox w b (o + h * 4) c w.heap.size x wr := ⟨cells4_of hr, hH.out.2.2.1.four, hbl, hH.out.2.2.1.2, hH.out.2.2.2⟩
      have HI : Hid (((p : Int) + q) / 2 = (h : Nat)) := hi
      have hC : Hid (M[h]? = some c) := hc
      have hw1 : IntKind.i64.wrap (((p : Int) + q) / 2 + 1) = ((p : Int) + q) / 2 + 1 := by
        rw [hi]
        simp [IntKind.wrap, IntKind.bits, IntKind.signed]
        omega
      clear hab hr ha hbl hc hi hh
      go_wp2_with fail
      go_region_held3 (fun W => EntBox w b (o + h * 4) c w.heap.size x W) (first | assumption | exact entbox_drew (by assumption))
        (first
          | (go_at_call 47; refine (compare_entries _ _ _).mono ?_; rintro e w' ⟨rfl, hq⟩; have hN := entbox_next (by assumption) hq; clear hq))
      have hZ := ‹EntBox w b (o + h * 4) c w.heap.size x _›
      have hP : Hid (Box w.heap.size [.int .i64 x.k, .int .i64 x.n, .string x.s, .int .i64 x.id] _ ∧ Below w.heap.size w _) := ⟨⟨box4_of hZ.2.1, hZ.2.2.2.1⟩, hZ.2.2.2.2⟩
      clear hZ hT
      cases hs : lessE c x
      · have hE : Hid (lessE c x = false) := hs
        have hn : ¬ cmpE c x < 0 := by
          have := cmpE_lt c x
          rw [hs, decide_eq_false_iff_not] at this
          exact this
        go_wp2_with fail
        go_roundw
        case rel => exact ⟨p, h, hp1, by omega, rfl, by rw [HI.out], ⟨hH.out.1, isAt_down hA hC.out hE.out, hP.out.1, hP.out.2⟩⟩
        case measure => simp [intOf]; omega
      · have hE : Hid (lessE c x = true) := hs
        have hn : cmpE c x < 0 := by
          have := cmpE_lt c x
          rw [hs, decide_eq_true_iff] at this
          exact this
        go_wp2_with fail
        go_roundw
        case rel => exact ⟨h + 1, q, by omega, hq, by rw [HI.out]; rfl, rfl, ⟨isAt_up hA hC.out hE.out, hH.out.2.1, hP.out.1, hP.out.2⟩⟩
        case measure => simp [intOf]; omega
    · have hpe : p = q := by omega
      subst hpe
      have HI : Hid (IsAt M x p) := ⟨hq, hH.out.1, hH.out.2.1⟩
      by_cases hpl : p < M.length
      rotate_left
      · have hg : decide (p < M.length) = false := decide_eq_false hpl
        have HT : Hid (isThere M x p = false) := by show isThere M x p = false; rw [isThere, List.getElem?_eq_none (by omega)]
        have hpe : p = M.length := by omega
        subst hpe
        have HB : Hid (Below w.heap.size w wr) := hH.out.2.2.2
        have inh : Nonempty (Over (fun W => Below w.heap.size w W)) := ⟨⟨wr, HB.out⟩⟩
        go_wp2_with fail
        refine wp_region_over (S := fun W => Below w.heap.size w W) (by kernel_rfl) (by kernel_rfl) HB.out.drew ?_
        repeat (go_big_quiet_step (fail))
        refine wpQuiet_nil ?_
        rintro wq ⟨pp, hp⟩
        have hZ := pp.ok
        rw [← hp] at hZ
        clear hp pp inh
        go_wp2_with fail
        go_ret2
        exact ⟨M.length, by rw [HT.out]; rfl, HI.out, hZ⟩
      · obtain ⟨b, o, hab, hbl, hr⟩ := (ha.keep hH.out.2.2.2).at hpl
        have hc := List.getElem?_eq_getElem hpl
        revert hr hc
        generalize M[p] = c
        intro hr hc
        have hix : ∀ wx, (Instr.indexAt 23 (.slice a M.length cap) (.int .i64 p)).run Try.prog wx = .ok (.pointer (some ⟨b, o + p * 4, none⟩)) wx := fun wx => by
          rw [hab]; exact run_ix4 _ _ _ _ _ _ _ wx hpl Try.underlying23 (Try.sizeOf29 wx)
        have hT : EntBox w b (o + p * 4) c w.heap.size x wr := ⟨cells4_of hr, hH.out.2.2.1.four, hbl, hH.out.2.2.1.2, hH.out.2.2.2⟩
        have hg : decide (p < M.length) = true := decide_eq_true hpl
        have HT : Hid (isThere M x p = eqE c x) := by show isThere M x p = eqE c x; rw [isThere, hc]
        have inh : Nonempty (Over (EntBox w b (o + p * 4) c w.heap.size x)) := ⟨⟨wr, hT⟩⟩
        have f0 : ∀ q : Over (EntBox w b (o + p * 4) c w.heap.size x), Cells4 q.W b (o + p * 4) c := fun q => q.ok.1
        have f1 : ∀ q : Over (EntBox w b (o + p * 4) c w.heap.size x), q.W.cell? ⟨w.heap.size, 0, none⟩ = some (.int .i64 x.k) ∧ q.W.cell? ⟨w.heap.size, 1, none⟩ = some (.int .i64 x.n) ∧ q.W.cell? ⟨w.heap.size, 2, none⟩ = some (.string x.s) ∧ q.W.cell? ⟨w.heap.size, 3, none⟩ = some (.int .i64 x.id) := fun q => q.ok.2.1
        clear hab hr ha hbl hc hpl
        go_wp2_with fail
        refine wp_region_over (S := EntBox w b (o + p * 4) c w.heap.size x) (by kernel_rfl) (by kernel_rfl) (entbox_drew hT) ?_
        repeat (go_big_quiet_step (exact over_call (compare_entries _ _ _) (fun _ h => entbox_next (Over.ok _) h)))
        refine wpQuiet_nil ?_
        rintro wq ⟨pp, hp⟩
        have hZ := pp.ok
        rw [← hp] at hZ
        clear hp pp inh f0 f1
        go_wp2_with fail
        go_ret2
        refine ⟨p, ?_, HI.out, hZ.2.2.2.2⟩
        rw [HT.out, ← cmpE_zero]
        rfl

end Go.Proofs.Ytgjhmpgofmmniaa

/- The contracts of impl.allOk and impl.ascends at entries, over the seat's translation. -/
namespace Go.Proofs.Ytgjhmpgofmmniaa
open Go.RowKit

theorem ok_next {L : List AEnt} {k : Nat} {d : AEnt} (h : ∀ i c, i < k → L[i]? = some c → c.ok = true) (hd : L[k]? = some d) (hok : d.ok = true) : ∀ i c, i < k + 1 → L[i]? = some c → c.ok = true := fun i c hi hc => by
  by_cases hik : i = k
  · subst hik; rw [hd] at hc; cases hc; exact hok
  · exact h i c (by omega) hc

set_option maxRecDepth 100000 in
set_option maxHeartbeats 1000000 in
theorem all_entries (a : Option Addr) (cap : Nat) (L : List AEnt) (w : World) (ha : EntsAt w a L) (hf : ∀ c ∈ L, c.fit) (hm : L.length ≤ maxLen) :
    Calls Try.prog 45 #[.slice a L.length cap, .func (.func 37) #[] #[]] w fun e w' => e = .returned (.bool (L.all AEnt.ok)) ∧ Below w.heap.size w w' := by
  unfold maxLen at hm
  go_enter Try.func45, Try.ntmps45
  go_wp2_with fail
  go_loopw [9] (fun i wr => ∃ k : Nat, k ≤ L.length ∧ i = .int .i64 k ∧ Hid ((∀ i c, i < k → L[i]? = some c → c.ok = true) ∧ Below w.heap.size w wr)) (fun i _ => L.length - (intOf i).toNat)
  case atStart => exact ⟨0, Nat.zero_le _, rfl, ⟨fun i c hi => absurd hi (Nat.not_lt_zero _), Below.refl _ _⟩⟩
  case round =>
    obtain ⟨k, hk, rfl, hH⟩ := hrel
    by_cases hlt : k < L.length
    · obtain ⟨b, o, hab, hbl, hr⟩ := (ha.keep hH.out.2).at hlt
      have hc := List.getElem?_eq_getElem hlt
      have hft := hf _ (List.getElem_mem hlt)
      revert hr hc hft
      generalize L[k] = c
      intro hr hc hft
      have hix : ∀ wx, (Instr.indexAt 23 (.slice a L.length cap) (.int .i64 k)).run Try.prog wx = .ok (.pointer (some ⟨b, o + k * 4, none⟩)) wx := fun wx => by
        rw [hab]; exact run_ix4 _ _ _ _ _ _ _ wx hlt Try.underlying23 (Try.sizeOf29 wx)
      have hT := cells4_of hr
      have H1 : Hid (Below wr.heap.size wr (wr.alloc (.cells #[.int .i64 c.k, .int .i64 c.n, .string c.s, .int .i64 c.id] 29))) := (Below.refl _ _).alloc (Nat.le_refl _) _
      have hC : Hid (L[k]? = some c ∧ c.fit) := ⟨hc, hft⟩
      clear hab hr ha hbl hc hft hf
      go_wp2_with fail
      refine (entry_ok c _ hC.out.2).mono ?_
      rintro e w' ⟨rfl, hq⟩
      have hP : Hid (Below w.heap.size w w') := hH.out.2.trans ((H1.out.trans (hq.mono H1.out.size)).mono hH.out.2.size)
      clear hT hq H1
      cases hs : c.ok
      · go_wp2_with fail
        go_ret
        exact ⟨ret_bool (all_bad hC.out.1 hs).symm, hP.out⟩
      · go_wp2_with fail
        go_roundw
        case rel => exact ⟨k + 1, by omega, by go_num, ⟨ok_next hH.out.1 hC.out.1 hs, hP.out⟩⟩
        case measure => simp [intOf]; omega
    · have hkl : k = L.length := by omega
      subst hkl
      go_wp2_with fail
      go_ret
      exact ⟨ret_bool (all_ok hH.out.1).symm, hH.out.2⟩

set_option maxRecDepth 100000 in
set_option maxHeartbeats 2000000 in
theorem ascends_entries (a : Option Addr) (cap : Nat) (L : List AEnt) (w : World) (ha : EntsAt w a L) (hm : L.length ≤ maxLen) :
    Calls Try.prog 46 #[.slice a L.length cap, .func (.func 47) #[] #[]] w fun e w' => e = .returned (.bool (ascB L)) ∧ Below w.heap.size w w' := by
  unfold maxLen at hm
  go_enter Try.func46, Try.ntmps46
  go_wp2_with fail
  go_loopw [5] (fun i wr => ∃ k : Nat, k ≤ L.length ∧ i = .int .i64 ((k : Int) + 1) ∧ Hid ((∀ i c d, i < k → L[i]? = some c → L[i + 1]? = some d → lessE c d = true) ∧ Below w.heap.size w wr)) (fun i _ => L.length - (intOf i).toNat)
  case atStart => exact ⟨0, Nat.zero_le _, rfl, ⟨fun i c d hi => absurd hi (Nat.not_lt_zero _), Below.refl _ _⟩⟩
  case round =>
    obtain ⟨k, hk, rfl, hH⟩ := hrel
    by_cases hlt : k + 1 < L.length
    · have hlj : k < L.length := by omega
      obtain ⟨b, o, hab, hbl, hr⟩ := (ha.keep hH.out.2).at hlt
      obtain ⟨b', o', hab', -, hr'⟩ := (ha.keep hH.out.2).at hlj
      rw [hab] at hab'
      simp only [Option.some.injEq, Addr.mk.injEq] at hab'
      obtain ⟨rfl, rfl, _⟩ := hab'
      have hc1 := List.getElem?_eq_getElem hlj
      have hc2 := List.getElem?_eq_getElem hlt
      revert hr hr' hc1 hc2
      generalize L[k] = c
      generalize L[k + 1] = d
      intro hr hr' hc1 hc2
      have hix : ∀ wx, (Instr.indexAt 23 (.slice a L.length cap) (.int .i64 k)).run Try.prog wx = .ok (.pointer (some ⟨b, o + k * 4, none⟩)) wx := fun wx => by
        rw [hab]; exact run_ix4 _ _ _ _ _ _ _ wx hlj Try.underlying23 (Try.sizeOf29 wx)
      obtain ⟨q, hq⟩ : ∃ q, q = (k + 1) * 4 := ⟨_, rfl⟩
      have hiy : ∀ wx, (Instr.indexAt 23 (.slice a L.length cap) (.int .i64 ((k : Int) + 1))).run Try.prog wx = .ok (.pointer (some ⟨b, o + q, none⟩)) wx := fun wx => by
        rw [hab, hq]; exact run_ix4 _ _ _ _ _ (k + 1) _ wx hlt Try.underlying23 (Try.sizeOf29 wx)
      rw [← hq] at hr
      have hT : TwoEnts w b (o + k * 4) b (o + q) c d wr := ⟨cells4_of hr', cells4_of hr, hbl, hbl, hH.out.2⟩
      have hC : Hid (L[k]? = some c ∧ L[k + 1]? = some d) := ⟨hc1, hc2⟩
      have hlti : (k : Int) + 1 < L.length := by omega
      have hwk : IntKind.i64.wrap (k : Int) = (k : Int) := by
        simp [IntKind.wrap, IntKind.bits, IntKind.signed]
        omega
      clear hab hr hr' ha hbl hc1 hc2 hq
      go_wp2_with fail
      go_region_held3 (fun W => TwoEnts w b (o + k * 4) b (o + q) c d W) (first | assumption | exact twoe_drew (by assumption))
        (first
          | (go_at_call 47; refine (compare_entries _ _ _).mono ?_; rintro e w' ⟨rfl, hq⟩; have hN := twoe_next (by assumption) hq; clear hq))
      have hZ := ‹TwoEnts w b (o + k * 4) b (o + q) c d _›
      have hP : Hid (Below w.heap.size w _) := hZ.2.2.2.2
      clear hZ hT
      cases hs : lessE c d
      · have hE : Hid (lessE c d = false) := hs
        have hn : (0 : Int) ≤ cmpE c d := by
          have := cmpE_lt c d
          rw [hs, decide_eq_false_iff_not] at this
          omega
        go_wp2_with fail
        go_ret
        exact ⟨ret_bool (asc_bad hC.out.1 hC.out.2 hE.out).symm, hP.out⟩
      · have hE : Hid (lessE c d = true) := hs
        have hn : ¬ (0 : Int) ≤ cmpE c d := by
          have := cmpE_lt c d
          rw [hs, decide_eq_true_iff] at this
          omega
        go_wp2_with fail
        go_roundw
        case rel =>
          refine ⟨k + 1, by omega, by go_num, ⟨fun i x y hi hx hy => ?_, hP.out⟩⟩
          by_cases hik : i = k
          · subst hik
            rw [hC.out.1] at hx
            rw [hC.out.2] at hy
            cases hx; cases hy
            exact hE.out
          · exact hH.out.1 i x y (by omega) hx hy
        case measure => simp [intOf]; omega
    · have hlti : ¬ (k : Int) + 1 < L.length := by omega
      go_wp2_with fail
      go_ret
      exact ⟨ret_bool ((ascB_iff L).2 fun i x y hx hy => hH.out.1 i x y (by have := (List.getElem?_eq_some_iff.1 hy).1; omega) hx hy).symm, hH.out.2⟩

end Go.Proofs.Ytgjhmpgofmmniaa
