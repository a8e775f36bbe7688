/- The contract of spec.IndexOk, over the seat's translation. -/
import Derived.Test.YtobblnlefhkanaaIxS1
import Derived.Test.YtobblnlefhkanaaIxE0
import Derived.Test.YtobblnlefhkanaaOver
namespace Go.Proofs.Ytobblnlefhkanaa
open Go.RowKit

/-- The first k are right, and each of them stands ahead of the next. -/
def OkTo (L : List AEnt) (k : Nat) : Prop := (∀ i c, i < k → L[i]? = some c → c.ok = true) ∧ ∀ i c d, i + 1 < k → L[i]? = some c → L[i + 1]? = some d → lessE c d = true
theorem spec_next {L : List AEnt} {k : Nat} {d : AEnt} (h : OkTo L k) (hd : L[k]? = some d) (hok : d.ok = true) (hl : ∀ j c, j + 1 = k → L[j]? = some c → lessE c d = true) : OkTo L (k + 1) := by
  refine ⟨fun i c hi hc => ?_, fun i c e hi hc he => ?_⟩
  · by_cases hik : i = k
    · subst hik; rw [hd] at hc; cases hc; exact hok
    · exact h.1 i c (by omega) hc
  · by_cases hik : i + 1 = k
    · rw [hik, hd] at he; cases he; exact hl i c hik hc
    · exact h.2 i c e (by omega) hc he
theorem index_end {L : List AEnt} (h : OkTo L L.length) : indexOk L = decide (L.length ≤ 16) := by
  have h1 : L.all AEnt.ok = true := all_ok h.1
  have h2 : ascB L = true := (ascB_iff L).2 fun i c d hc hd => h.2 i c d (by have := (List.getElem?_eq_some_iff.1 hd).1; omega) hc hd
  simp [indexOk, h1, h2]
theorem index_bad {L : List AEnt} {k : Nat} {d : AEnt} (hd : L[k]? = some d) (h : d.ok = false) : indexOk L = false := by
  simp [indexOk, all_bad hd h]
theorem index_swap {L : List AEnt} {j k : Nat} {c d : AEnt} (hj : j + 1 = k) (hc : L[j]? = some c) (hd : L[k]? = some d) (h : lessE c d = false) : indexOk L = false := by
  subst hj
  simp [indexOk, asc_bad hc hd h]

set_option maxRecDepth 100000 in
set_option maxHeartbeats 4000000 in
theorem spec_index (a : Option Addr) (cap : Nat) (L : List AEnt) (w : World) (hL : EntsAt w a L) (hf : ∀ c ∈ L, c.fit) (hm : L.length ≤ maxLen) :
    Calls Try.prog 10 #[.slice a L.length cap] w fun e w' => e = .returned (.bool (indexOk L)) ∧ Below w.heap.size w w' := by
  unfold maxLen at hm
  go_enter Try.func10, Try.ntmps10
  go_wp2_with fail
  go_loopw [3] (fun i wr => ∃ k : Nat, k ≤ L.length ∧ i = .int .i64 k ∧ Hid (OkTo L k ∧ Below w.heap.size w wr)) (fun i _ => L.length - (intOf i).toNat)
  case atStart => exact ⟨0, Nat.zero_le _, rfl, ⟨⟨fun i c hi => absurd hi (Nat.not_lt_zero _), fun i c d hi => absurd hi (Nat.not_lt_zero _)⟩, Below.refl _ _⟩⟩
  case round =>
    obtain ⟨k, hk, rfl, hH⟩ := hrel
    by_cases hlt : k < L.length
    rotate_left
    · have hkl : k = L.length := by omega
      subst hkl
      go_wp2_with fail
      go_ret
      refine ⟨ret_bool ?_, hH.out.2⟩
      rw [index_end hH.out.1, Bool.eq_iff_iff]
      simp only [decide_eq_true_eq]
      omega
    · obtain ⟨j, hj⟩ : ∃ j, j = k - 1 := ⟨_, rfl⟩
      have hjl : j < L.length := by omega
      obtain ⟨b, o, hab, hbl, hr⟩ := (hL.keep hH.out.2).at hlt
      obtain ⟨b', o', hab', -, hr'⟩ := (hL.keep hH.out.2).at hjl
      rw [hab] at hab'
      simp only [Option.some.injEq, Addr.mk.injEq] at hab'
      obtain ⟨rfl, rfl, _⟩ := hab'
      have hc1 := List.getElem?_eq_getElem hjl
      have hc2 := List.getElem?_eq_getElem hlt
      have hft := hf _ (List.getElem_mem hlt)
      revert hr hr' hc1 hc2 hft
      generalize L[j] = c
      generalize L[k] = d
      intro hr hr' hc1 hc2 hft
      have hix : ∀ wx, (Instr.indexAt 25 (.slice a L.length cap) (.int .i64 k)).run Try.prog wx = .ok (.pointer (some ⟨b, o + k * 4, none⟩)) wx := fun wx => by
        rw [hab]; exact run_ix4 _ _ _ _ _ _ _ wx hlt Try.underlying25 (Try.sizeOf38 wx)
      have hT : TwoEnts w b (o + j * 4) b (o + k * 4) c d wr := ⟨cells4_of hr', cells4_of hr, hbl, hbl, hH.out.2⟩
      have hC : Hid (L[j]? = some c ∧ L[k]? = some d) := ⟨hc1, hc2⟩
      have inh : Nonempty (Over (TwoEnts w b (o + j * 4) b (o + k * 4) c d)) := ⟨⟨wr, hT⟩⟩
      have f0 : ∀ p : Over (TwoEnts w b (o + j * 4) b (o + k * 4) c d), Cells4 p.W b (o + j * 4) c := fun p => p.ok.1
      have f1 : ∀ p : Over (TwoEnts w b (o + j * 4) b (o + k * 4) c d), Cells4 p.W b (o + k * 4) d := fun p => p.ok.2.1
      have hiy : 0 < k → ∀ wx, (Instr.indexAt 25 (.slice a L.length cap) (.int .i64 ((k : Int) - 1))).run Try.prog wx = .ok (.pointer (some ⟨b, o + j * 4, none⟩)) wx := fun hk0 wx => by
        rw [hab, show ((k : Int) - 1) = ((j : Nat) : Int) by omega]; exact run_ix4 _ _ _ _ _ _ _ wx hjl Try.underlying25 (Try.sizeOf38 wx)
      have hJ : Hid (j = k - 1) := hj
      have hcon2 : ∀ W, Calls Try.prog 34 #[.agg #[.int .i64 c.k, .int .i64 c.n, .string c.s, .int .i64 c.id], .agg #[.int .i64 d.k, .int .i64 d.n, .string d.s, .int .i64 d.id]] W fun e w' => e = .returned (.bool (lessE c d)) ∧ Below W.heap.size W w' := fun W => less_entry c d W
      clear hab hr hr' hL hbl hc1 hc2 hj hjl
      cases hok : valOk d.k d.n d.s
      · have hcon : ∀ W, Calls Try.prog 33 #[.agg #[.int .i64 d.k, .int .i64 d.n, .string d.s]] W fun e w' => e = .returned (.bool false) ∧ Below W.heap.size W w' := fun W => by
          have := spec_ok d.k d.n d.s W hft
          rwa [hok] at this
        clear hiy
        go_wp2_with fail
        refine wp_region_over (S := TwoEnts w b (o + j * 4) b (o + k * 4) c d) (by kernel_rfl) (by kernel_rfl) (twoe_drew hT) ?_
        repeat (go_big_quiet_step (first | exact over_call (hcon _) (fun _ h => twoe_next (Over.ok _) h) | exact over_call (hcon2 _) (fun _ h => twoe_next (Over.ok _) h)))
        refine wpQuiet_nil ?_
        rintro wq ⟨p, hp⟩
        have hq := p.ok
        rw [← hp] at hq
        clear hp p f0 f1 inh
        go_wp2_with fail
        go_ret
        exact ⟨ret_bool (index_bad hC.out.2 (by simp only [AEnt.ok, hok, Bool.false_and])).symm, hq.2.2.2.2⟩
      have hcon : ∀ W, Calls Try.prog 33 #[.agg #[.int .i64 d.k, .int .i64 d.n, .string d.s]] W fun e w' => e = .returned (.bool true) ∧ Below W.heap.size W w' := fun W => by
        have := spec_ok d.k d.n d.s W hft
        rwa [hok] at this
      by_cases h1 : 1 ≤ d.id
      rotate_left
      · have hg1 : decide (d.id < 1) = true := decide_eq_true (by omega)
        have H1 : Hid (¬ 1 ≤ d.id) := h1
        clear hiy h1
        go_wp2_with fail
        refine wp_region_over (S := TwoEnts w b (o + j * 4) b (o + k * 4) c d) (by kernel_rfl) (by kernel_rfl) (twoe_drew hT) ?_
        repeat (go_big_quiet_step (first | exact over_call (hcon _) (fun _ h => twoe_next (Over.ok _) h) | exact over_call (hcon2 _) (fun _ h => twoe_next (Over.ok _) h)))
        refine wpQuiet_nil ?_
        rintro wq ⟨p, hp⟩
        have hq := p.ok
        rw [← hp] at hq
        clear hp p f0 f1 inh
        go_wp2_with fail
        go_ret
        exact ⟨ret_bool (index_bad hC.out.2 (by rw [AEnt.ok, decide_eq_false (by have := H1.out; omega)]; simp)).symm, hq.2.2.2.2⟩
      have hg1 : decide (d.id < 1) = false := decide_eq_false (by omega)
      have H1 : Hid (1 ≤ d.id) := h1
      clear h1
      by_cases h2 : d.id ≤ 60
      rotate_left
      · have hg2 : decide ((60 : Int) < d.id) = true := decide_eq_true (by omega)
        have H2 : Hid (¬ d.id ≤ 60) := h2
        clear hiy h2
        go_wp2_with fail
        refine wp_region_over (S := TwoEnts w b (o + j * 4) b (o + k * 4) c d) (by kernel_rfl) (by kernel_rfl) (twoe_drew hT) ?_
        repeat (go_big_quiet_step (first | exact over_call (hcon _) (fun _ h => twoe_next (Over.ok _) h) | exact over_call (hcon2 _) (fun _ h => twoe_next (Over.ok _) h)))
        refine wpQuiet_nil ?_
        rintro wq ⟨p, hp⟩
        have hq := p.ok
        rw [← hp] at hq
        clear hp p f0 f1 inh
        go_wp2_with fail
        go_ret
        exact ⟨ret_bool (index_bad hC.out.2 (by rw [AEnt.ok, decide_eq_false (p := d.id ≤ 60) (by have := H2.out; omega)]; simp)).symm, hq.2.2.2.2⟩
      have hg2 : decide ((60 : Int) < d.id) = false := decide_eq_false (by omega)
      have H2 : Hid (d.id ≤ 60) := h2
      clear h2
      by_cases h3 : 0 < k
      rotate_left
      · have hg3 : decide (0 < k) = false := decide_eq_false (by omega)
        have H3 : Hid (¬ 0 < k) := h3
        clear hiy h3
        go_wp2_with fail
        refine wp_region_over (S := TwoEnts w b (o + j * 4) b (o + k * 4) c d) (by kernel_rfl) (by kernel_rfl) (twoe_drew hT) ?_
        repeat (go_big_quiet_step (first | exact over_call (hcon _) (fun _ h => twoe_next (Over.ok _) h) | exact over_call (hcon2 _) (fun _ h => twoe_next (Over.ok _) h)))
        refine wpQuiet_nil ?_
        rintro wq ⟨p, hp⟩
        have hq := p.ok
        rw [← hp] at hq
        clear hp p f0 f1 inh
        go_wp2_with fail
        go_roundw
        case rel => exact ⟨k + 1, by omega, by go_num, ⟨spec_next hH.out.1 hC.out.2 (by rw [AEnt.ok, hok, decide_eq_true (by have := H1.out; omega), decide_eq_true (by have := H2.out; omega)]; rfl) (fun j c hj => by have := H3.out; omega), hq.2.2.2.2⟩⟩
        case measure => simp [intOf]; omega
      have hg3 : decide (0 < k) = true := decide_eq_true (by omega)
      have hiz := hiy h3
      have H3 : Hid (0 < k) := h3
      clear hiy h3
      cases hl : lessE c d
      · rw [hl] at hcon2
        go_wp2_with fail
        refine wp_region_over (S := TwoEnts w b (o + j * 4) b (o + k * 4) c d) (by kernel_rfl) (by kernel_rfl) (twoe_drew hT) ?_
        repeat (go_big_quiet_step (first | exact over_call (hcon _) (fun _ h => twoe_next (Over.ok _) h) | exact over_call (hcon2 _) (fun _ h => twoe_next (Over.ok _) h)))
        refine wpQuiet_nil ?_
        rintro wq ⟨p, hp⟩
        have hq := p.ok
        rw [← hp] at hq
        clear hp p f0 f1 inh
        go_wp2_with fail
        go_ret
        exact ⟨ret_bool (index_swap (by have := hJ.out; have := H3.out; omega) hC.out.1 hC.out.2 hl).symm, hq.2.2.2.2⟩
      · rw [hl] at hcon2
        go_wp2_with fail
        refine wp_region_over (S := TwoEnts w b (o + j * 4) b (o + k * 4) c d) (by kernel_rfl) (by kernel_rfl) (twoe_drew hT) ?_
        repeat (go_big_quiet_step (first | exact over_call (hcon _) (fun _ h => twoe_next (Over.ok _) h) | exact over_call (hcon2 _) (fun _ h => twoe_next (Over.ok _) h)))
        refine wpQuiet_nil ?_
        rintro wq ⟨p, hp⟩
        have hq := p.ok
        rw [← hp] at hq
        clear hp p f0 f1 inh
        go_wp2_with fail
        go_roundw
        case rel => exact ⟨k + 1, by omega, by go_num, ⟨spec_next hH.out.1 hC.out.2 (by rw [AEnt.ok, hok, decide_eq_true (by have := H1.out; omega), decide_eq_true (by have := H2.out; omega)]; rfl) (fun i e hi he => by rw [show i = j by have := hJ.out; have := H3.out; omega, hC.out.1] at he; cases he; exact hl), hq.2.2.2.2⟩⟩
        case measure => simp [intOf]; omega

end Go.Proofs.Ytobblnlefhkanaa
