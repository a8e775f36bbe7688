/- The contracts of impl.allOk and impl.ascends at entries, over the seat's translation. -/
import Derived.Test.YtobblnlefhkanaaIxI1
import Derived.Test.YtobblnlefhkanaaOver
namespace Go.Proofs.Ytobblnlefhkanaa
open Go.RowKit

theorem ok_next {L : List AEnt} {k : Nat} {d : AEnt} (h : ∀ i c, i < k → L[i]? = some c → c.ok = true) (hd : L[k]? = some d) (hok : d.ok = true) : ∀ i c, i < k + 1 → L[i]? = some c → c.ok = true := fun i c hi hc => by
  by_cases hik : i = k
  · subst hik; rw [hd] at hc; cases hc; exact hok
  · exact h i c (by omega) hc

set_option maxRecDepth 100000 in
set_option maxHeartbeats 1000000 in
theorem all_entries (a : Option Addr) (cap : Nat) (L : List AEnt) (w : World) (ha : EntsAt w a L) (hf : ∀ c ∈ L, c.fit) (hm : L.length ≤ maxLen) :
    Calls Try.prog 48 #[.slice a L.length cap, .func (.func 41) #[] #[]] w fun e w' => e = .returned (.bool (L.all AEnt.ok)) ∧ Below w.heap.size w w' := by
  unfold maxLen at hm
  go_enter Try.func48, Try.ntmps48
  go_wp2_with fail
  go_loopw [9] (fun i wr => ∃ k : Nat, k ≤ L.length ∧ i = .int .i64 k ∧ Hid ((∀ i c, i < k → L[i]? = some c → c.ok = true) ∧ Below w.heap.size w wr)) (fun i _ => L.length - (intOf i).toNat)
  case atStart => exact ⟨0, Nat.zero_le _, rfl, ⟨fun i c hi => absurd hi (Nat.not_lt_zero _), Below.refl _ _⟩⟩
  case round =>
    obtain ⟨k, hk, rfl, hH⟩ := hrel
    by_cases hlt : k < L.length
    · obtain ⟨b, o, hab, hbl, hr⟩ := (ha.keep hH.out.2).at hlt
      have hc := List.getElem?_eq_getElem hlt
      have hft := hf _ (List.getElem_mem hlt)
      revert hr hc hft
      generalize L[k] = c
      intro hr hc hft
      have hix : ∀ wx, (Instr.indexAt 25 (.slice a L.length cap) (.int .i64 k)).run Try.prog wx = .ok (.pointer (some ⟨b, o + k * 4, none⟩)) wx := fun wx => by
        rw [hab]; exact run_ix4 _ _ _ _ _ _ _ wx hlt Try.underlying25 (Try.sizeOf38 wx)
      have hT := cells4_of hr
      have H1 : Hid (Below wr.heap.size wr (wr.alloc (.cells #[.int .i64 c.k, .int .i64 c.n, .string c.s, .int .i64 c.id] 38))) := (Below.refl _ _).alloc (Nat.le_refl _) _
      have hC : Hid (L[k]? = some c ∧ c.fit) := ⟨hc, hft⟩
      clear hab hr ha hbl hc hft hf
      go_wp2_with fail
      refine (entry_ok c _ hC.out.2).mono ?_
      rintro e w' ⟨rfl, hq⟩
      have hP : Hid (Below w.heap.size w w') := hH.out.2.trans ((H1.out.trans (hq.mono H1.out.size)).mono hH.out.2.size)
      clear hT hq H1
      cases hs : c.ok
      · go_wp2_with fail
        go_ret
        exact ⟨ret_bool (all_bad hC.out.1 hs).symm, hP.out⟩
      · go_wp2_with fail
        go_roundw
        case rel => exact ⟨k + 1, by omega, by go_num, ⟨ok_next hH.out.1 hC.out.1 hs, hP.out⟩⟩
        case measure => simp [intOf]; omega
    · have hkl : k = L.length := by omega
      subst hkl
      go_wp2_with fail
      go_ret
      exact ⟨ret_bool (all_ok hH.out.1).symm, hH.out.2⟩

set_option maxRecDepth 100000 in
set_option maxHeartbeats 2000000 in
theorem ascends_entries (a : Option Addr) (cap : Nat) (L : List AEnt) (w : World) (ha : EntsAt w a L) (hm : L.length ≤ maxLen) :
    Calls Try.prog 49 #[.slice a L.length cap, .func (.func 50) #[] #[]] w fun e w' => e = .returned (.bool (ascB L)) ∧ Below w.heap.size w w' := by
  unfold maxLen at hm
  go_enter Try.func49, Try.ntmps49
  go_wp2_with fail
  go_loopw [5] (fun i wr => ∃ k : Nat, k ≤ L.length ∧ i = .int .i64 ((k : Int) + 1) ∧ Hid ((∀ i c d, i < k → L[i]? = some c → L[i + 1]? = some d → lessE c d = true) ∧ Below w.heap.size w wr)) (fun i _ => L.length - (intOf i).toNat)
  case atStart => exact ⟨0, Nat.zero_le _, rfl, ⟨fun i c d hi => absurd hi (Nat.not_lt_zero _), Below.refl _ _⟩⟩
  case round =>
    obtain ⟨k, hk, rfl, hH⟩ := hrel
    by_cases hlt : k + 1 < L.length
    · have hlj : k < L.length := by omega
      obtain ⟨b, o, hab, hbl, hr⟩ := (ha.keep hH.out.2).at hlt
      obtain ⟨b', o', hab', -, hr'⟩ := (ha.keep hH.out.2).at hlj
      rw [hab] at hab'
      simp only [Option.some.injEq, Addr.mk.injEq] at hab'
      obtain ⟨rfl, rfl, _⟩ := hab'
      have hc1 := List.getElem?_eq_getElem hlj
      have hc2 := List.getElem?_eq_getElem hlt
      revert hr hr' hc1 hc2
      generalize L[k] = c
      generalize L[k + 1] = d
      intro hr hr' hc1 hc2
      have hix : ∀ wx, (Instr.indexAt 25 (.slice a L.length cap) (.int .i64 k)).run Try.prog wx = .ok (.pointer (some ⟨b, o + k * 4, none⟩)) wx := fun wx => by
        rw [hab]; exact run_ix4 _ _ _ _ _ _ _ wx hlj Try.underlying25 (Try.sizeOf38 wx)
      obtain ⟨q, hq⟩ : ∃ q, q = (k + 1) * 4 := ⟨_, rfl⟩
      have hiy : ∀ wx, (Instr.indexAt 25 (.slice a L.length cap) (.int .i64 ((k : Int) + 1))).run Try.prog wx = .ok (.pointer (some ⟨b, o + q, none⟩)) wx := fun wx => by
        rw [hab, hq]; exact run_ix4 _ _ _ _ _ (k + 1) _ wx hlt Try.underlying25 (Try.sizeOf38 wx)
      rw [← hq] at hr
      have hT : TwoEnts w b (o + k * 4) b (o + q) c d wr := ⟨cells4_of hr', cells4_of hr, hbl, hbl, hH.out.2⟩
      have hC : Hid (L[k]? = some c ∧ L[k + 1]? = some d) := ⟨hc1, hc2⟩
      have hlti : (k : Int) + 1 < L.length := by omega
      have hwk : IntKind.i64.wrap (k : Int) = (k : Int) := by
        simp [IntKind.wrap, IntKind.bits, IntKind.signed]
        omega
      clear hab hr hr' ha hbl hc1 hc2 hq
      go_wp2_with fail
      go_region_held3 (fun W => TwoEnts w b (o + k * 4) b (o + q) c d W) (first | assumption | exact twoe_drew (by assumption))
        (first
          | (go_at_call 50; refine (compare_entries _ _ _).mono ?_; rintro e w' ⟨rfl, hq⟩; have hN := twoe_next (by assumption) hq; clear hq))
      have hZ := ‹TwoEnts w b (o + k * 4) b (o + q) c d _›
      have hP : Hid (Below w.heap.size w _) := hZ.2.2.2.2
      clear hZ hT
      cases hs : lessE c d
      · have hE : Hid (lessE c d = false) := hs
        have hn : (0 : Int) ≤ cmpE c d := by
          have := cmpE_lt c d
          rw [hs, decide_eq_false_iff_not] at this
          omega
        go_wp2_with fail
        go_ret
        exact ⟨ret_bool (asc_bad hC.out.1 hC.out.2 hE.out).symm, hP.out⟩
      · have hE : Hid (lessE c d = true) := hs
        have hn : ¬ (0 : Int) ≤ cmpE c d := by
          have := cmpE_lt c d
          rw [hs, decide_eq_true_iff] at this
          omega
        go_wp2_with fail
        go_roundw
        case rel =>
          refine ⟨k + 1, by omega, by go_num, ⟨fun i x y hi hx hy => ?_, hP.out⟩⟩
          by_cases hik : i = k
          · subst hik
            rw [hC.out.1] at hx
            rw [hC.out.2] at hy
            cases hx; cases hy
            exact hE.out
          · exact hH.out.1 i x y (by omega) hx hy
        case measure => simp [intOf]; omega
    · have hlti : ¬ (k : Int) + 1 < L.length := by omega
      go_wp2_with fail
      go_ret
      exact ⟨ret_bool ((ascB_iff L).2 fun i x y hx hy => hH.out.1 i x y (by have := (List.getElem?_eq_some_iff.1 hy).1; omega) hx hy).symm, hH.out.2⟩

end Go.Proofs.Ytobblnlefhkanaa
