/- Contracts of spec.ShapeSame, of slices.Equal at columns, and of impl.ShapeSame, over the seat's translation. -/
import Derived.Test.YtogjdidmmhghhaaShE1
namespace Go.Proofs.Ytogjdidmmhghhaa
open Go.RowKit

def sameTo (L M : List ACol) (k : Nat) : Bool := (List.range k).all fun i => match L[i]?, M[i]? with | some c, some d => eqC c d | _, _ => false
def shapeSame (L M : List ACol) : Bool := decide (L.length = M.length) && sameTo L M L.length

theorem sameTo_next (L M : List ACol) (k : Nat) (c d : ACol) (hc : L[k]? = some c) (hd : M[k]? = some d) (a : sameTo L M k = true) (b : eqC c d = true) : sameTo L M (k + 1) = true := by
  unfold sameTo at *
  rw [List.range_succ, List.all_append, a]
  simp [hc, hd, b]
theorem same_bad (L M : List ACol) (k : Nat) (c d : ACol) (hc : L[k]? = some c) (hd : M[k]? = some d) (b : eqC c d = false) : shapeSame L M = false := by
  have : sameTo L M L.length = false := by
    unfold sameTo
    rw [List.all_eq_false]
    exact ⟨k, List.mem_range.2 (List.getElem?_eq_some_iff.1 hc).1, by simp [hc, hd, b]⟩
  simp [shapeSame, this]

theorem quiet_below (B : Nat) (w : World) (n : Nat) : Below B w (w.drewN n) := by
  induction n with
  | zero => exact Below.refl _ _
  | succ n ih => exact ih.drew

set_option maxHeartbeats 1000000 in
theorem spec_same (a b : Option Addr) (cap cap' : Nat) (L M : List ACol) (w : World) (ha : ColsAt w a L) (hb : ColsAt w b M) (hm : L.length ≤ maxLen) (_hm2 : M.length ≤ maxLen) :
    Calls Try.prog 10 #[.slice a L.length cap, .slice b M.length cap'] w fun e w' => e = .returned (.bool (shapeSame L M)) ∧ Below w.heap.size w w' := by
  unfold maxLen at hm
  by_cases hlen : L.length = M.length
  · rw [← hlen]
    have hE : Hid (L.length = M.length) := hlen
    clear hlen
    go_enter Try.func10, Try.ntmps10
    go_wp2_with fail
    go_loopw [5] (fun i wr => ∃ k : Nat, k ≤ L.length ∧ i = .int .i64 k ∧ Hid (sameTo L M k = true ∧ Below w.heap.size w wr)) (fun i _ => L.length - (intOf i).toNat)
    case atStart => exact ⟨0, Nat.zero_le _, rfl, ⟨(rfl : sameTo L M 0 = true), Below.refl _ _⟩⟩
    case round =>
      obtain ⟨k, hk, rfl, hH⟩ := hrel
      by_cases hlt : k < L.length
      · have hlt2 : k < M.length := by have := hE.out; omega
        obtain ⟨b1, o1, hab1, hbl1, hr1⟩ := (ha.keep hH.out.2).at hlt
        obtain ⟨b2, o2, hab2, hbl2, hr2⟩ := (hb.keep hH.out.2).at hlt2
        have hc1 := List.getElem?_eq_getElem hlt
        have hc2 := List.getElem?_eq_getElem hlt2
        revert hr1 hr2 hc1 hc2
        generalize L[k] = c
        generalize M[k] = d
        intro hr1 hr2 hc1 hc2
        have hix : ∀ wx, (Instr.indexAt 25 (.slice a L.length cap) (.int .i64 k)).run Try.prog wx = .ok (.pointer (some ⟨b1, o1 + k * 7, none⟩)) wx := fun wx => by
          rw [hab1]; exact run_ix _ _ _ _ _ _ _ wx hlt Try.underlying25 (Try.sizeOf38 wx)
        have hiy : ∀ wx, (Instr.indexAt 25 (.slice b L.length cap') (.int .i64 k)).run Try.prog wx = .ok (.pointer (some ⟨b2, o2 + k * 7, none⟩)) wx := fun wx => by
          rw [hab2]; exact run_ix _ _ _ _ _ _ _ wx hlt Try.underlying25 (Try.sizeOf38 wx)
        have hT1 := cells7_of hr1
        have hT2 := cells7_of hr2
        have hq := neq_col c d
        have hC : Hid (L[k]? = some c ∧ M[k]? = some d) := ⟨hc1, hc2⟩
        clear hab1 hab2 hr1 hr2 ha hb hbl1 hbl2 hc1 hc2 hlt2
        go_wp2_with fail
        go_quiet (fail)
        have hP : Hid (Below w.heap.size w (wr.drewN nq)) := hH.out.2.trans (quiet_below _ _ _)
        clear hT1 hT2 hq
        cases hs : eqC c d
        · go_wp2_with fail
          go_ret
          exact ⟨ret_bool (same_bad L M k c d hC.out.1 hC.out.2 hs).symm, hP.out⟩
        · go_wp2_with fail
          go_roundw
          case rel => exact ⟨k + 1, by omega, by go_num, ⟨sameTo_next L M k c d hC.out.1 hC.out.2 hH.out.1 hs, hP.out⟩⟩
          case measure => simp [intOf]; omega
      · have hkl : k = L.length := by omega
        subst hkl
        go_wp2_with fail
        go_ret
        refine ⟨ret_bool ?_, hH.out.2⟩
        simp [shapeSame, hE.out.symm, hH.out.1]
  · go_enter Try.func10, Try.ntmps10
    go_wp2_with fail
    all_goals
      first
        | (exfalso; omega)
        | (go_ret
           refine ⟨ret_bool ?_, Below.refl _ _⟩
           simp [shapeSame, hlen])

set_option maxHeartbeats 1000000 in
theorem slices_equal (a b : Option Addr) (cap cap' : Nat) (L M : List ACol) (w : World) (ha : ColsAt w a L) (hb : ColsAt w b M) (hm : L.length ≤ maxLen) (_hm2 : M.length ≤ maxLen) :
    Calls Try.prog 19 #[.slice a L.length cap, .slice b M.length cap'] w fun e w' => e = .returned (.bool (shapeSame L M)) ∧ Below w.heap.size w w' := by
  unfold maxLen at hm
  by_cases hlen : L.length = M.length
  · rw [← hlen]
    have hE : Hid (L.length = M.length) := hlen
    clear hlen
    go_enter Try.func19, Try.ntmps19
    go_wp2_with fail
    go_loopw [13] (fun i wr => ∃ k : Nat, k ≤ L.length ∧ i = .int .i64 k ∧ Hid (sameTo L M k = true ∧ Below w.heap.size w wr)) (fun i _ => L.length - (intOf i).toNat)
    case atStart => exact ⟨0, Nat.zero_le _, rfl, ⟨(rfl : sameTo L M 0 = true), Below.refl _ _⟩⟩
    case round =>
      obtain ⟨k, hk, rfl, hH⟩ := hrel
      by_cases hlt : k < L.length
      · have hlt2 : k < M.length := by have := hE.out; omega
        obtain ⟨b1, o1, hab1, hbl1, hr1⟩ := (ha.keep hH.out.2).at hlt
        obtain ⟨b2, o2, hab2, hbl2, hr2⟩ := (hb.keep hH.out.2).at hlt2
        have hc1 := List.getElem?_eq_getElem hlt
        have hc2 := List.getElem?_eq_getElem hlt2
        revert hr1 hr2 hc1 hc2
        generalize L[k] = c
        generalize M[k] = d
        intro hr1 hr2 hc1 hc2
        have hix : ∀ wx, (Instr.indexAt 25 (.slice a L.length cap) (.int .i64 k)).run Try.prog wx = .ok (.pointer (some ⟨b1, o1 + k * 7, none⟩)) wx := fun wx => by
          rw [hab1]; exact run_ix _ _ _ _ _ _ _ wx hlt Try.underlying25 (Try.sizeOf38 wx)
        have hiy : ∀ wx, (Instr.indexAt 25 (.slice b L.length cap') (.int .i64 k)).run Try.prog wx = .ok (.pointer (some ⟨b2, o2 + k * 7, none⟩)) wx := fun wx => by
          rw [hab2]; exact run_ix _ _ _ _ _ _ _ wx hlt Try.underlying25 (Try.sizeOf38 wx)
        have hT1 := cells7_of hr1
        have hT2 := cells7_of hr2
        have hq := neq_col c d
        have hC : Hid (L[k]? = some c ∧ M[k]? = some d) := ⟨hc1, hc2⟩
        clear hab1 hab2 hr1 hr2 ha hb hbl1 hbl2 hc1 hc2 hlt2
        go_wp2_with fail
        go_quiet (fail)
        have hP : Hid (Below w.heap.size w (wr.drewN nq)) := hH.out.2.trans (quiet_below _ _ _)
        clear hT1 hT2 hq
        cases hs : eqC c d
        · go_wp2_with fail
          go_ret
          exact ⟨ret_bool (same_bad L M k c d hC.out.1 hC.out.2 hs).symm, hP.out⟩
        · go_wp2_with fail
          go_roundw
          case rel => exact ⟨k + 1, by omega, by go_num, ⟨sameTo_next L M k c d hC.out.1 hC.out.2 hH.out.1 hs, hP.out⟩⟩
          case measure => simp [intOf]; omega
      · have hkl : k = L.length := by omega
        subst hkl
        go_wp2_with fail
        go_ret
        refine ⟨ret_bool ?_, hH.out.2⟩
        simp [shapeSame, hE.out.symm, hH.out.1]
  · go_enter Try.func19, Try.ntmps19
    go_wp2_with fail
    all_goals
      first
        | (exfalso; omega)
        | (go_ret
           refine ⟨ret_bool ?_, Below.refl _ _⟩
           simp [shapeSame, hlen])

theorem impl_same (a b : Option Addr) (cap cap' : Nat) (L M : List ACol) (w : World) (ha : ColsAt w a L) (hb : ColsAt w b M) (hm : L.length ≤ maxLen) (hm2 : M.length ≤ maxLen) :
    Calls Try.prog 11 #[.slice a L.length cap, .slice b M.length cap'] w fun e w' => e = .returned (.bool (shapeSame L M)) ∧ Below w.heap.size w w' := by
  go_enter Try.func11, Try.ntmps11
  go_wp2_with fail
  refine (slices_equal _ _ _ _ _ _ _ ha hb hm hm2).mono ?_
  rintro e w' ⟨rfl, hq⟩
  go_wp2_with fail
  go_ret
  exact ⟨rfl, hq⟩

end Go.Proofs.Ytogjdidmmhghhaa
