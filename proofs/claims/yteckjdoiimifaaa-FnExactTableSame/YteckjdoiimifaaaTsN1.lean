/- Values, changes, rows and tables held against each other: spec.TableSame and impl.TableSame, and what they call, over the seat's translation. -/
import Derived.Test.YteckjdoiimifaaaTsE
import Derived.Test.YteckjdoiimifaaaShE2
namespace Go.Proofs.Yteckjdoiimifaaa
open Go.RowKit

def eqV (c d : AVal) : Bool := c.k == d.k && (c.n == d.n && c.s.toList == d.s.toList)
def eqX (c d : AChg) : Bool := c.kd == d.kd && (c.nm.toList == d.nm.toList && (c.nw.toList == d.nw.toList && eqC c.c d.c))

set_option maxHeartbeats 1000000 in
theorem neq_val (c d : AVal) (w : World) :
    (binOp .neq 61 (.agg #[.int .i64 c.k, .int .i64 c.n, .string c.s]) (.agg #[.int .i64 d.k, .int .i64 d.n, .string d.s])).run Try.prog w = .ok (.bool (!(eqV c d))) w := by
  unfold eqV
  go_simp
  by_cases g : c.k = d.k <;> by_cases h : c.n = d.n <;> by_cases i : c.s.toList = d.s.toList <;> simp [g, h, i]

set_option maxRecDepth 100000 in
set_option maxHeartbeats 4000000 in
theorem neq_chg (c d : AChg) (w : World) :
    (binOp .neq 75 (.agg #[.int .i64 c.kd, .string c.nm, .string c.nw, .string c.c.nm, .int .i64 c.c.kd, .bool c.c.nd, .bool c.c.oc, .int .i64 c.c.k, .int .i64 c.c.n, .string c.c.s]) (.agg #[.int .i64 d.kd, .string d.nm, .string d.nw, .string d.c.nm, .int .i64 d.c.kd, .bool d.c.nd, .bool d.c.oc, .int .i64 d.c.k, .int .i64 d.c.n, .string d.c.s])).run Try.prog w = .ok (.bool (!(eqX c d))) w := by
  unfold eqX eqC
  go_simp
  by_cases h0 : c.kd = d.kd
  case neg => simp [h0]
  by_cases h1 : c.nm.toList = d.nm.toList
  case neg => simp [h0, h1]
  by_cases h2 : c.nw.toList = d.nw.toList
  case neg => simp [h0, h1, h2]
  by_cases h3 : c.c.nm.toList = d.c.nm.toList
  case neg => simp [h0, h1, h2, h3]
  by_cases h4 : c.c.kd = d.c.kd
  case neg => simp [h0, h1, h2, h3, h4]
  by_cases h5 : c.c.nd = d.c.nd
  case neg => simp [h0, h1, h2, h3, h4, h5]
  by_cases h6 : c.c.oc = d.c.oc
  case neg => simp [h0, h1, h2, h3, h4, h5, h6]
  by_cases h7 : c.c.k = d.c.k
  case neg => simp [h0, h1, h2, h3, h4, h5, h6, h7]
  by_cases h8 : c.c.n = d.c.n
  case neg => simp [h0, h1, h2, h3, h4, h5, h6, h7, h8]
  by_cases h9 : c.c.s.toList = d.c.s.toList
  case neg => simp [h0, h1, h2, h3, h4, h5, h6, h7, h8, h9]
  simp [h0, h1, h2, h3, h4, h5, h6, h7, h8, h9]

def sameToV (L M : List AVal) (k : Nat) : Bool := (List.range k).all fun i => match L[i]?, M[i]? with | some c, some d => eqV c d | _, _ => false
def valsSame (L M : List AVal) : Bool := decide (L.length = M.length) && sameToV L M L.length

theorem sameToV_next (L M : List AVal) (k : Nat) (c d : AVal) (hc : L[k]? = some c) (hd : M[k]? = some d) (a : sameToV L M k = true) (b : eqV c d = true) : sameToV L M (k + 1) = true := by
  unfold sameToV at *
  rw [List.range_succ, List.all_append, a]
  simp [hc, hd, b]
theorem sameV_bad (L M : List AVal) (k : Nat) (c d : AVal) (hc : L[k]? = some c) (hd : M[k]? = some d) (b : eqV c d = false) : valsSame L M = false := by
  have : sameToV L M L.length = false := by
    unfold sameToV
    rw [List.all_eq_false]
    exact ⟨k, List.mem_range.2 (List.getElem?_eq_some_iff.1 hc).1, by simp [hc, hd, b]⟩
  simp [valsSame, this]

set_option maxRecDepth 100000 in
set_option maxHeartbeats 1000000 in
theorem spec_vals (a b : Option Addr) (cap cap' : Nat) (L M : List AVal) (w : World) (ha : ValsAt w a L) (hb : ValsAt w b M) (hm : L.length ≤ maxLen) (_hm2 : M.length ≤ maxLen) :
    Calls Try.prog 70 #[.slice a L.length cap, .slice b M.length cap'] w fun e w' => e = .returned (.bool (valsSame L M)) ∧ Below w.heap.size w w' := by
  unfold maxLen at hm
  by_cases hlen : L.length = M.length
  · rw [← hlen]
    have hE : Hid (L.length = M.length) := hlen
    clear hlen
    go_enter Try.func70, Try.ntmps70
    go_wp2_with fail
    go_loopw [5] (fun i wr => ∃ k : Nat, k ≤ L.length ∧ i = .int .i64 k ∧ Hid (sameToV L M k = true ∧ Below w.heap.size w wr)) (fun i _ => L.length - (intOf i).toNat)
    case atStart => exact ⟨0, Nat.zero_le _, rfl, ⟨(rfl : sameToV L M 0 = true), Below.refl _ _⟩⟩
    case round =>
      obtain ⟨k, hk, rfl, hH⟩ := hrel
      by_cases hlt : k < L.length
      · have hlt2 : k < M.length := by have := hE.out; omega
        obtain ⟨b1, o1, hab1, hbl1, hr1⟩ := (ha.keep hH.out.2).at hlt
        obtain ⟨b2, o2, hab2, hbl2, hr2⟩ := (hb.keep hH.out.2).at hlt2
        have hc1 := List.getElem?_eq_getElem hlt
        have hc2 := List.getElem?_eq_getElem hlt2
        revert hr1 hr2 hc1 hc2
        generalize L[k] = c
        generalize M[k] = d
        intro hr1 hr2 hc1 hc2
        have hix : ∀ wx, (Instr.indexAt 77 (.slice a L.length cap) (.int .i64 k)).run Try.prog wx = .ok (.pointer (some ⟨b1, o1 + k * 3, none⟩)) wx := fun wx => by
          rw [hab1]; exact run_ix3 _ _ _ _ _ _ _ wx hlt Try.underlying77 (Try.sizeOf61 wx)
        have hiy : ∀ wx, (Instr.indexAt 77 (.slice b L.length cap') (.int .i64 k)).run Try.prog wx = .ok (.pointer (some ⟨b2, o2 + k * 3, none⟩)) wx := fun wx => by
          rw [hab2]; exact run_ix3 _ _ _ _ _ _ _ wx hlt Try.underlying77 (Try.sizeOf61 wx)
        have hT1 := cells3_of hr1
        have hT2 := cells3_of hr2
        have hq := neq_val c d
        have hC : Hid (L[k]? = some c ∧ M[k]? = some d) := ⟨hc1, hc2⟩
        clear hab1 hab2 hr1 hr2 ha hb hbl1 hbl2 hc1 hc2 hlt2
        go_wp2_with fail
        go_quiet (fail)
        have hP : Hid (Below w.heap.size w (wr.drewN nq)) := hH.out.2.trans (quiet_below _ _ _)
        clear hT1 hT2 hq
        cases hs : eqV c d
        · go_wp2_with fail
          go_ret
          exact ⟨ret_bool (sameV_bad L M k c d hC.out.1 hC.out.2 hs).symm, hP.out⟩
        · go_wp2_with fail
          go_roundw
          case rel => exact ⟨k + 1, by omega, by go_num, ⟨sameToV_next L M k c d hC.out.1 hC.out.2 hH.out.1 hs, hP.out⟩⟩
          case measure => simp [intOf]; omega
      · have hkl : k = L.length := by omega
        subst hkl
        go_wp2_with fail
        go_ret
        refine ⟨ret_bool ?_, hH.out.2⟩
        simp [valsSame, hE.out.symm, hH.out.1]
  · go_enter Try.func70, Try.ntmps70
    go_wp2_with fail
    all_goals
      first
        | (exfalso; omega)
        | (go_ret
           refine ⟨ret_bool ?_, Below.refl _ _⟩
           simp [valsSame, hlen])

set_option maxRecDepth 100000 in
set_option maxHeartbeats 1000000 in
theorem equal_vals (a b : Option Addr) (cap cap' : Nat) (L M : List AVal) (w : World) (ha : ValsAt w a L) (hb : ValsAt w b M) (hm : L.length ≤ maxLen) (_hm2 : M.length ≤ maxLen) :
    Calls Try.prog 74 #[.slice a L.length cap, .slice b M.length cap'] w fun e w' => e = .returned (.bool (valsSame L M)) ∧ Below w.heap.size w w' := by
  unfold maxLen at hm
  by_cases hlen : L.length = M.length
  · rw [← hlen]
    have hE : Hid (L.length = M.length) := hlen
    clear hlen
    go_enter Try.func74, Try.ntmps74
    go_wp2_with fail
    go_loopw [13] (fun i wr => ∃ k : Nat, k ≤ L.length ∧ i = .int .i64 k ∧ Hid (sameToV L M k = true ∧ Below w.heap.size w wr)) (fun i _ => L.length - (intOf i).toNat)
    case atStart => exact ⟨0, Nat.zero_le _, rfl, ⟨(rfl : sameToV L M 0 = true), Below.refl _ _⟩⟩
    case round =>
      obtain ⟨k, hk, rfl, hH⟩ := hrel
      by_cases hlt : k < L.length
      · have hlt2 : k < M.length := by have := hE.out; omega
        obtain ⟨b1, o1, hab1, hbl1, hr1⟩ := (ha.keep hH.out.2).at hlt
        obtain ⟨b2, o2, hab2, hbl2, hr2⟩ := (hb.keep hH.out.2).at hlt2
        have hc1 := List.getElem?_eq_getElem hlt
        have hc2 := List.getElem?_eq_getElem hlt2
        revert hr1 hr2 hc1 hc2
        generalize L[k] = c
        generalize M[k] = d
        intro hr1 hr2 hc1 hc2
        have hix : ∀ wx, (Instr.indexAt 77 (.slice a L.length cap) (.int .i64 k)).run Try.prog wx = .ok (.pointer (some ⟨b1, o1 + k * 3, none⟩)) wx := fun wx => by
          rw [hab1]; exact run_ix3 _ _ _ _ _ _ _ wx hlt Try.underlying77 (Try.sizeOf61 wx)
        have hiy : ∀ wx, (Instr.indexAt 77 (.slice b L.length cap') (.int .i64 k)).run Try.prog wx = .ok (.pointer (some ⟨b2, o2 + k * 3, none⟩)) wx := fun wx => by
          rw [hab2]; exact run_ix3 _ _ _ _ _ _ _ wx hlt Try.underlying77 (Try.sizeOf61 wx)
        have hT1 := cells3_of hr1
        have hT2 := cells3_of hr2
        have hq := neq_val c d
        have hC : Hid (L[k]? = some c ∧ M[k]? = some d) := ⟨hc1, hc2⟩
        clear hab1 hab2 hr1 hr2 ha hb hbl1 hbl2 hc1 hc2 hlt2
        go_wp2_with fail
        go_quiet (fail)
        have hP : Hid (Below w.heap.size w (wr.drewN nq)) := hH.out.2.trans (quiet_below _ _ _)
        clear hT1 hT2 hq
        cases hs : eqV c d
        · go_wp2_with fail
          go_ret
          exact ⟨ret_bool (sameV_bad L M k c d hC.out.1 hC.out.2 hs).symm, hP.out⟩
        · go_wp2_with fail
          go_roundw
          case rel => exact ⟨k + 1, by omega, by go_num, ⟨sameToV_next L M k c d hC.out.1 hC.out.2 hH.out.1 hs, hP.out⟩⟩
          case measure => simp [intOf]; omega
      · have hkl : k = L.length := by omega
        subst hkl
        go_wp2_with fail
        go_ret
        refine ⟨ret_bool ?_, hH.out.2⟩
        simp [valsSame, hE.out.symm, hH.out.1]
  · go_enter Try.func74, Try.ntmps74
    go_wp2_with fail
    all_goals
      first
        | (exfalso; omega)
        | (go_ret
           refine ⟨ret_bool ?_, Below.refl _ _⟩
           simp [valsSame, hlen])

def sameToX (L M : List AChg) (k : Nat) : Bool := (List.range k).all fun i => match L[i]?, M[i]? with | some c, some d => eqX c d | _, _ => false
def chgsSame (L M : List AChg) : Bool := decide (L.length = M.length) && sameToX L M L.length

theorem sameToX_next (L M : List AChg) (k : Nat) (c d : AChg) (hc : L[k]? = some c) (hd : M[k]? = some d) (a : sameToX L M k = true) (b : eqX c d = true) : sameToX L M (k + 1) = true := by
  unfold sameToX at *
  rw [List.range_succ, List.all_append, a]
  simp [hc, hd, b]
theorem sameX_bad (L M : List AChg) (k : Nat) (c d : AChg) (hc : L[k]? = some c) (hd : M[k]? = some d) (b : eqX c d = false) : chgsSame L M = false := by
  have : sameToX L M L.length = false := by
    unfold sameToX
    rw [List.all_eq_false]
    exact ⟨k, List.mem_range.2 (List.getElem?_eq_some_iff.1 hc).1, by simp [hc, hd, b]⟩
  simp [chgsSame, this]

set_option maxRecDepth 100000 in
set_option maxHeartbeats 1000000 in
theorem equal_chgs (a b : Option Addr) (cap cap' : Nat) (L M : List AChg) (w : World) (ha : ChgsAt w a L) (hb : ChgsAt w b M) (hm : L.length ≤ maxLen) (_hm2 : M.length ≤ maxLen) :
    Calls Try.prog 45 #[.slice a L.length cap, .slice b M.length cap'] w fun e w' => e = .returned (.bool (chgsSame L M)) ∧ Below w.heap.size w w' := by
  unfold maxLen at hm
  by_cases hlen : L.length = M.length
  · rw [← hlen]
    have hE : Hid (L.length = M.length) := hlen
    clear hlen
    go_enter Try.func45, Try.ntmps45
    go_wp2_with fail
    go_loopw [13] (fun i wr => ∃ k : Nat, k ≤ L.length ∧ i = .int .i64 k ∧ Hid (sameToX L M k = true ∧ Below w.heap.size w wr)) (fun i _ => L.length - (intOf i).toNat)
    case atStart => exact ⟨0, Nat.zero_le _, rfl, ⟨(rfl : sameToX L M 0 = true), Below.refl _ _⟩⟩
    case round =>
      obtain ⟨k, hk, rfl, hH⟩ := hrel
      by_cases hlt : k < L.length
      · have hlt2 : k < M.length := by have := hE.out; omega
        obtain ⟨b1, o1, hab1, hbl1, hr1⟩ := (ha.keep hH.out.2).at hlt
        obtain ⟨b2, o2, hab2, hbl2, hr2⟩ := (hb.keep hH.out.2).at hlt2
        have hc1 := List.getElem?_eq_getElem hlt
        have hc2 := List.getElem?_eq_getElem hlt2
        revert hr1 hr2 hc1 hc2
        generalize L[k] = c
        generalize M[k] = d
        intro hr1 hr2 hc1 hc2
        have hix : ∀ wx, (Instr.indexAt 25 (.slice a L.length cap) (.int .i64 k)).run Try.prog wx = .ok (.pointer (some ⟨b1, o1 + k * 10, none⟩)) wx := fun wx => by
          rw [hab1]; exact run_ix10 _ _ _ _ _ _ _ wx hlt Try.underlying25 (Try.sizeOf75 wx)
        have hiy : ∀ wx, (Instr.indexAt 25 (.slice b L.length cap') (.int .i64 k)).run Try.prog wx = .ok (.pointer (some ⟨b2, o2 + k * 10, none⟩)) wx := fun wx => by
          rw [hab2]; exact run_ix10 _ _ _ _ _ _ _ wx hlt Try.underlying25 (Try.sizeOf75 wx)
        have hT1 := cells10_of hr1
        have hT2 := cells10_of hr2
        have hq := neq_chg c d
        have hC : Hid (L[k]? = some c ∧ M[k]? = some d) := ⟨hc1, hc2⟩
        clear hab1 hab2 hr1 hr2 ha hb hbl1 hbl2 hc1 hc2 hlt2
        go_wp2_with fail
        go_quiet (fail)
        have hP : Hid (Below w.heap.size w (wr.drewN nq)) := hH.out.2.trans (quiet_below _ _ _)
        clear hT1 hT2 hq
        cases hs : eqX c d
        · go_wp2_with fail
          go_ret
          exact ⟨ret_bool (sameX_bad L M k c d hC.out.1 hC.out.2 hs).symm, hP.out⟩
        · go_wp2_with fail
          go_roundw
          case rel => exact ⟨k + 1, by omega, by go_num, ⟨sameToX_next L M k c d hC.out.1 hC.out.2 hH.out.1 hs, hP.out⟩⟩
          case measure => simp [intOf]; omega
      · have hkl : k = L.length := by omega
        subst hkl
        go_wp2_with fail
        go_ret
        refine ⟨ret_bool ?_, hH.out.2⟩
        simp [chgsSame, hE.out.symm, hH.out.1]
  · go_enter Try.func45, Try.ntmps45
    go_wp2_with fail
    all_goals
      first
        | (exfalso; omega)
        | (go_ret
           refine ⟨ret_bool ?_, Below.refl _ _⟩
           simp [chgsSame, hlen])

end Go.Proofs.Yteckjdoiimifaaa
