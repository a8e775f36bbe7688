/- The contract of spec.IndexOnce, over the seat's translation. -/
import Derived.Test.YtobblnlefhkanaaIxS2
import Derived.Deep.QuietTactic
namespace Go.Proofs.Ytobblnlefhkanaa
open Go.RowKit

/-- The same value twice, and not nothing. -/
def twice (c d : AEnt) : Bool := !(d.k == 0) && eqV d c
def onceB (L : List AEnt) : Bool := (List.range L.length).all fun i => match L[i]?, L[i + 1]? with | some c, some d => !(twice c d) | _, _ => true
theorem once_bad {L : List AEnt} {k : Nat} {c d : AEnt} (hc : L[k]? = some c) (hd : L[k + 1]? = some d) (h : twice c d = true) : onceB L = false := by
  unfold onceB
  rw [List.all_eq_false]
  exact ⟨k, List.mem_range.2 (List.getElem?_eq_some_iff.1 hc).1, by simp [hc, hd, h]⟩
theorem once_ok {L : List AEnt} (h : ∀ i c d, i + 1 < L.length → L[i]? = some c → L[i + 1]? = some d → twice c d = false) : onceB L = true := by
  unfold onceB
  rw [List.all_eq_true]
  intro i hi
  have hi := List.mem_range.1 hi
  rw [List.getElem?_eq_getElem hi]
  cases hd : L[i + 1]? with
  | none => rfl
  | some d => simp [h i _ d (List.getElem?_eq_some_iff.1 hd).1 (List.getElem?_eq_getElem hi) hd]
def onceOk (L : List AEnt) : Bool := indexOk L && onceB L

set_option maxHeartbeats 1000000 in
theorem eql_val (c d : AEnt) (w : World) :
    (binOp .eql 36 (.agg #[.int .i64 c.k, .int .i64 c.n, .string c.s]) (.agg #[.int .i64 d.k, .int .i64 d.n, .string d.s])).run Try.prog w = .ok (.bool (eqV c d)) w := by
  unfold eqV
  go_simp
  by_cases a : c.k = d.k <;> by_cases b : c.n = d.n <;> by_cases e : c.s.toList = d.s.toList <;> simp [a, b, e]

set_option maxRecDepth 100000 in
set_option maxHeartbeats 2000000 in
theorem spec_once (a : Option Addr) (cap : Nat) (L : List AEnt) (w : World) (hL : EntsAt w a L) (hf : ∀ c ∈ L, c.fit) (hm : L.length ≤ maxLen) :
    Calls Try.prog 14 #[.slice a L.length cap] w fun e w' => e = .returned (.bool (onceOk L)) ∧ Below w.heap.size w w' := by
  have hm' := hm
  unfold maxLen at hm'
  go_enter Try.func14, Try.ntmps14
  go_wp2_with fail
  go_loopw [3] (fun i wr => ∃ k : Nat, k ≤ L.length ∧ i = .int .i64 ((k : Int) + 1) ∧ Hid ((∀ i c d, i < k → L[i]? = some c → L[i + 1]? = some d → twice c d = false) ∧ Below w.heap.size w wr)) (fun i _ => L.length - (intOf i).toNat)
  case atStart => exact ⟨0, Nat.zero_le _, rfl, ⟨fun i c d hi => absurd hi (Nat.not_lt_zero _), Below.refl _ _⟩⟩
  case round =>
    obtain ⟨k, hk, rfl, hH⟩ := hrel
    by_cases hlt : k + 1 < L.length
    · have hlj : k < L.length := by omega
      obtain ⟨b, o, hab, hbl, hr⟩ := (hL.keep hH.out.2).at hlt
      obtain ⟨b', o', hab', -, hr'⟩ := (hL.keep hH.out.2).at hlj
      rw [hab] at hab'
      simp only [Option.some.injEq, Addr.mk.injEq] at hab'
      obtain ⟨rfl, rfl, _⟩ := hab'
      have hc1 := List.getElem?_eq_getElem hlj
      have hc2 := List.getElem?_eq_getElem hlt
      revert hr hr' hc1 hc2
      generalize L[k] = c
      generalize L[k + 1] = d
      intro hr hr' hc1 hc2
      have hix : ∀ wx, (Instr.indexAt 25 (.slice a L.length cap) (.int .i64 k)).run Try.prog wx = .ok (.pointer (some ⟨b, o + k * 4, none⟩)) wx := fun wx => by
        rw [hab]; exact run_ix4 _ _ _ _ _ _ _ wx hlj Try.underlying25 (Try.sizeOf38 wx)
      obtain ⟨q, hq⟩ : ∃ q, q = (k + 1) * 4 := ⟨_, rfl⟩
      have hiy : ∀ wx, (Instr.indexAt 25 (.slice a L.length cap) (.int .i64 ((k : Int) + 1))).run Try.prog wx = .ok (.pointer (some ⟨b, o + q, none⟩)) wx := fun wx => by
        rw [hab, hq]; exact run_ix4 _ _ _ _ _ (k + 1) _ wx hlt Try.underlying25 (Try.sizeOf38 wx)
      rw [← hq] at hr
      have hT1 := cells4_of hr'
      have hT2 := cells4_of hr
      have hC : Hid (L[k]? = some c ∧ L[k + 1]? = some d) := ⟨hc1, hc2⟩
      have hlti : (k : Int) + 1 < L.length := by omega
      have hwk : IntKind.i64.wrap (k : Int) = (k : Int) := by
        simp [IntKind.wrap, IntKind.bits, IntKind.signed]
        omega
      have hqe := eql_val d c
      clear hab hr hr' hL hbl hc1 hc2 hq
      have hkd : ((d.k == 0) = true ∧ (d.k != 0) = false) ∨ ((d.k == 0) = false ∧ (d.k != 0) = true) := by by_cases h : d.k = 0 <;> simp [h]
      rcases hkd with ⟨hk0, hk1⟩ | ⟨hk0, hk1⟩
      · have HT : Hid (twice c d = false) := by show twice c d = false; simp [twice, hk0]
        go_wp2_with fail
        go_quiet (fail)
        have hP : Hid (Below w.heap.size w (wr.drewN nq)) := hH.out.2.trans (quiet_below _ _ _)
        go_wp2_with fail
        go_roundw
        case rel =>
          refine ⟨k + 1, by omega, by go_num, ⟨fun i x y hi hx hy => ?_, hP.out⟩⟩
          by_cases hik : i = k
          · subst hik
            rw [hC.out.1] at hx
            rw [hC.out.2] at hy
            cases hx; cases hy
            exact HT.out
          · exact hH.out.1 i x y (by omega) hx hy
        case measure => simp [intOf]; omega
      · cases hv : eqV d c
        · have HT : Hid (twice c d = false) := by show twice c d = false; simp [twice, hv]
          go_wp2_with fail
          go_quiet (fail)
          have hP : Hid (Below w.heap.size w (wr.drewN nq)) := hH.out.2.trans (quiet_below _ _ _)
          go_wp2_with fail
          go_roundw
          case rel =>
            refine ⟨k + 1, by omega, by go_num, ⟨fun i x y hi hx hy => ?_, hP.out⟩⟩
            by_cases hik : i = k
            · subst hik
              rw [hC.out.1] at hx
              rw [hC.out.2] at hy
              cases hx; cases hy
              exact HT.out
            · exact hH.out.1 i x y (by omega) hx hy
          case measure => simp [intOf]; omega
        · have HT : Hid (twice c d = true) := by show twice c d = true; simp [twice, hv, hk0]
          go_wp2_with fail
          go_quiet (fail)
          have hP : Hid (Below w.heap.size w (wr.drewN nq)) := hH.out.2.trans (quiet_below _ _ _)
          go_wp2_with fail
          go_ret
          exact ⟨ret_bool (by rw [onceOk, once_bad hC.out.1 hC.out.2 HT.out, Bool.and_false]), hP.out⟩
    · have hlti : ¬ (k : Int) + 1 < L.length := by omega
      have hO : Hid (onceB L = true) := once_ok fun i x y hi hx hy => hH.out.1 i x y (by omega) hx hy
      have hL2 := hL.keep hH.out.2
      go_wp2_with fail
      refine (spec_index _ _ _ _ hL2 hf hm).mono ?_
      rintro e w1 ⟨rfl, hb⟩
      have hP : Hid (Below w.heap.size w w1) := hH.out.2.trans (hb.mono hH.out.2.size)
      clear hb hL2
      go_wp2_with fail
      go_ret
      exact ⟨ret_bool (by rw [onceOk, hO.out, Bool.and_true]), hP.out⟩

end Go.Proofs.Ytobblnlefhkanaa
