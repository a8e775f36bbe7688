/- The contract of spec.l8At, over the seat's translation. -/
import Derived.Test.YtobblnlefhkanaaIxS2
import Derived.Test.YtobblnlefhkanaaIxB2
namespace Go.Proofs.Ytobblnlefhkanaa
open Go.RowKit

set_option maxHeartbeats 1000000 in
theorem eql_entry (c d : AEnt) (w : World) :
    (binOp .eql 38 (.agg #[.int .i64 c.k, .int .i64 c.n, .string c.s, .int .i64 c.id]) (.agg #[.int .i64 d.k, .int .i64 d.n, .string d.s, .int .i64 d.id])).run Try.prog w = .ok (.bool (eqE c d)) w := by
  unfold eqE eqV
  go_simp
  by_cases a : c.k = d.k <;> by_cases b : c.n = d.n <;> by_cases e : c.s.toList = d.s.toList <;> by_cases f : c.id = d.id <;> simp [a, b, e, f]

/-- Where x stands first, or -1. -/
def AtE (L : List AEnt) (x : AEnt) (z : Int) : Prop := (z = -1 ∧ ∀ (i : Nat) (c : AEnt), L[i]? = some c → eqE c x = false) ∨ ∃ k : Nat, z = k ∧ L[k]? = some x

set_option maxRecDepth 100000 in
set_option maxHeartbeats 2000000 in
theorem spec_at (a : Option Addr) (cap : Nat) (L : List AEnt) (x : AEnt) (w : World) (hL : EntsAt w a L) (hm : L.length ≤ maxLen) :
    Calls Try.prog 37 #[.slice a L.length cap, .agg #[.int .i64 x.k, .int .i64 x.n, .string x.s, .int .i64 x.id]] w fun e w' => ∃ z, e = .returned (.int .i64 z) ∧ AtE L x z ∧ Below w.heap.size w w' := by
  have hm' := hm
  unfold maxLen at hm'
  have bA : Hid (Below w.heap.size w (w.alloc (.cells #[.int .i64 x.k, .int .i64 x.n, .string x.s, .int .i64 x.id] 38))) := (Below.refl _ _).alloc (Nat.le_refl _) _
  have nB : Hid (Box w.heap.size [.int .i64 x.k, .int .i64 x.n, .string x.s, .int .i64 x.id] (w.alloc (.cells #[.int .i64 x.k, .int .i64 x.n, .string x.s, .int .i64 x.id] 38))) := Box.start _ _ _
  go_enter Try.func37, Try.ntmps37
  go_wp2_with fail
  go_loopw [5] (fun i wr => ∃ k : Nat, k ≤ L.length ∧ i = .int .i64 k ∧ Hid ((∀ i c, i < k → L[i]? = some c → eqE c x = false) ∧ Box w.heap.size [.int .i64 x.k, .int .i64 x.n, .string x.s, .int .i64 x.id] wr ∧ Below w.heap.size w wr)) (fun i _ => L.length - (intOf i).toNat)
  case atStart => exact ⟨0, Nat.zero_le _, rfl, ⟨fun i c hi => absurd hi (Nat.not_lt_zero _), nB.out, bA.out⟩⟩
  case round =>
    obtain ⟨k, hk, rfl, hH⟩ := hrel
    clear bA nB
    by_cases hlt : k < L.length
    · obtain ⟨b, o, hab, hbl, hr⟩ := (hL.keep hH.out.2.2).at hlt
      have hc := List.getElem?_eq_getElem hlt
      revert hr hc
      generalize L[k] = c
      intro hr hc
      have hix : ∀ wx, (Instr.indexAt 25 (.slice a L.length cap) (.int .i64 k)).run Try.prog wx = .ok (.pointer (some ⟨b, o + k * 4, none⟩)) wx := fun wx => by
        rw [hab]; exact run_ix4 _ _ _ _ _ _ _ wx hlt Try.underlying25 (Try.sizeOf38 wx)
      have hT1 := cells4_of hr
      have hT2 := hH.out.2.1.four
      have hq := eql_entry c x
      have hC : Hid (L[k]? = some c) := hc
      clear hab hr hL hbl hc
      cases hs : eqE c x
      · have hE : Hid (eqE c x = false) := hs
        go_wp2_with fail
        go_quiet (fail)
        have hP : Hid (Box w.heap.size [.int .i64 x.k, .int .i64 x.n, .string x.s, .int .i64 x.id] (wr.drewN nq) ∧ Below w.heap.size w (wr.drewN nq)) := ⟨hH.out.2.1.next (quiet_below _ _ _), hH.out.2.2.trans (quiet_below _ _ _)⟩
        clear hT1 hT2 hq
        go_wp2_with fail
        go_roundw
        case rel =>
          refine ⟨k + 1, by omega, by go_num, ⟨fun i d hi hd => ?_, hP.out.1, hP.out.2⟩⟩
          by_cases hik : i = k
          · subst hik
            rw [hC.out] at hd; cases hd
            exact hE.out
          · exact hH.out.1 i d (by omega) hd
        case measure => simp [intOf]; omega
      · have hE : Hid (eqE c x = true) := hs
        go_wp2_with fail
        go_quiet (fail)
        have hP : Hid (Below w.heap.size w (wr.drewN nq)) := hH.out.2.2.trans (quiet_below _ _ _)
        clear hT1 hT2 hq
        go_wp2_with fail
        go_ret
        exact ⟨_, rfl, Or.inr ⟨k, rfl, by rw [hC.out, eqE_ext hE.out]⟩, hP.out⟩
    · have hkl : k = L.length := by omega
      subst hkl
      go_wp2_with fail
      go_ret
      exact ⟨_, rfl, Or.inl ⟨rfl, fun i c hc => hH.out.1 i c (List.getElem?_eq_some_iff.1 hc).1 hc⟩, hH.out.2.2⟩

end Go.Proofs.Ytobblnlefhkanaa
