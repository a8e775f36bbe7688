/- The contract of laws.eqValS at two that are one, over the seat's translation. -/
import Derived.Test.YteckjdoiimifaaaRwA
import Derived.Test.YteckjdoiimifaaaShS7
namespace Go.Proofs.Yteckjdoiimifaaa
open Go.RowKit

/-- A value lies at two places in W, and W lies over w. -/
abbrev TwoVals (w : World) (b1 o1 b2 o2 : Nat) (c d : AVal) (W : World) : Prop := Cells3 W b1 o1 c ∧ Cells3 W b2 o2 d ∧ b1 < W.heap.size ∧ b2 < W.heap.size ∧ Below w.heap.size w W
theorem twov_next {w : World} {b1 o1 b2 o2 : Nat} {c d : AVal} {W W' : World} (h : TwoVals w b1 o1 b2 o2 c d W) (hb : Below W.heap.size W W') : TwoVals w b1 o1 b2 o2 c d W' := by
  obtain ⟨h1, h2, h3, h4, h5⟩ := h
  have hz := hb.size
  exact ⟨cells3_next h1 h3 hb, cells3_next h2 h4 hb, by omega, by omega, h5.trans (hb.mono h5.size)⟩
theorem twov_drew {w : World} {b1 o1 b2 o2 : Nat} {c d : AVal} {W : World} (h : TwoVals w b1 o1 b2 o2 c d W) : TwoVals w b1 o1 b2 o2 c d W.drew := twov_next h (Below.refl _ _).drew

set_option maxRecDepth 100000 in
set_option maxHeartbeats 1000000 in
theorem eq_vals (a b : Option Addr) (cap cap' : Nat) (L : List AVal) (w : World) (ha : ValsAt w a L) (hb : ValsAt w b L) (hm : L.length ≤ maxLen) :
    Calls Try.prog 85 #[.slice a L.length cap, .slice b L.length cap'] w fun e w' => e = .returned (.bool true) ∧ Below w.heap.size w w' := by
  unfold maxLen at hm
  go_enter Try.func85, Try.ntmps85
  go_wp2_with fail
  go_loopw [5] (fun i wr => ∃ k : Nat, k ≤ L.length ∧ i = .int .i64 k ∧ Hid (Below w.heap.size w wr)) (fun i _ => L.length - (intOf i).toNat)
  case atStart => exact ⟨0, Nat.zero_le _, rfl, Below.refl _ _⟩
  case round =>
    obtain ⟨k, hk, rfl, hH⟩ := hrel
    by_cases hlt : k < L.length
    · obtain ⟨b1, o1, hab1, hbl1, hr1⟩ := (ha.keep hH.out).at hlt
      obtain ⟨b2, o2, hab2, hbl2, hr2⟩ := (hb.keep hH.out).at hlt
      revert hr1 hr2
      generalize L[k] = c
      intro hr1 hr2
      have hix : ∀ wx, (Instr.indexAt 77 (.slice a L.length cap) (.int .i64 k)).run Try.prog wx = .ok (.pointer (some ⟨b1, o1 + k * 3, none⟩)) wx := fun wx => by
        rw [hab1]; exact run_ix3 _ _ _ _ _ _ _ wx hlt Try.underlying77 (Try.sizeOf61 wx)
      have hiy : ∀ wx, (Instr.indexAt 77 (.slice b L.length cap') (.int .i64 k)).run Try.prog wx = .ok (.pointer (some ⟨b2, o2 + k * 3, none⟩)) wx := fun wx => by
        rw [hab2]; exact run_ix3 _ _ _ _ _ _ _ wx hlt Try.underlying77 (Try.sizeOf61 wx)
      have hT : TwoVals w b1 (o1 + k * 3) b2 (o2 + k * 3) c c wr := ⟨cells3_of hr1, cells3_of hr2, hbl1, hbl2, hH.out⟩
      clear hab1 hab2 hr1 hr2 ha hb hH hbl1 hbl2
      go_wp2_with fail
      go_region_held3 (fun W => TwoVals w b1 (o1 + k * 3) b2 (o2 + k * 3) c c W) (first | assumption | exact twov_drew (by assumption))
        (first
          | (go_at_call 65; refine (eq_val _ _ _ _).mono ?_; rintro e w' ⟨rfl, hq⟩; have hN := twov_next (by assumption) hq; clear hq))
      have hE := ‹TwoVals w b1 (o1 + k * 3) b2 (o2 + k * 3) c c _›
      have hP := hE.2.2.2.2
      clear hE
      go_wp2_with fail
      go_roundw
      case rel => exact ⟨k + 1, by omega, by go_num, hP⟩
      case measure => simp [intOf]; omega
    · have hkl : k = L.length := by omega
      subst hkl
      go_wp2_with fail
      go_ret
      exact ⟨rfl, hH.out⟩

end Go.Proofs.Yteckjdoiimifaaa
