/- Contracts of laws.eqVal, laws.eqCol and laws.eqColS at two that are one, over the seat's translation. -/
import Derived.Test.YtogjdidmmhghhaaShA
namespace Go.Proofs.Ytogjdidmmhghhaa
open Go.RowKit

theorem eq_val (k n : Int) (s : ByteArray) (w : World) :
    Calls Try.prog 24 #[.agg #[.int .i64 k, .int .i64 n, .string s], .agg #[.int .i64 k, .int .i64 n, .string s]] w fun e w' => e = .returned (.bool true) ∧ Below w.heap.size w w' := by
  go_enter Try.func24, Try.ntmps24
  go_wp2
  go_ret
  exact ⟨rfl, ((Below.refl _ _).alloc (Nat.le_refl _) _).alloc (by simp) _⟩

set_option maxHeartbeats 1000000 in
theorem eq_col (nm : ByteArray) (kd : Int) (nd oc : Bool) (k n : Int) (s : ByteArray) (w : World) :
    Calls Try.prog 18 #[.agg #[.string nm, .int .i64 kd, .bool nd, .bool oc, .int .i64 k, .int .i64 n, .string s], .agg #[.string nm, .int .i64 kd, .bool nd, .bool oc, .int .i64 k, .int .i64 n, .string s]] w fun e w' => e = .returned (.bool true) ∧ Below w.heap.size w w' := by
  go_enter Try.func18, Try.ntmps18
  go_wp2_with fail
  refine (eq_val _ _ _ _).mono ?_
  rintro e w' ⟨rfl, hq⟩
  have hP : Hid (Below w.heap.size w w') := (((Below.refl w.heap.size w).alloc (Nat.le_refl _) _).alloc (by simp) _).trans (hq.mono (by simp; omega))
  clear hq
  go_wp2_with fail
  go_ret
  exact ⟨rfl, hP.out⟩

/-- A column lies at two places in W, and W lies over w. -/
abbrev TwoCols (w : World) (b1 o1 b2 o2 : Nat) (c d : ACol) (W : World) : Prop := Cells7 W b1 o1 c ∧ Cells7 W b2 o2 d ∧ b1 < W.heap.size ∧ b2 < W.heap.size ∧ Below w.heap.size w W
theorem two7_next {w : World} {b1 o1 b2 o2 : Nat} {c d : ACol} {W W' : World} (h : TwoCols w b1 o1 b2 o2 c d W) (hb : Below W.heap.size W W') : TwoCols w b1 o1 b2 o2 c d W' := by
  obtain ⟨h1, h2, h3, h4, h5⟩ := h
  have hz := hb.size
  exact ⟨cells7_next h1 h3 hb, cells7_next h2 h4 hb, by omega, by omega, h5.trans (hb.mono h5.size)⟩
theorem two7_drew {w : World} {b1 o1 b2 o2 : Nat} {c d : ACol} {W : World} (h : TwoCols w b1 o1 b2 o2 c d W) : TwoCols w b1 o1 b2 o2 c d W.drew := two7_next h (Below.refl _ _).drew

set_option maxHeartbeats 1000000 in
theorem eq_cols (a b : Option Addr) (cap cap' : Nat) (L : List ACol) (w : World) (ha : ColsAt w a L) (hb : ColsAt w b L) (hm : L.length ≤ maxLen) :
    Calls Try.prog 9 #[.slice a L.length cap, .slice b L.length cap'] w fun e w' => e = .returned (.bool true) ∧ Below w.heap.size w w' := by
  unfold maxLen at hm
  go_enter Try.func9, Try.ntmps9
  go_wp2_with fail
  go_loopw [5] (fun i wr => ∃ k : Nat, k ≤ L.length ∧ i = .int .i64 k ∧ Hid (Below w.heap.size w wr)) (fun i _ => L.length - (intOf i).toNat)
  case atStart => exact ⟨0, Nat.zero_le _, rfl, Below.refl _ _⟩
  case round =>
    obtain ⟨k, hk, rfl, hH⟩ := hrel
    by_cases hlt : k < L.length
    · obtain ⟨b1, o1, hab1, hbl1, hr1⟩ := (ha.keep hH.out).at hlt
      obtain ⟨b2, o2, hab2, hbl2, hr2⟩ := (hb.keep hH.out).at hlt
      revert hr1 hr2
      generalize L[k] = c
      intro hr1 hr2
      have hix : ∀ wx, (Instr.indexAt 25 (.slice a L.length cap) (.int .i64 k)).run Try.prog wx = .ok (.pointer (some ⟨b1, o1 + k * 7, none⟩)) wx := fun wx => by
        rw [hab1]; exact run_ix _ _ _ _ _ _ _ wx hlt Try.underlying25 (Try.sizeOf38 wx)
      have hiy : ∀ wx, (Instr.indexAt 25 (.slice b L.length cap') (.int .i64 k)).run Try.prog wx = .ok (.pointer (some ⟨b2, o2 + k * 7, none⟩)) wx := fun wx => by
        rw [hab2]; exact run_ix _ _ _ _ _ _ _ wx hlt Try.underlying25 (Try.sizeOf38 wx)
      have hT : TwoCols w b1 (o1 + k * 7) b2 (o2 + k * 7) c c wr := ⟨cells7_of hr1, cells7_of hr2, hbl1, hbl2, hH.out⟩
      clear hab1 hab2 hr1 hr2 ha hb hH hbl1 hbl2
      go_wp2_with fail
      go_region_held3 (fun W => TwoCols w b1 (o1 + k * 7) b2 (o2 + k * 7) c c W) (first | assumption | exact two7_drew (by assumption))
        (first
          | (go_at_call 18; refine (eq_col _ _ _ _ _ _ _ _).mono ?_; rintro e w' ⟨rfl, hq⟩; have hN := two7_next (by assumption) hq; clear hq))
      have hE := ‹TwoCols w b1 (o1 + k * 7) b2 (o2 + k * 7) c c _›
      have hP := hE.2.2.2.2
      clear hE
      go_wp2_with fail
      go_roundw
      case rel => exact ⟨k + 1, by omega, by go_num, hP⟩
      case measure => simp [intOf]; omega
    · have hkl : k = L.length := by omega
      subst hkl
      go_wp2_with fail
      go_ret
      exact ⟨rfl, hH.out⟩

end Go.Proofs.Ytogjdidmmhghhaa
