/- Rows held against each other: spec.l3Same, impl.rowSame and slices.EqualFunc, over the seat's translation. -/
import Derived.Test.YteckjdoiimifaaaTsN1
namespace Go.Proofs.Yteckjdoiimifaaa
open Go.RowKit

def eqR (r q : ARow) : Bool := r.id == q.id && (r.ver == q.ver && valsSame r.vals q.vals)

/-- Two boxes of rows lie in W, and W lies over w. -/
abbrev BoxRR (w : World) (p q : Nat) (x0 y0 z0 x1 y1 z1 : Value) (W : World) : Prop := OwnR p x0 y0 z0 W ∧ OwnR q x1 y1 z1 W ∧ p < W.heap.size ∧ q < W.heap.size ∧ Below w.heap.size w W

set_option maxRecDepth 100000 in
set_option maxHeartbeats 1000000 in
theorem spec_row_same (r q : ARow) (a b : Option Addr) (cap cap' : Nat) (w : World) (ha : ValsAt w a r.vals) (hb : ValsAt w b q.vals) (hm : r.vals.length ≤ maxLen) (hm2 : q.vals.length ≤ maxLen) :
    Calls Try.prog 41 #[.agg #[.int .i64 r.id, .int .i64 r.ver, .slice a r.vals.length cap], .agg #[.int .i64 q.id, .int .i64 q.ver, .slice b q.vals.length cap']] w fun e w' => e = .returned (.bool (eqR r q)) ∧ Below w.heap.size w w' := by
  have H2 : Hid (Below w.heap.size w ((w.alloc (.cells #[.int .i64 r.id, .int .i64 r.ver, .slice a r.vals.length cap] 79)).alloc (.cells #[.int .i64 q.id, .int .i64 q.ver, .slice b q.vals.length cap'] 79))) := ((Below.refl w.heap.size w).alloc (Nat.le_refl _) _).alloc (by simp) _
  by_cases h1 : r.id = q.id
  case neg =>
    have h1' : (r.id == q.id) = false := beq_eq_false_iff_ne.2 h1
    go_enter Try.func41, Try.ntmps41
    go_wp2_with fail
    go_ret
    exact ⟨ret_bool (by simp [eqR, h1']), H2.out⟩
  by_cases h2 : r.ver = q.ver
  case neg =>
    have h1' : (r.id == q.id) = true := beq_iff_eq.2 h1
    have h2' : (r.ver == q.ver) = false := beq_eq_false_iff_ne.2 h2
    clear h1
    go_enter Try.func41, Try.ntmps41
    go_wp2_with fail
    go_ret
    exact ⟨ret_bool (by simp [eqR, h2']), H2.out⟩
  have h1' : (r.id == q.id) = true := beq_iff_eq.2 h1
  have h2' : (r.ver == q.ver) = true := beq_iff_eq.2 h2
  clear h1 h2
  have HE : Hid ((r.id == q.id) = true ∧ (r.ver == q.ver) = true) := ⟨h1', h2'⟩
  go_enter Try.func41, Try.ntmps41
  go_wp2_with fail
  refine (spec_vals _ _ _ _ _ _ _ (ha.keep H2.out) (hb.keep H2.out) hm hm2).mono ?_
  rintro e w' ⟨rfl, hq⟩
  have hP : Hid (Below w.heap.size w w') := H2.out.trans (hq.mono H2.out.size)
  clear hq H2 ha hb
  go_wp2_with fail
  go_ret
  exact ⟨ret_bool (by simp [eqR, HE.out.1, HE.out.2]), hP.out⟩

set_option maxRecDepth 100000 in
set_option maxHeartbeats 1000000 in
theorem impl_row_same (r q : ARow) (a b : Option Addr) (cap cap' : Nat) (w : World) (ha : ValsAt w a r.vals) (hb : ValsAt w b q.vals) (hm : r.vals.length ≤ maxLen) (hm2 : q.vals.length ≤ maxLen) :
    Calls Try.prog 47 #[.agg #[.int .i64 r.id, .int .i64 r.ver, .slice a r.vals.length cap], .agg #[.int .i64 q.id, .int .i64 q.ver, .slice b q.vals.length cap']] w fun e w' => e = .returned (.bool (eqR r q)) ∧ Below w.heap.size w w' := by
  have H2 : Hid (Below w.heap.size w ((w.alloc (.cells #[.int .i64 r.id, .int .i64 r.ver, .slice a r.vals.length cap] 79)).alloc (.cells #[.int .i64 q.id, .int .i64 q.ver, .slice b q.vals.length cap'] 79))) := ((Below.refl w.heap.size w).alloc (Nat.le_refl _) _).alloc (by simp) _
  by_cases h1 : r.id = q.id
  case neg =>
    have h1' : (r.id == q.id) = false := beq_eq_false_iff_ne.2 h1
    go_enter Try.func47, Try.ntmps47
    go_wp2_with fail
    go_ret
    exact ⟨ret_bool (by simp [eqR, h1']), H2.out⟩
  by_cases h2 : r.ver = q.ver
  case neg =>
    have h1' : (r.id == q.id) = true := beq_iff_eq.2 h1
    have h2' : (r.ver == q.ver) = false := beq_eq_false_iff_ne.2 h2
    clear h1
    go_enter Try.func47, Try.ntmps47
    go_wp2_with fail
    go_ret
    exact ⟨ret_bool (by simp [eqR, h2']), H2.out⟩
  have h1' : (r.id == q.id) = true := beq_iff_eq.2 h1
  have h2' : (r.ver == q.ver) = true := beq_iff_eq.2 h2
  clear h1 h2
  have HE : Hid ((r.id == q.id) = true ∧ (r.ver == q.ver) = true) := ⟨h1', h2'⟩
  go_enter Try.func47, Try.ntmps47
  go_wp2_with fail
  refine (equal_vals _ _ _ _ _ _ _ (ha.keep H2.out) (hb.keep H2.out) hm hm2).mono ?_
  rintro e w' ⟨rfl, hq⟩
  have hP : Hid (Below w.heap.size w w') := H2.out.trans (hq.mono H2.out.size)
  clear hq H2 ha hb
  go_wp2_with fail
  go_ret
  exact ⟨ret_bool (by simp [eqR, HE.out.1, HE.out.2]), hP.out⟩

end Go.Proofs.Yteckjdoiimifaaa
