/- A change that adds a column: impl.changeOf, over the seat's translation. -/
import Derived.Test.YtddcmibggdighaaNd2
import Derived.Test.YtddcmibggdighaaShS6
import Derived.Laws.StructEq
namespace Go.Proofs.Ytddcmibggdighaa
open Go.RowKit Go.WideMaps Go.Maps

/-- The box at B holds a change that adds c in W. -/
abbrev CH (B : Nat) (c : ACol) (W : World) : Prop :=
  W.cell? ⟨B, 0, none⟩ = some (.int .i64 1) ∧ W.cell? ⟨B, 1, none⟩ = some (.string ⟨#[]⟩) ∧ W.cell? ⟨B, 2, none⟩ = some (.string ⟨#[]⟩) ∧
    W.cell? ⟨B, 3, none⟩ = some (.string c.nm) ∧ W.cell? ⟨B, 4, none⟩ = some (.int .i64 c.kd) ∧ W.cell? ⟨B, 5, none⟩ = some (.bool c.nd) ∧ W.cell? ⟨B, 6, none⟩ = some (.bool c.oc) ∧
    W.cell? ⟨B, 7, none⟩ = some (.int .i64 c.k) ∧ W.cell? ⟨B, 8, none⟩ = some (.int .i64 c.n) ∧ W.cell? ⟨B, 9, none⟩ = some (.string c.s)
theorem ch_box (w : World) (c : ACol) (t : TypeId) : CH w.heap.size c (w.alloc (.cells #[.int .i64 1, .string ⟨#[]⟩, .string ⟨#[]⟩, .string c.nm, .int .i64 c.kd, .bool c.nd, .bool c.oc, .int .i64 c.k, .int .i64 c.n, .string c.s] t)) := by
  refine ⟨?_, ?_, ?_, ?_, ?_, ?_, ?_, ?_, ?_, ?_⟩
  all_goals go_simp
theorem ch_next {B C : Nat} {c : ACol} {W W' : World} (h : CH B c W) (hB : B < C) (hb : Below C W W') : CH B c W' := by
  have hc := fun o => hb.cell (p := ⟨B, o, none⟩) hB
  unfold CH
  simp only [hc]
  exact h

/-- The change in its box, and the columns, lie in W, and W lies over w. -/
abbrev CG (w : World) (B : Nat) (c : ACol) (a : Option Addr) (L : List ACol) (W : World) : Prop := CH B c W ∧ B < W.heap.size ∧ ColsAt W a L ∧ Below w.heap.size w W
theorem cg_next {w : World} {B : Nat} {c : ACol} {a : Option Addr} {L : List ACol} {W W' : World} (h : CG w B c a L W) (hb : Below W.heap.size W W') : CG w B c a L W' :=
  ⟨ch_next h.1 h.2.1 hb, Nat.lt_of_lt_of_le h.2.1 hb.size, h.2.2.1.keep hb, h.2.2.2.trans (hb.mono h.2.2.2.size)⟩
theorem cg_drew {w : World} {B : Nat} {c : ACol} {a : Option Addr} {L : List ACol} {W : World} (h : CG w B c a L W) : CG w B c a L W.drew := cg_next h (Below.refl _ _).drew

theorem zero_of_int (w : World) : (zeroValue 3).run Try.prog w = .ok (.int .i64 0) w := by kernel_rfl

theorem quiet_after (B : Nat) (w : World) (n : Nat) : Below B w (w.drewN n) := by
  induction n with
  | zero => exact Below.refl _ _
  | succ n ih => exact ih.drew

set_option maxRecDepth 100000 in
set_option maxHeartbeats 1000000 in
theorem eql_self (c : ACol) (w : World) :
    (binOp .eql 33 (.agg #[.int .i64 1, .string ⟨#[]⟩, .string ⟨#[]⟩, .string c.nm, .int .i64 c.kd, .bool c.nd, .bool c.oc, .int .i64 c.k, .int .i64 c.n, .string c.s]) (.agg #[.int .i64 1, .string ⟨#[]⟩, .string ⟨#[]⟩, .string c.nm, .int .i64 c.kd, .bool c.nd, .bool c.oc, .int .i64 c.k, .int .i64 c.n, .string c.s])).run Try.prog w = .ok (.bool true) w := by
  go_simp

set_option maxRecDepth 100000 in
set_option maxHeartbeats 4000000 in
theorem change_add (c : ACol) (a : Option Addr) (cap : Nat) (L : List ACol) (w : World) (hL : ColsAt w a L) (hf : ∀ d ∈ L, d.fit) (hl : L.length ≤ 5) :
    Calls Try.prog 33 #[.slice a L.length cap, .agg #[.int .i64 1, .string ⟨#[]⟩, .string ⟨#[]⟩, .string c.nm, .int .i64 c.kd, .bool c.nd, .bool c.oc, .int .i64 c.k, .int .i64 c.n, .string c.s]] w fun e w' => e = .returned (.tuple #[.iface 81 (.agg #[.string c.nm, .int .i64 c.kd, .bool c.nd, .bool c.oc, .int .i64 c.k, .int .i64 c.n, .string c.s]), .bool true]) ∧ Below w.heap.size w w' := by
  have hkey : keyOf Try.prog 9 (.string ⟨#[]⟩) = some (kn ⟨#[]⟩) := keyOf_string_mk Try.underlying9 (Nat.zero_le _)
  have b0 := alloc_below w (.cells #[.int .i64 1, .string ⟨#[]⟩, .string ⟨#[]⟩, .string c.nm, .int .i64 c.kd, .bool c.nd, .bool c.oc, .int .i64 c.k, .int .i64 c.n, .string c.s] 33)
  have HA : Hid (CG w w.heap.size c a L (w.alloc (.cells #[.int .i64 1, .string ⟨#[]⟩, .string ⟨#[]⟩, .string c.nm, .int .i64 c.kd, .bool c.nd, .bool c.oc, .int .i64 c.k, .int .i64 c.n, .string c.s] 33))) := (⟨ch_box _ _ _, by simp, hL.keep b0, b0⟩ : _ ∧ _ ∧ _ ∧ _)
  clear b0 hL
  go_enter Try.func33, Try.ntmps33
  go_wp2_with fail
  generalize w.alloc (.cells #[.int .i64 1, .string ⟨#[]⟩, .string ⟨#[]⟩, .string c.nm, .int .i64 c.kd, .bool c.nd, .bool c.oc, .int .i64 c.k, .int .i64 c.n, .string c.s] 33) = W0 at *
  have hA := HA.out
  clear HA
  go_region_held_law (fun W => CG w w.heap.size c a L W) (first | assumption | exact cg_drew (by assumption))
    (first
      | (go_at_call 28; have hS := ‹CG w w.heap.size c a L _›; refine (places_of a cap L _ hS.2.2.1 hf hl).mono ?_; rintro e w6 ⟨rfl, hown, hq6⟩; have hC6 := cg_next hS hq6; obtain ⟨xv, ps, hrun, hv⟩ := hown.look_ok law Try.underlying67 (zero_of_int _) (plainElem_int Try.underlying3 (WalkArith.wf_i64 (by omega))) hkey; obtain ⟨xi, rfl, _, _⟩ := plainElem_int_inv Try.underlying3 hv; have hlk : (Instr.lookup 67 (.map (some W0.heap.size)) (.string ⟨#[]⟩) true).run Try.prog w6 = .ok (.tuple #[.int .i64 xi, .bool _]) w6 := hrun; clear hS hown hv hrun))
  have hlt : w.heap.size < w6.heap.size := hC6.2.1
  have hB6 : Hid (Below w.heap.size w w6) := hC6.2.2.2
  have hc6 := hC6.1
  have hEq := eql_self c
  have H7 : Hid (CH w.heap.size c (w6.alloc (.cells #[.int .i64 1, .string ⟨#[]⟩, .string ⟨#[]⟩, .string c.nm, .int .i64 c.kd, .bool c.nd, .bool c.oc, .int .i64 c.k, .int .i64 c.n, .string c.s] 33))) := ch_next hC6.1 hC6.2.1 (alloc_below _ _)
  have H8 : Hid (CH w6.heap.size c (w6.alloc (.cells #[.int .i64 1, .string ⟨#[]⟩, .string ⟨#[]⟩, .string c.nm, .int .i64 c.kd, .bool c.nd, .bool c.oc, .int .i64 c.k, .int .i64 c.n, .string c.s] 33))) := ch_box _ _ _
  have hB7 : Hid (Below w.heap.size w (w6.alloc (.cells #[.int .i64 1, .string ⟨#[]⟩, .string ⟨#[]⟩, .string c.nm, .int .i64 c.kd, .bool c.nd, .bool c.oc, .int .i64 c.k, .int .i64 c.n, .string c.s] 33))) := hB6.out.alloc (Nat.le_of_lt hlt) _
  generalize has (mapTo L L.length) (kn ⟨#[]⟩) = hh at *
  clear hlk hC6 hkey hA
  go_wp2_with fail
  generalize w6.alloc (.cells #[.int .i64 1, .string ⟨#[]⟩, .string ⟨#[]⟩, .string c.nm, .int .i64 c.kd, .bool c.nd, .bool c.oc, .int .i64 c.k, .int .i64 c.n, .string c.s] 33) = W7 at *
  generalize w6.heap.size = q6 at *
  have h7 := H7.out
  have h8 := H8.out
  clear hc6 H7 H8 hB6 hlt
  go_quiet (fail)
  have hP : Hid (Below w.heap.size w (W7.drewN nq)) := hB7.out.trans (quiet_after _ _ _)
  clear h7 h8 hEq hB7
  go_wp2_with fail
  go_ret2
  exact ⟨rfl, hP.out⟩

end Go.Proofs.Ytddcmibggdighaa
