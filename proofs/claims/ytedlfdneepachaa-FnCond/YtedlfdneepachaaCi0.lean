/- The contract of spec.l7Cond, over the seat's translation. -/
import Derived.Test.YtedlfdneepachaaDrV2
import Derived.Test.YtedlfdneepachaaDrC3
import Derived.Test.YtedlfdneepachaaCo4
namespace Go.Proofs.Ytedlfdneepachaa
open Go.RowKit

/-- The box at B holds a condition in W, and may be written. -/
abbrev OwnC (B : Nat) (nm : ByteArray) (how k n : Int) (s : ByteArray) (W : World) : Prop :=
  W.cell? ⟨B, 0, none⟩ = some (.string nm) ∧ W.cell? ⟨B, 1, none⟩ = some (.int .i64 how) ∧ W.cell? ⟨B, 2, none⟩ = some (.int .i64 k) ∧ W.cell? ⟨B, 3, none⟩ = some (.int .i64 n) ∧ W.cell? ⟨B, 4, none⟩ = some (.string s) ∧
    W.frozen? ⟨B, 0, none⟩ = false ∧ W.frozen? ⟨B, 1, none⟩ = false ∧ W.frozen? ⟨B, 2, none⟩ = false ∧ W.frozen? ⟨B, 3, none⟩ = false ∧ W.frozen? ⟨B, 4, none⟩ = false
theorem ownc_upd {g B : Nat} {nm : ByteArray} {how k n : Int} {s : ByteArray} {W W' : World} (h : OwnC B nm how k n s W) (hB : B < W.heap.size) (hu : Upd g W W') (hne : B ≠ g) : OwnC B nm how k n s W' := by
  have hc := fun o => (ucell hu).1 B o hB hne
  have hf := fun o => (ucell hu).2 B o hB hne
  unfold OwnC
  simp only [hc, hf]
  exact h
theorem ownc_box (w : World) (nm : ByteArray) (how k n : Int) (s : ByteArray) (t : TypeId) :
    OwnC w.heap.size nm how k n s (w.alloc (.cells #[.string nm, .int .i64 how, .int .i64 k, .int .i64 n, .string s] t)) := by
  refine ⟨?_, ?_, ?_, ?_, ?_, ?_, ?_, ?_, ?_, ?_⟩
  all_goals go_simp

/-- Where spec.l7Cond stands: the reader at g, q places on, the columns at b, what it gives in a box of its own at b5. -/
structure SC (B g b5 q b o : Nat) (w : World) (L : List ACol) (nm : ByteArray) (how k n : Int) (s : ByteArray) (W : World) : Prop where
  rd : Rd B g q W
  up : Upd g w W
  res : OwnC w.heap.size ⟨#[]⟩ 0 0 0 ⟨#[]⟩ W
  box : OwnC b5 nm how k n s W
  cols : ColsAt W (some ⟨b, o, none⟩) L
  lt : w.heap.size < b5
  lt2 : b5 < W.heap.size
  gw : g < w.heap.size
  bw : b < w.heap.size
  bg : b ≠ g
  Bg : B ≤ g
  nms : nm.size ≤ 5
  ss : s.size ≤ 5
theorem SC.upd {B g b5 q b o : Nat} {w : World} {L : List ACol} {nm : ByteArray} {how k n : Int} {s : ByteArray} {q' : Nat} {W W' : World} (h : SC B g b5 q b o w L nm how k n s W) (hr : Rd B g q' W') (hu : Upd g W W') : SC B g b5 q' b o w L nm how k n s W' := by
  have := h.lt
  have := h.lt2
  have := h.gw
  have := hu.size
  exact ⟨hr, h.up.trans hu, ownc_upd h.res (by omega) hu (by omega), ownc_upd h.box (by omega) hu (by omega), h.cols.upd hu h.bg, h.lt, by omega, h.gw, h.bw, h.bg, h.Bg, h.nms, h.ss⟩
theorem SC.keep {B g b5 q b o : Nat} {w : World} {L : List ACol} {nm : ByteArray} {how k n : Int} {s : ByteArray} {W W' : World} (h : SC B g b5 q b o w L nm how k n s W) (hb : Below W.heap.size W W') : SC B g b5 q b o w L nm how k n s W' := h.upd (h.rd.keep hb) (Upd.ofBelow hb)
/-- A block that came behind w turns: only the box is to be shown anew. -/
theorem SC.wrote {B g b5 q b o : Nat} {w : World} {L : List ACol} {nm : ByteArray} {how k n : Int} {s : ByteArray} {nm' : ByteArray} {how' k' n' : Int} {s' : ByteArray} {W W' : World} (h : SC B g b5 q b o w L nm how k n s W) (hu : Upd b5 W W') (hx : OwnC b5 nm' how' k' n' s' W') (h1 : nm'.size ≤ 5) (h2 : s'.size ≤ 5) : SC B g b5 q b o w L nm' how' k' n' s' W' := by
  have l1 := h.lt
  have l2 := h.lt2
  have l3 := h.gw
  have l4 := h.bw
  have l5 := h.Bg
  have := hu.size
  exact ⟨h.rd.other hu (by omega) (by omega), h.up.other hu (by omega), ownc_upd h.res (by omega) hu (by omega), hx, h.cols.upd hu (by omega), h.lt, by omega, h.gw, h.bw, h.bg, h.Bg, h1, h2⟩
theorem SC.name {B g b5 q b o : Nat} {w : World} {L : List ACol} {nm : ByteArray} {how k n : Int} {s : ByteArray} {W : World} (h : SC B g b5 q b o w L nm how k n s W) (nm' : ByteArray) (h1 : nm'.size ≤ 5) : SC B g b5 q b o w L nm' how k n s (W.setCell ⟨b5, 0, none⟩ (.string nm')) := by
  refine h.wrote (Upd.set _ _ _) ?_ h1 h.ss
  obtain ⟨a0, a1, a2, a3, a4, f0, f1, f2, f3, f4⟩ := h.box
  have hl := h.lt2
  refine ⟨?_, ?_, ?_, ?_, ?_, ?_, ?_, ?_, ?_, ?_⟩
  all_goals go_simp
theorem SC.how {B g b5 q b o : Nat} {w : World} {L : List ACol} {nm : ByteArray} {how k n : Int} {s : ByteArray} {W : World} (h : SC B g b5 q b o w L nm how k n s W) (x : Int) : SC B g b5 q b o w L nm x k n s (W.setCell ⟨b5, 1, none⟩ (.int .i64 x)) := by
  refine h.wrote (Upd.set _ _ _) ?_ h.nms h.ss
  obtain ⟨a0, a1, a2, a3, a4, f0, f1, f2, f3, f4⟩ := h.box
  have hl := h.lt2
  refine ⟨?_, ?_, ?_, ?_, ?_, ?_, ?_, ?_, ?_, ?_⟩
  all_goals go_simp
theorem SC.val {B g b5 q b o : Nat} {w : World} {L : List ACol} {nm : ByteArray} {how k n : Int} {s : ByteArray} {W : World} (h : SC B g b5 q b o w L nm how k n s W) (x y : Int) (z : ByteArray) (hz : z.size ≤ 5) : SC B g b5 q b o w L nm how x y z (((W.setCell ⟨b5, 2, none⟩ (.int .i64 x)).setCell ⟨b5, 3, none⟩ (.int .i64 y)).setCell ⟨b5, 4, none⟩ (.string z)) := by
  refine h.wrote (((Upd.set W 2 _).trans (Upd.set _ 3 _)).trans (Upd.set _ 4 _)) ?_ h.nms hz
  obtain ⟨a0, a1, a2, a3, a4, f0, f1, f2, f3, f4⟩ := h.box
  have hl := h.lt2
  refine ⟨?_, ?_, ?_, ?_, ?_, ?_, ?_, ?_, ?_, ?_⟩
  all_goals go_simp

end Go.Proofs.Ytedlfdneepachaa
