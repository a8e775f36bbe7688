/- Contract of spec.ValOk, and a box that holds a value, over the seat's translation. -/
import Derived.Test.YtddcmibggdighaaA2
import Derived.Laws.StructEq
namespace Go.Proofs.Ytddcmibggdighaa
open Go.RowKit

def valOk (k n : Int) (s : ByteArray) : Bool :=
  if k = 0 then n == 0 && s.toList == [] else if k = 1 then s.toList == [] && numOk n else if k = 2 then n == 0 && textOk s else false

set_option maxHeartbeats 400000 in
theorem spec_ok (k n : Int) (s : ByteArray) (w : World) (hs : s.size ≤ maxLen) :
    Calls Try.prog 16 #[.agg #[.int .i64 k, .int .i64 n, .string s]] w fun e w' => e = .returned (.bool (valOk k n s)) ∧ Below w.heap.size w w' := by
  go_enter Try.func16, Try.ntmps16
  go_wp2_with (first
    | (go_at_call 31; refine (l1_num _ _).mono ?_; rintro e w' ⟨rfl, rfl⟩)
    | (go_at_call 32; refine (l1_text _ _ hs).mono ?_; rintro e w' ⟨rfl, rfl⟩))
  all_goals
    go_ret
    refine ⟨?_, (Below.refl _ _).alloc (Nat.le_refl _) _⟩
    simp_all [valOk]

theorem bcell {W w1 : World} (hb : Below W.heap.size W w1) : (∀ b o, b < W.heap.size → w1.cell? ⟨b, o, none⟩ = W.cell? ⟨b, o, none⟩) ∧ (∀ b o, b < W.heap.size → w1.frozen? ⟨b, o, none⟩ = W.frozen? ⟨b, o, none⟩) :=
  ⟨fun b o h => hb.cell (p := ⟨b, o, none⟩) h, fun b o h => hb.frozen (p := ⟨b, o, none⟩) h⟩

/-- The box at B holds the value in W, and W lies over w. -/
abbrev Held1 (w : World) (B : Nat) (k n : Int) (s : ByteArray) (W : World) : Prop :=
  W.cell? ⟨B, 0, none⟩ = some (.int .i64 k) ∧ W.cell? ⟨B, 1, none⟩ = some (.int .i64 n) ∧ W.cell? ⟨B, 2, none⟩ = some (.string s) ∧ B + 1 ≤ W.heap.size ∧ Below B w W

theorem held_next {w : World} {B : Nat} {k n : Int} {s : ByteArray} {W W' : World} (h : Held1 w B k n s W) (hb : Below W.heap.size W W') : Held1 w B k n s W' := by
  obtain ⟨a, b, c, g, i⟩ := h
  have hc := (bcell hb).1
  have hz := hb.size
  exact ⟨by rw [hc _ _ (by omega)]; exact a, by rw [hc _ _ (by omega)]; exact b, by rw [hc _ _ (by omega)]; exact c, by omega, i.trans (hb.mono (by omega))⟩
theorem held_drew {w : World} {B : Nat} {k n : Int} {s : ByteArray} {W : World} (h : Held1 w B k n s W) : Held1 w B k n s W.drew :=
  held_next h (Below.refl _ _).drew
theorem held_box (w : World) (k n : Int) (s : ByteArray) (t : TypeId) : Held1 w w.heap.size k n s (w.alloc (.cells #[.int .i64 k, .int .i64 n, .string s] t)) := by
  refine ⟨?_, ?_, ?_, ?_, ?_⟩
  · go_simp
  · go_simp
  · go_simp
  · simp
  · exact (Below.refl _ _).alloc (Nat.le_refl _) _

end Go.Proofs.Ytddcmibggdighaa
