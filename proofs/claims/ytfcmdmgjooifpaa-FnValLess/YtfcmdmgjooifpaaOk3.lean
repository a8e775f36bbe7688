/- Contracts of spec.ValOk, impl.valueOf and impl.ValOk, over the seat's translation. -/
import Derived.Test.YtfcmdmgjooifpaaOk2
import Derived.Laws.StructEq
namespace Go.Proofs.Ytfcmdmgjooifpaa
open Go.RowKit

def valOk (k n : Int) (s : ByteArray) : Bool :=
  if k = 0 then n == 0 && s.toList == [] else if k = 1 then s.toList == [] && numOk n else if k = 2 then n == 0 && textOk s else false

set_option maxHeartbeats 400000 in
theorem spec_ok (k n : Int) (s : ByteArray) (w : World) (hs : s.size ≤ maxLen) :
    Calls Try.prog 20 #[.agg #[.int .i64 k, .int .i64 n, .string s]] w fun e w' => e = .returned (.bool (valOk k n s)) ∧ Below w.heap.size w w' := by
  go_enter Try.func20, Try.ntmps20
  go_wp2_with (first
    | (go_at_call 22; refine (l1_num _ _).mono ?_; rintro e w' ⟨rfl, rfl⟩)
    | (go_at_call 29; refine (l1_text _ _ hs).mono ?_; rintro e w' ⟨rfl, rfl⟩))
  all_goals
    go_ret
    refine ⟨?_, (Below.refl _ _).alloc (Nat.le_refl _) _⟩
    simp_all [valOk]

theorem m_num_ok (n : Int) (w : World) : (method 203 61 (.int .i64 n) "loop.example/custumal/impl.ok").run Try.prog w = .ok (56, .int .i64 n) w := by kernel_rfl
theorem m_num_val (n : Int) (w : World) : (method 203 61 (.int .i64 n) "loop.example/custumal/impl.val").run Try.prog w = .ok (58, .int .i64 n) w := by kernel_rfl
theorem m_text_ok (s : ByteArray) (w : World) : (method 203 62 (.string s) "loop.example/custumal/impl.ok").run Try.prog w = .ok (76, .string s) w := by kernel_rfl
theorem m_text_val (s : ByteArray) (w : World) : (method 203 62 (.string s) "loop.example/custumal/impl.val").run Try.prog w = .ok (59, .string s) w := by kernel_rfl
theorem m_none_ok (w : World) : (method 203 60 (.agg #[]) "loop.example/custumal/impl.ok").run Try.prog w = .ok (51, .agg #[]) w := by kernel_rfl
theorem m_none_val (w : World) : (method 203 60 (.agg #[]) "loop.example/custumal/impl.val").run Try.prog w = .ok (53, .agg #[]) w := by kernel_rfl

theorem bcell {W w1 : World} (hb : Below W.heap.size W w1) : (∀ b o, b < W.heap.size → w1.cell? ⟨b, o, none⟩ = W.cell? ⟨b, o, none⟩) ∧ (∀ b o, b < W.heap.size → w1.frozen? ⟨b, o, none⟩ = W.frozen? ⟨b, o, none⟩) :=
  ⟨fun b o h => hb.cell (p := ⟨b, o, none⟩) h, fun b o h => hb.frozen (p := ⟨b, o, none⟩) h⟩

/-- The box at B holds the value in W, and W lies over w. -/
abbrev Held1 (w : World) (B : Nat) (k n : Int) (s : ByteArray) (W : World) : Prop :=
  W.cell? ⟨B, 0, none⟩ = some (.int .i64 k) ∧ W.cell? ⟨B, 1, none⟩ = some (.int .i64 n) ∧ W.cell? ⟨B, 2, none⟩ = some (.string s) ∧ B + 1 ≤ W.heap.size ∧ Below B w W

theorem held_next {w : World} {B : Nat} {k n : Int} {s : ByteArray} {W W' : World} (h : Held1 w B k n s W) (hb : Below W.heap.size W W') : Held1 w B k n s W' := by
  obtain ⟨a, b, c, g, i⟩ := h
  have hc := (bcell hb).1
  have hz := hb.size
  exact ⟨by rw [hc _ _ (by omega)]; exact a, by rw [hc _ _ (by omega)]; exact b, by rw [hc _ _ (by omega)]; exact c, by omega, i.trans (hb.mono (by omega))⟩
theorem held_drew {w : World} {B : Nat} {k n : Int} {s : ByteArray} {W : World} (h : Held1 w B k n s W) : Held1 w B k n s W.drew :=
  held_next h (Below.refl _ _).drew
theorem held_box (w : World) (k n : Int) (s : ByteArray) (t : TypeId) : Held1 w w.heap.size k n s (w.alloc (.cells #[.int .i64 k, .int .i64 n, .string s] t)) := by
  refine ⟨?_, ?_, ?_, ?_, ?_⟩
  · go_simp
  · go_simp
  · go_simp
  · simp
  · exact (Below.refl _ _).alloc (Nat.le_refl _) _

set_option maxHeartbeats 400000 in
theorem value_num (n : Int) (s : ByteArray) (w : World) :
    Calls Try.prog 17 #[.agg #[.int .i64 1, .int .i64 n, .string s]] w fun e w' => e = .returned (.tuple #[.iface 61 (.int .i64 n), .bool (valOk 1 n s)]) ∧ Below w.heap.size w w' := by
  have hm1 := m_num_ok n
  have hm2 := m_num_val n
  have hB := held_box w 1 n s 24
  go_enter Try.func17, Try.ntmps17
  go_wp2
  cases hn : numOk n
  · clear hB
    first
      | (go_region_with (go_at_call 56; refine (num_ok _ _).mono ?_; rintro e w' ⟨rfl, rfl⟩))
      | fail
    all_goals
      go_wp2
      go_ret2
      refine ⟨?_, ((Below.refl _ _).alloc (Nat.le_refl _) _).drew⟩
      simp [valOk, hn, go_sem]
  · by_cases hse : s.toList = []
    all_goals
      go_region_held3 (fun W => Held1 w w.heap.size 1 n s W) (first | assumption | exact held_drew (by assumption))
        (first
          | (go_at_call 56; refine (num_ok _ _).mono ?_; rintro e w' ⟨rfl, rfl⟩)
          | (go_at_call 58; refine (num_val _ _).mono ?_; rintro e w' ⟨rfl, hb⟩; have hN := held_next (by assumption) hb; clear hb))
      go_wp2
      go_ret2
      have hE := ‹Held1 w w.heap.size 1 n s _›
      refine ⟨?_, hE.2.2.2.2⟩
      simp [valOk, hn, hse]

end Go.Proofs.Ytfcmdmgjooifpaa
