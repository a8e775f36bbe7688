/- A table without changes and rows: the contracts of laws.eqTable, laws.markTable and laws.heldTable there, over the seat's translation. -/
import Derived.Test.YteckjdoiimifaaaTnM3
import Derived.Test.YteckjdoiimifaaaTnN1
import Derived.Test.YteckjdoiimifaaaShS7
namespace Go.Proofs.Yteckjdoiimifaaa
open Go.RowKit

theorem eq_chg_nil (w : World) : Calls Try.prog 29 #[.slice none 0 0, .slice none 0 0] w fun e w' => e = .returned (.bool true) ∧ w' = w := by
  go_enter Try.func29, Try.ntmps29
  go_wp2_with fail
  go_loopw [5] (fun i wr => i = .int .i64 0 ∧ wr = w) (fun _ _ => 0)
  case atStart => exact ⟨rfl, rfl⟩
  case round =>
    obtain ⟨rfl, rfl⟩ := hrel
    go_wp2_with fail
    go_ret
    exact ⟨rfl, rfl⟩
theorem eq_row_nil (w : World) : Calls Try.prog 30 #[.slice none 0 0, .slice none 0 0] w fun e w' => e = .returned (.bool true) ∧ w' = w := by
  go_enter Try.func30, Try.ntmps30
  go_wp2_with fail
  go_loopw [5] (fun i wr => i = .int .i64 0 ∧ wr = w) (fun _ _ => 0)
  case atStart => exact ⟨rfl, rfl⟩
  case round =>
    obtain ⟨rfl, rfl⟩ := hrel
    go_wp2_with fail
    go_ret
    exact ⟨rfl, rfl⟩
theorem mark_chg_nil (k : Nat) (w : World) : Calls Try.prog 33 #[.slice none 0 0, .int .i64 k] w fun e w' => e = .returned (.int .i64 k) ∧ w' = w := by
  go_enter Try.func33, Try.ntmps33
  go_wp2_with fail
  go_loopw [1, 5] (fun kv i wr => kv = .int .i64 k ∧ i = .int .i64 0 ∧ wr = w) (fun _ _ _ => 0)
  case atStart => exact ⟨rfl, rfl, rfl⟩
  case round =>
    obtain ⟨rfl, rfl, rfl⟩ := hrel
    go_wp2_with fail
    go_ret
    exact ⟨rfl, rfl⟩
theorem mark_row_nil (k : Nat) (w : World) : Calls Try.prog 34 #[.slice none 0 0, .int .i64 k] w fun e w' => e = .returned (.int .i64 k) ∧ w' = w := by
  go_enter Try.func34, Try.ntmps34
  go_wp2_with fail
  go_loopw [1, 5] (fun kv i wr => kv = .int .i64 k ∧ i = .int .i64 0 ∧ wr = w) (fun _ _ _ => 0)
  case atStart => exact ⟨rfl, rfl, rfl⟩
  case round =>
    obtain ⟨rfl, rfl, rfl⟩ := hrel
    go_wp2_with fail
    go_ret
    exact ⟨rfl, rfl⟩
theorem mark_col_nil (k : Nat) (w : World) : Calls Try.prog 12 #[.slice none 0 0, .int .i64 k] w fun e w' => e = .returned (.int .i64 k) ∧ w' = w := by
  go_enter Try.func12, Try.ntmps12
  go_wp2_with fail
  go_loopw [1, 5] (fun kv i wr => kv = .int .i64 k ∧ i = .int .i64 0 ∧ wr = w) (fun _ _ _ => 0)
  case atStart => exact ⟨rfl, rfl, rfl⟩
  case round =>
    obtain ⟨rfl, rfl, rfl⟩ := hrel
    go_wp2_with fail
    go_ret
    exact ⟨rfl, rfl⟩
theorem held_chg_nil (k : Nat) (w : World) : Calls Try.prog 36 #[.slice none 0 0, .int .i64 k] w fun e w' => e = .returned (.int .i64 k) ∧ w' = w := by
  go_enter Try.func36, Try.ntmps36
  go_wp2_with fail
  go_loopw [1, 5] (fun kv i wr => kv = .int .i64 k ∧ i = .int .i64 0 ∧ wr = w) (fun _ _ _ => 0)
  case atStart => exact ⟨rfl, rfl, rfl⟩
  case round =>
    obtain ⟨rfl, rfl, rfl⟩ := hrel
    go_wp2_with fail
    go_ret
    exact ⟨rfl, rfl⟩
theorem held_row_nil (k : Nat) (w : World) : Calls Try.prog 37 #[.slice none 0 0, .int .i64 k] w fun e w' => e = .returned (.int .i64 k) ∧ w' = w := by
  go_enter Try.func37, Try.ntmps37
  go_wp2_with fail
  go_loopw [1, 5] (fun kv i wr => kv = .int .i64 k ∧ i = .int .i64 0 ∧ wr = w) (fun _ _ _ => 0)
  case atStart => exact ⟨rfl, rfl, rfl⟩
  case round =>
    obtain ⟨rfl, rfl, rfl⟩ := hrel
    go_wp2_with fail
    go_ret
    exact ⟨rfl, rfl⟩
theorem held_col_nil (k : Nat) (w : World) : Calls Try.prog 35 #[.slice none 0 0, .int .i64 k] w fun e w' => e = .returned (.int .i64 k) ∧ w' = w := by
  go_enter Try.func35, Try.ntmps35
  go_wp2_with fail
  go_loopw [1, 5] (fun kv i wr => kv = .int .i64 k ∧ i = .int .i64 0 ∧ wr = w) (fun _ _ _ => 0)
  case atStart => exact ⟨rfl, rfl, rfl⟩
  case round =>
    obtain ⟨rfl, rfl, rfl⟩ := hrel
    go_wp2_with fail
    go_ret
    exact ⟨rfl, rfl⟩

/-- Two boxes of tables. -/
abbrev Box2 (w : World) (p q : Nat) (x y : Value) (n : Int) (W : World) : Prop :=
  Own4 p x (.slice none 0 0) (.slice none 0 0) n W ∧ Own4 q y (.slice none 0 0) (.slice none 0 0) n W ∧ p < W.heap.size ∧ q < W.heap.size ∧ Below w.heap.size w W
theorem box2_next {w : World} {p q : Nat} {x y : Value} {n : Int} {W W' : World} (h : Box2 w p q x y n W) (hb : Below W.heap.size W W') : Box2 w p q x y n W' := by
  obtain ⟨h1, h2, h3, h4, h5⟩ := h
  have := hb.size
  exact ⟨own4_next h1 h3 hb, own4_next h2 h4 hb, by omega, by omega, h5.trans (hb.mono h5.size)⟩
theorem box2_drew {w : World} {p q : Nat} {x y : Value} {n : Int} {W : World} (h : Box2 w p q x y n W) : Box2 w p q x y n W.drew := box2_next h (Below.refl _ _).drew
theorem box2_made (w : World) (x y : Value) (n : Int) : Box2 w w.heap.size (w.heap.size + 1) x y n ((w.alloc (.cells #[x, .slice none 0 0, .slice none 0 0, .int .i64 n] 28)).alloc (.cells #[y, .slice none 0 0, .slice none 0 0, .int .i64 n] 28)) := by
  have h2 := own4_box (w.alloc (.cells #[x, .slice none 0 0, .slice none 0 0, .int .i64 n] 28)) y (.slice none 0 0) (.slice none 0 0) n 28
  rw [show (w.alloc (.cells #[x, .slice none 0 0, .slice none 0 0, .int .i64 n] 28)).heap.size = w.heap.size + 1 by simp] at h2
  refine ⟨own4_next (own4_box w x (.slice none 0 0) (.slice none 0 0) n 28) ?_ (alloc_next _ _), h2, by simp; omega, by simp, ((Below.refl _ _).alloc (Nat.le_refl _) _).alloc (by simp) _⟩
  simp

set_option maxRecDepth 100000 in
set_option maxHeartbeats 1000000 in
theorem eq_table_new (a b : Option Addr) (cap cap' : Nat) (L : List ACol) (n : Int) (w : World) (ha : ColsAt w a L) (hb : ColsAt w b L) (hm : L.length ≤ maxLen) :
    Calls Try.prog 10 #[.agg #[.slice a L.length cap, .slice none 0 0, .slice none 0 0, .int .i64 n], .agg #[.slice b L.length cap', .slice none 0 0, .slice none 0 0, .int .i64 n]] w fun e w' => e = .returned (.bool true) ∧ Below w.heap.size w w' := by
  have hx := box2_made w (.slice a L.length cap) (.slice b L.length cap') n
  have HX : Hid (Box2 w w.heap.size (w.heap.size + 1) (.slice a L.length cap) (.slice b L.length cap') n ((w.alloc (.cells #[.slice a L.length cap, .slice none 0 0, .slice none 0 0, .int .i64 n] 28)).alloc (.cells #[.slice b L.length cap', .slice none 0 0, .slice none 0 0, .int .i64 n] 28))) := hx
  have HA := ha.keep hx.2.2.2.2
  have HB := hb.keep hx.2.2.2.2
  clear hx
  go_enter Try.func10, Try.ntmps10
  go_wp2_with fail
  refine (eq_cols _ _ _ _ _ _ HA HB hm).mono ?_
  rintro e w1 ⟨rfl, hq⟩
  have h1 := box2_next HX.out hq
  clear HX hq
  go_wp2_with (first
    | (go_at_call 29; refine (eq_chg_nil _).mono ?_; rintro e w' ⟨rfl, rfl⟩)
    | (go_at_call 30; refine (eq_row_nil _).mono ?_; rintro e w' ⟨rfl, rfl⟩))
  go_ret
  exact ⟨rfl, h1.2.2.2.2⟩

theorem marked_from {w W : World} {B n k i : Nat} {W' : World} (h : Marked W B n k i W') (hb : Below w.heap.size w W) : Marked w B n k i W' := by
  obtain ⟨h1, h2, h3, h4⟩ := h
  exact ⟨⟨h1.os.trans hb.os, h1.tape.trans hb.tape, h1.output.trans hb.output, Nat.le_trans hb.size h1.size, fun j hj hg => (h1.block j (Nat.lt_of_lt_of_le hj hb.size) hg).trans (hb.block j hj)⟩, h2, h3, h4⟩

set_option maxRecDepth 100000 in
set_option maxHeartbeats 1000000 in
theorem mark_table_new (B n cap m : Nat) (nx : Int) (w : World) (hB : B < w.heap.size) (ht : w.there B 0 (n * 7)) (hn : 1 + 7 * n ≤ 100000000) (hm : m = 1 + 7 * n) :
    Calls Try.prog 13 #[.agg #[.slice (some ⟨B, 0, none⟩) n cap, .slice none 0 0, .slice none 0 0, .int .i64 nx], .int .i64 1] w fun e w' => e = .returned (.int .i64 m) ∧ Marked w B n 1 n w' := by
  have HQ : Hid (m = 1 + 7 * n) := hm
  clear hm
  have hx := alloc_next w (.cells #[.slice (some ⟨B, 0, none⟩) n cap, .slice none 0 0, .slice none 0 0, .int .i64 nx] 28)
  have HO : Hid (Own4 w.heap.size (.slice (some ⟨B, 0, none⟩) n cap) (.slice none 0 0) (.slice none 0 0) nx (w.alloc (.cells #[.slice (some ⟨B, 0, none⟩) n cap, .slice none 0 0, .slice none 0 0, .int .i64 nx] 28))) := own4_box w _ _ _ _ _
  have HB : Hid (Below w.heap.size w (w.alloc (.cells #[.slice (some ⟨B, 0, none⟩) n cap, .slice none 0 0, .slice none 0 0, .int .i64 nx] 28))) := hx
  have HT := there_next ht hB hx
  clear hx ht
  go_enter Try.func13, Try.ntmps13
  go_wp2_with fail
  refine (mark_cols B n cap 1 _ (by simp; omega) HT (by omega) hn).mono ?_
  rintro e w1 ⟨rfl, hM⟩
  have hc := fun o => hM.1.cell (b := w.heap.size) (by simp) (by omega) o
  have h1 : Own4 w.heap.size (.slice (some ⟨B, 0, none⟩) n cap) (.slice none 0 0) (.slice none 0 0) nx w1 := by
    have hf := fun o => hM.1.frozen (b := w.heap.size) (by simp) (by omega) o
    have := HO.out
    unfold Own4
    simp only [hc, hf]
    exact this
  have HM : Hid (Marked w B n 1 n w1) := marked_from hM HB.out
  rw [← HQ.out]
  clear hM hc HO HB HT
  go_wp2_with (first
    | (go_at_call 33; refine (mark_chg_nil _ _).mono ?_; rintro e w' ⟨rfl, rfl⟩)
    | (go_at_call 34; refine (mark_row_nil _ _).mono ?_; rintro e w' ⟨rfl, rfl⟩))
  go_ret
  exact ⟨rfl, HM⟩

set_option maxRecDepth 100000 in
set_option maxHeartbeats 1000000 in
theorem mark_table_nil (nx : Int) (w : World) :
    Calls Try.prog 13 #[.agg #[.slice none 0 0, .slice none 0 0, .slice none 0 0, .int .i64 nx], .int .i64 1] w fun e w' => e = .returned (.int .i64 1) ∧ Below w.heap.size w w' := by
  have HO := own4_box w (.slice none 0 0) (.slice none 0 0) (.slice none 0 0) nx 28
  have HB : Hid (Below w.heap.size w (w.alloc (.cells #[.slice none 0 0, .slice none 0 0, .slice none 0 0, .int .i64 nx] 28))) := alloc_next w _
  go_enter Try.func13, Try.ntmps13
  go_wp2_with (first
    | (go_at_call 12; refine (mark_col_nil 1 _).mono ?_; rintro e w' ⟨rfl, rfl⟩)
    | (go_at_call 33; refine (mark_chg_nil 1 _).mono ?_; rintro e w' ⟨rfl, rfl⟩)
    | (go_at_call 34; refine (mark_row_nil 1 _).mono ?_; rintro e w' ⟨rfl, rfl⟩))
  go_ret
  exact ⟨rfl, HB⟩

set_option maxRecDepth 100000 in
set_option maxHeartbeats 1000000 in
theorem held_table_new (B n cap m : Nat) (nx : Int) (w : World) (hB : B < w.heap.size) (ht : ∀ j, j < n → w.rangeAt B (j * 7) (mkCol (1 + 7 * j)).cells) (hn : 1 + 7 * n ≤ 100000000) (hm : m = 1 + 7 * n) :
    Calls Try.prog 14 #[.agg #[.slice (some ⟨B, 0, none⟩) n cap, .slice none 0 0, .slice none 0 0, .int .i64 nx], .int .i64 1] w fun e w' => e = .returned (.int .i64 m) ∧ Below w.heap.size w w' := by
  have HQ : Hid (m = 1 + 7 * n) := hm
  clear hm
  have hx := alloc_next w (.cells #[.slice (some ⟨B, 0, none⟩) n cap, .slice none 0 0, .slice none 0 0, .int .i64 nx] 28)
  have HO : Hid (Own4 w.heap.size (.slice (some ⟨B, 0, none⟩) n cap) (.slice none 0 0) (.slice none 0 0) nx (w.alloc (.cells #[.slice (some ⟨B, 0, none⟩) n cap, .slice none 0 0, .slice none 0 0, .int .i64 nx] 28))) := own4_box w _ _ _ _ _
  have HB : Hid (Below w.heap.size w (w.alloc (.cells #[.slice (some ⟨B, 0, none⟩) n cap, .slice none 0 0, .slice none 0 0, .int .i64 nx] 28))) := hx
  have HT : ∀ j, j < n → (w.alloc (.cells #[.slice (some ⟨B, 0, none⟩) n cap, .slice none 0 0, .slice none 0 0, .int .i64 nx] 28)).rangeAt B (j * 7) (mkCol (1 + 7 * j)).cells := fun j hj x v hv => by
    rw [(bcell hx).1 _ _ hB]
    exact ht j hj x v hv
  clear hx ht
  go_enter Try.func14, Try.ntmps14
  go_wp2_with fail
  refine (held_cols B n cap 1 _ (by simp; omega) HT (by omega) hn).mono ?_
  rintro e w1 ⟨rfl, hq⟩
  have h1 := own4_next HO.out (by simp) hq
  have HP : Hid (Below w.heap.size w w1) := HB.out.trans (hq.mono (by simp))
  rw [← HQ.out]
  clear HO HB HT hq
  go_wp2_with (first
    | (go_at_call 36; refine (held_chg_nil _ _).mono ?_; rintro e w' ⟨rfl, rfl⟩)
    | (go_at_call 37; refine (held_row_nil _ _).mono ?_; rintro e w' ⟨rfl, rfl⟩))
  go_ret
  exact ⟨rfl, HP⟩

set_option maxRecDepth 100000 in
set_option maxHeartbeats 1000000 in
theorem held_table_nil (nx : Int) (w : World) :
    Calls Try.prog 14 #[.agg #[.slice none 0 0, .slice none 0 0, .slice none 0 0, .int .i64 nx], .int .i64 1] w fun e w' => e = .returned (.int .i64 1) ∧ Below w.heap.size w w' := by
  have HO := own4_box w (.slice none 0 0) (.slice none 0 0) (.slice none 0 0) nx 28
  have HB : Hid (Below w.heap.size w (w.alloc (.cells #[.slice none 0 0, .slice none 0 0, .slice none 0 0, .int .i64 nx] 28))) := alloc_next w _
  go_enter Try.func14, Try.ntmps14
  go_wp2_with (first
    | (go_at_call 35; refine (held_col_nil 1 _).mono ?_; rintro e w' ⟨rfl, rfl⟩)
    | (go_at_call 36; refine (held_chg_nil 1 _).mono ?_; rintro e w' ⟨rfl, rfl⟩)
    | (go_at_call 37; refine (held_row_nil 1 _).mono ?_; rintro e w' ⟨rfl, rfl⟩))
  go_ret
  exact ⟨rfl, HB⟩

end Go.Proofs.Yteckjdoiimifaaa
