/- slices.Clone at columns and at values: memory of the call's own; over the seat's translation. -/
import Derived.Test.YtddcmibggdighaaDrV1
namespace Go.Proofs.Ytddcmibggdighaa
open Go.RowKit

theorem own_below {w : World} {v : Value} {L : List ACol} {W W' : World} (h : OwnCols w.heap.size v L W) (hb : Below W.heap.size W W') : OwnCols w.heap.size v L W' := by
  refine ⟨World.ownsRow.kept h.1 ⟨hb.os, hb.tape, hb.output, hb.size, fun k hk _ => hb.block k hk⟩ (row := none) ?_, h.2⟩
  cases hv : v.ownBlock with
  | none => exact Or.inl rfl
  | some k => exact Or.inr (by simp)
theorem ownv_below {w : World} {v : Value} {L : List AVal} {W W' : World} (h : OwnVals w.heap.size v L W) (hb : Below W.heap.size W W') : OwnVals w.heap.size v L W' := by
  refine ⟨World.ownsRow.kept h.1 ⟨hb.os, hb.tape, hb.output, hb.size, fun k hk _ => hb.block k hk⟩ (row := none) ?_, h.2⟩
  cases hv : v.ownBlock with
  | none => exact Or.inl rfl
  | some k => exact Or.inr (by simp)

set_option maxRecDepth 100000 in
set_option maxHeartbeats 1000000 in
theorem clone_cols (b o cap : Nat) (L : List ACol) (w : World) (hL : ColsAt w (some ⟨b, o, none⟩) L) (hl : L.length ≤ 100) :
    Calls Try.prog 18 #[.slice (some ⟨b, o, none⟩) L.length cap] w fun e w' => ∃ v, e = .returned v ∧ OwnCols w.heap.size v L w' ∧ Below w.heap.size w w' := by
  obtain ⟨i0, hi, hz, hsz, hby⟩ := Try.info31
  have hby0 : (0 + L.length) * i0.bytes ≤ 140737488355328 := by
    have : (0 + L.length) * i0.bytes ≤ 100 * 128 := Nat.mul_le_mul (by omega) hby
    omega
  have b0 := alloc_below w (.cells #[] 31)
  have hown0 : (w.alloc (.cells #[] 31)).ownsRow w.heap.size 31 7 (.slice (some ⟨w.heap.size, 0, none⟩) 0 0) 0 [] := World.ownsRow_made w #[] 0 (Nat.le_refl _) (Nat.zero_le _) rfl
  have hnews : ∀ j u, (L.flatMap ACol.cells)[j]? = some u → (w.alloc (.cells #[] 31)).cell? ((⟨b, o, none⟩ : Addr).add j) = some u := flat_cells (hL.keep b0)
  have hq : ∀ wx, (binOp .eql 23 (.slice (some ⟨b, o, none⟩) L.length cap) (.slice none 0 0)).run Try.prog wx = .ok (.bool false) wx := fun wx => Lib.run_eql_slice_nil wx 23 31 _ _ _ _ _ Try.underlying23
  go_enter Try.func18, Try.ntmps18
  go_wp2_with (at_builtin; refine wpList_append_own_at _ rfl _ _ 23 rfl w.heap.size 31 i0 _ 7 i0.bytes Try.underlying23 hi hz hsz rfl rfl (by decide) (.slice (some ⟨w.heap.size, 0, none⟩) 0 0) 0 [] rfl hown0 ⟨b, o, none⟩ L.length cap (L.flatMap ACol.cells) rfl (flat_len L) hnews (flat_one L) (by unfold maxLen; omega) hby0 b0.size ?_; intro v' w1 hown1 hgrow hnil hloc; have H1 : Hid (OwnCols w.heap.size v' L w1 ∧ Below w.heap.size w w1) := ⟨⟨by rw [Nat.zero_add, List.nil_append] at hown1; exact hown1, fun e => by have := (hnil.1 e).1; simp at this⟩, b0.grown hgrow b0.size (fun k hk => (World.ownsRow.lt hown0 k hk).1)⟩; clear hown1 hgrow hnil hloc hown0 hnews hby0 hi hz hsz hby b0 hq)
  go_ret
  exact ⟨_, rfl, H1.out⟩

set_option maxRecDepth 100000 in
set_option maxHeartbeats 1000000 in
theorem clone_vals (b o cap : Nat) (L : List AVal) (w : World) (hL : ValsAt w (some ⟨b, o, none⟩) L) (hl : L.length ≤ 100) :
    Calls Try.prog 57 #[.slice (some ⟨b, o, none⟩) L.length cap] w fun e w' => ∃ v, e = .returned v ∧ OwnVals w.heap.size v L w' ∧ Below w.heap.size w w' := by
  obtain ⟨i0, hi, hz, hsz, hby⟩ := Try.info29
  have hby0 : (0 + L.length) * i0.bytes ≤ 140737488355328 := by
    have : (0 + L.length) * i0.bytes ≤ 100 * 128 := Nat.mul_le_mul (by omega) hby
    omega
  have b0 := alloc_below w (.cells #[] 29)
  have hown0 : (w.alloc (.cells #[] 29)).ownsRow w.heap.size 29 3 (.slice (some ⟨w.heap.size, 0, none⟩) 0 0) 0 [] := World.ownsRow_made w #[] 0 (Nat.le_refl _) (Nat.zero_le _) rfl
  have hnews : ∀ j u, (L.flatMap AVal.cells)[j]? = some u → (w.alloc (.cells #[] 29)).cell? ((⟨b, o, none⟩ : Addr).add j) = some u := flatv_cells (hL.keep b0)
  have hq : ∀ wx, (binOp .eql 24 (.slice (some ⟨b, o, none⟩) L.length cap) (.slice none 0 0)).run Try.prog wx = .ok (.bool false) wx := fun wx => Lib.run_eql_slice_nil wx 24 29 _ _ _ _ _ Try.underlying24
  go_enter Try.func57, Try.ntmps57
  go_wp2_with (at_builtin; refine wpList_append_own_at _ rfl _ _ 24 rfl w.heap.size 29 i0 _ 3 i0.bytes Try.underlying24 hi hz hsz rfl rfl (by decide) (.slice (some ⟨w.heap.size, 0, none⟩) 0 0) 0 [] rfl hown0 ⟨b, o, none⟩ L.length cap (L.flatMap AVal.cells) rfl (flatv_len L) hnews (flatv_one L) (by unfold maxLen; omega) hby0 b0.size ?_; intro v' w1 hown1 hgrow hnil hloc; have H1 : Hid (OwnVals w.heap.size v' L w1 ∧ Below w.heap.size w w1) := ⟨⟨by rw [Nat.zero_add, List.nil_append] at hown1; exact hown1, fun e => by have := (hnil.1 e).1; simp at this⟩, b0.grown hgrow b0.size (fun k hk => (World.ownsRow.lt hown0 k hk).1)⟩; clear hown1 hgrow hnil hloc hown0 hnews hby0 hi hz hsz hby b0 hq)
  go_ret
  exact ⟨_, rfl, H1.out⟩

end Go.Proofs.Ytddcmibggdighaa
