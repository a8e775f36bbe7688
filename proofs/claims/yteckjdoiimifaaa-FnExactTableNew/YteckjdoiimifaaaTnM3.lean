/- Marks that are held: the contract of laws.heldColS, over the seat's translation. -/
import Derived.Test.YteckjdoiimifaaaTnM2
namespace Go.Proofs.Yteckjdoiimifaaa
open Go.RowKit

/-- The seven marks from q on lie at an offset of block B in W, and W lies over w. -/
abbrev HM (w : World) (B o q : Nat) (W : World) : Prop :=
  W.cell? ⟨B, o, none⟩ = some (.string (markT q)) ∧ W.cell? ⟨B, o + 1, none⟩ = some (.int .i64 ((q : Int) + 1)) ∧ W.cell? ⟨B, o + 2, none⟩ = some (.bool (((q : Int) + 1 + 1) % 3 == 0)) ∧ W.cell? ⟨B, o + 3, none⟩ = some (.bool (((q : Int) + 1 + 1 + 1) % 3 == 0)) ∧
    W.cell? ⟨B, o + 4, none⟩ = some (.int .i64 ((q : Int) + 1 + 1 + 1 + 1)) ∧ W.cell? ⟨B, o + 5, none⟩ = some (.int .i64 ((q : Int) + 1 + 1 + 1 + 1 + 1)) ∧ W.cell? ⟨B, o + 6, none⟩ = some (.string (markT (q + 6))) ∧ B < W.heap.size ∧ Below w.heap.size w W
theorem hm_of {w : World} {B o q : Nat} {W : World} (h : W.rangeAt B o (mkCol q).cells) (hB : B < W.heap.size) (hb : Below w.heap.size w W) : HM w B o q W :=
  ⟨h 0 _ rfl, h 1 _ rfl, h 2 _ rfl, h 3 _ rfl, h 4 _ rfl, h 5 _ rfl, h 6 _ rfl, hB, hb⟩
theorem hm_next {w : World} {B o q : Nat} {W W' : World} (h : HM w B o q W) (hb : Below W.heap.size W W') : HM w B o q W' := by
  obtain ⟨h0, h1, h2, h3, h4, h5, h6, h7, h8⟩ := h
  have hc := fun x => (bcell hb).1 B x h7
  exact ⟨(hc _).trans h0, (hc _).trans h1, (hc _).trans h2, (hc _).trans h3, (hc _).trans h4, (hc _).trans h5, (hc _).trans h6, Nat.lt_of_lt_of_le h7 hb.size, h8.trans (hb.mono h8.size)⟩
theorem hm_drew {w : World} {B o q : Nat} {W : World} (h : HM w B o q W) : HM w B o q W.drew := hm_next h (Below.refl _ _).drew

set_option maxRecDepth 100000 in
set_option maxHeartbeats 2000000 in
theorem held_cols (B n cap k : Nat) (w : World) (hB : B < w.heap.size) (ht : ∀ j, j < n → w.rangeAt B (j * 7) (mkCol (k + 7 * j)).cells) (hk : 0 < k) (hn : k + 7 * n ≤ 100000000) :
    Calls Try.prog 35 #[.slice (some ⟨B, 0, none⟩) n cap, .int .i64 k] w fun e w' => e = .returned (.int .i64 ((k + 7 * n : Nat) : Int)) ∧ Below w.heap.size w w' := by
  go_enter Try.func35, Try.ntmps35
  go_wp2_with fail
  go_loopw [1, 5] (fun kv iv wr => ∃ i : Nat, i ≤ n ∧ iv = .int .i64 i ∧ kv = .int .i64 ((k + 7 * i : Nat) : Int) ∧ Hid (Below w.heap.size w wr)) (fun _ iv _ => n - (intOf iv).toNat)
  case atStart => exact ⟨0, Nat.zero_le _, rfl, rfl, Below.refl _ _⟩
  case round =>
    obtain ⟨i, hi, rfl, rfl, hH⟩ := hrel
    by_cases hlt : i < n
    · have hix : ∀ wx, (Instr.indexAt 24 (.slice (some ⟨B, 0, none⟩) n cap) (.int .i64 i)).run Try.prog wx = .ok (.pointer (some ⟨B, i * 7, none⟩)) wx := fun wx => by
        have := run_ix 24 _ B 0 n cap i wx hlt Try.underlying24 (Try.sizeOf63 wx)
        rwa [Nat.zero_add] at this
      have hlt' : (i : Int) < n := by omega
      obtain ⟨q, hq⟩ : ∃ q, q = k + 7 * i := ⟨_, rfl⟩
      have hE : HM w B (i * 7) q wr := hm_of (fun j v hv => by rw [(bcell hH.out).1 _ _ hB]; exact ht i hlt j v (by rw [← hq]; exact hv)) (Nat.lt_of_lt_of_le hB hH.out.size) hH.out
      rw [← hq]
      have hQ : Hid (q = k + 7 * i) := hq
      have hq0 : 0 < q := by omega
      have hq1 : q + 7 ≤ 100000000 := by omega
      clear hq hB ht hH
      go_wp2_with fail
      go_region_held3 (fun W => HM w B (i * 7) q W) (first | assumption | exact hm_drew (by assumption))
        (first
          | (go_at_call 32; refine (mark_text q _ hq0 (by omega)).mono ?_; rintro e w' ⟨rfl, hb⟩; have hN := hm_next (by assumption) hb; clear hb))
      go_wp2_with fail
      go_region_held3 (fun W => HM w B (i * 7) q W) (first | assumption | exact hm_drew (by assumption))
        (first
          | (go_at_call 32; refine (mark_text_at _ (q + 6) _ (by omega) (by omega) (by omega)).mono ?_; rintro e w' ⟨rfl, hb⟩; have hN := hm_next (by assumption) hb; clear hb))
      rename_i hLast
      have hP : Hid (Below w.heap.size w _) := hLast.2.2.2.2.2.2.2.2
      clear hLast
      go_wp2_with fail
      go_roundw
      case rel =>
        refine ⟨i + 1, by omega, by go_num, ?_, hP⟩
        have := hQ.out
        rw [show k + 7 * (i + 1) = q + 7 by omega]
        go_num
      case measure => simp [intOf]; omega
    · have hkl : i = n := by omega
      subst hkl
      go_wp2_with fail
      go_ret
      exact ⟨rfl, hH.out⟩

end Go.Proofs.Yteckjdoiimifaaa
