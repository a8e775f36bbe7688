/- The contracts of pick, num and of over a reader that lies in memory, over the seat's translation. -/
import Derived.Test.YtddcmibggdighaaDraw1
namespace Go.Proofs.Ytddcmibggdighaa
open Go.RowKit

/-- The bytes of a code lie below block number B. -/
def IsCode (B : Nat) (x : Option Addr) (len : Nat) (W : World) : Prop :=
  len = 0 ∨ ∃ cb co, x = some ⟨cb, co, none⟩ ∧ cb < B ∧ ∀ i, i < len → ∃ z : Int, W.cell? ⟨cb, co + i, none⟩ = some (.int .u8 z) ∧ 0 ≤ z ∧ z ≤ 255

/-- A reader lies at g, p places on; B: the blocks that were there before. -/
def Rd (B g p : Nat) (W : World) : Prop :=
  B ≤ g ∧ g < W.heap.size ∧ ∃ x len cap, len ≤ 2000 ∧ W.cell? ⟨g, 0, none⟩ = some (.slice x len cap) ∧ W.cell? ⟨g, 1, none⟩ = some (.int .i64 p) ∧ W.frozen? ⟨g, 1, none⟩ = false ∧ IsCode B x len W

theorem Upd.cell {g : Nat} {W W' : World} (h : Upd g W W') {a : Addr} (h1 : a.block < W.heap.size) (h2 : a.block ≠ g) : W'.cell? a = W.cell? a := World.cell?_of_block (w := W) (h.block a.block h1 h2)
theorem Upd.frozen {g : Nat} {W W' : World} (h : Upd g W W') {a : Addr} (h1 : a.block < W.heap.size) (h2 : a.block ≠ g) : W'.frozen? a = W.frozen? a := World.frozen?_of_block (w := W) (h.block a.block h1 h2)
theorem Upd.refl (g : Nat) (W : World) : Upd g W W := ⟨rfl, rfl, rfl, Nat.le_refl _, fun _ _ _ => rfl⟩
theorem Upd.trans {g : Nat} {W W' W'' : World} (h : Upd g W W') (k : Upd g W' W'') : Upd g W W'' :=
  ⟨k.os.trans h.os, k.tape.trans h.tape, k.output.trans h.output, Nat.le_trans h.size k.size, fun b hb hg => (k.block b (Nat.lt_of_lt_of_le hb h.size) hg).trans (h.block b hb hg)⟩
theorem Upd.below {g B : Nat} {W W' : World} (h : Upd g W W') (hB : B ≤ g) (hs : B ≤ W.heap.size) : Below B W W' := ⟨h.os, h.tape, h.output, h.size, fun k hk => h.block k (by omega) (by omega)⟩
theorem Upd.set {g : Nat} (W : World) (o : Nat) (v : Value) : Upd g W (W.setCell ⟨g, o, none⟩ v) := by
  have b : Below g W (W.setCell ⟨g, o, none⟩ v) := (Below.refl g W).setCell (p := ⟨g, o, none⟩) (Nat.le_refl _) v
  exact ⟨b.os, b.tape, b.output, b.size, fun k _ hg => Below.heap_setCell W ⟨g, o, none⟩ v k hg⟩
theorem Upd.drewN {g : Nat} {W W' : World} (h : Upd g W W') (k : Nat) : Upd g W (W'.drewN k) := h.trans (Upd.ofBelow ((Below.refl _ _).trans ⟨rfl, rfl, rfl, Nat.le_refl _, fun _ _ => rfl⟩))

theorem IsCode.keep {B : Nat} {x : Option Addr} {len : Nat} {W W' : World} (h : IsCode B x len W) (hb : Below B W W') : IsCode B x len W' := by
  rcases h with h | ⟨cb, co, hx, hlt, hc⟩
  · exact Or.inl h
  · refine Or.inr ⟨cb, co, hx, hlt, fun i hi => ?_⟩
    obtain ⟨z, h1, h2, h3⟩ := hc i hi
    exact ⟨z, by rw [hb.cell (p := ⟨cb, co + i, none⟩) hlt]; exact h1, h2, h3⟩

theorem Rd.keep {B g p : Nat} {W W' : World} (h : Rd B g p W) (hb : Below W.heap.size W W') : Rd B g p W' := by
  obtain ⟨h1, h2, x, len, cap, h3, h4, h5, h6, h7⟩ := h
  have hz := hb.size
  exact ⟨h1, by omega, x, len, cap, h3, by rw [hb.cell (p := ⟨g, 0, none⟩) h2]; exact h4, by rw [hb.cell (p := ⟨g, 1, none⟩) h2]; exact h5, by rw [hb.frozen (p := ⟨g, 1, none⟩) h2]; exact h6, h7.keep (hb.mono (by omega))⟩

theorem Rd.step {B g p : Nat} {W : World} (h : Rd B g p W) (k : Nat) : Rd B g (p + 1) ((W.setCell ⟨g, 1, none⟩ (.int .i64 (p + 1 : Nat))).drewN k) := by
  obtain ⟨h1, h2, x, len, cap, h3, h4, h5, h6, h7⟩ := h
  have hu := (Upd.set (g := g) W 1 (.int .i64 (p + 1 : Nat))).drewN k
  refine ⟨h1, by have := hu.size; omega, x, len, cap, h3, ?_, ?_, ?_, h7.keep (hu.below h1 (by omega))⟩
  · go_simp
  · go_simp
  · go_simp

theorem pick_any (B g p : Nat) (n : Int) (w : World) (h : Rd B g p w) (hp : p < 1000000) (h1 : 1 ≤ n) (h2 : n ≤ 1000) :
    Calls Try.prog 19 #[.pointer (some ⟨g, 0, none⟩), .int .i64 n] w fun e w' => ∃ v : Nat, e = .returned (.int .i64 v) ∧ (v : Int) < n ∧ Rd B g (p + 1) w' ∧ Upd g w w' := by
  have hr := h
  obtain ⟨hB, hg, x, len, cap, hlen, hc0, hc1, hf, hcode⟩ := h
  by_cases hl : len = 0
  · subst hl
    refine (pick_none g p cap x n w hc0 hc1 hf hp h1).mono ?_
    rintro e w' ⟨rfl, rfl⟩
    exact ⟨0, rfl, by omega, hr.step 0, (Upd.set w 1 _).drewN 0⟩
  · rcases hcode with h0 | ⟨cb, co, rfl, hlt, hcell⟩
    · exact absurd h0 hl
    · by_cases hin : p < len
      · obtain ⟨z, hz, hz0, hz1⟩ := hcell p hin
        refine (pick_in g p len cap cb co z n w hc0 hc1 hf hp h1 h2 (by omega) hin hlen hz hz0 hz1).mono ?_
        rintro e w' ⟨rfl, rfl⟩
        have m0 : 0 ≤ z % n := Int.emod_nonneg _ (by omega)
        have m1 : z % n < n := Int.emod_lt_of_pos _ (by omega)
        obtain ⟨v, hv⟩ := Int.eq_ofNat_of_zero_le m0
        exact ⟨v, by rw [hv], by omega, hr.step 0, (Upd.set w 1 _).drewN 0⟩
      · obtain ⟨y, hy, hy0, hy1⟩ := hcell (p % len) (Nat.mod_lt _ (by omega))
        obtain ⟨z, hz, hz0, hz1⟩ := hcell ((p * 7 + 3) % len) (Nat.mod_lt _ (by omega))
        refine (pick_out g p len cap cb co y z n w hc0 hc1 hf hp h1 h2 (by omega) hin (by omega) hlen hy hy0 hy1 hz hz0 hz1).mono ?_
        rintro e w' ⟨v, rfl, v0, v1, k, rfl⟩
        obtain ⟨m, rfl⟩ := Int.eq_ofNat_of_zero_le v0
        exact ⟨m, rfl, v1, hr.step k, (Upd.set w 1 _).drewN k⟩

set_option maxHeartbeats 400000 in
theorem num_of_any (B g p h : Nat) (zs : List Int) (w : World) (hr : Rd B g p w) (hp : p < 1000000) (hne : h ≠ g) (hlt : h < w.heap.size) (h1 : 0 < zs.length) (h2 : zs.length ≤ 1000) (hc : ∀ i, i < zs.length → w.cell? ⟨h, i, none⟩ = some (.int .i64 (zs.getD i 0))) :
    Calls Try.prog 26 #[.pointer (some ⟨g, 0, none⟩), .slice (some ⟨h, 0, none⟩) zs.length zs.length] w fun e w' => ∃ v : Int, e = .returned (.int .i64 v) ∧ v ∈ zs ∧ Rd B g (p + 1) w' ∧ Upd g w w' := by
  have Hr : Hid _ := hr
  have Hc : Hid _ := hc
  clear hr hc
  go_enter Try.func26, Try.ntmps26
  go_wp2_with fail
  refine (pick_any B g p _ _ Hr.out hp (by omega) (by omega)).mono ?_
  rintro e w1 ⟨v, rfl, hv, hr1, hu⟩
  have hv' : v < zs.length := by omega
  have hcv : w1.cell? ⟨h, v, none⟩ = some (.int .i64 (zs.getD v 0)) := by rw [hu.cell (a := ⟨h, v, none⟩) hlt hne]; exact Hc.out v hv'
  have Hr1 : Hid _ := hr1
  have Hu : Hid _ := hu
  clear hr1 hu
  go_wp2_with fail
  go_ret
  exact ⟨zs[v], rfl, List.getElem_mem _, Hr1.out, Hu.out⟩

set_option maxHeartbeats 400000 in
theorem of_of_any (B g p h : Nat) (ss : List ByteArray) (w : World) (hr : Rd B g p w) (hp : p < 1000000) (hne : h ≠ g) (hlt : h < w.heap.size) (h1 : 0 < ss.length) (h2 : ss.length ≤ 1000) (hc : ∀ i, i < ss.length → w.cell? ⟨h, i, none⟩ = some (.string (ss.getD i ByteArray.empty))) :
    Calls Try.prog 21 #[.pointer (some ⟨g, 0, none⟩), .slice (some ⟨h, 0, none⟩) ss.length ss.length] w fun e w' => ∃ s : ByteArray, e = .returned (.string s) ∧ s ∈ ss ∧ Rd B g (p + 1) w' ∧ Upd g w w' := by
  have Hr : Hid _ := hr
  have Hc : Hid _ := hc
  clear hr hc
  go_enter Try.func21, Try.ntmps21
  go_wp2_with fail
  refine (pick_any B g p _ _ Hr.out hp (by omega) (by omega)).mono ?_
  rintro e w1 ⟨v, rfl, hv, hr1, hu⟩
  have hv' : v < ss.length := by omega
  have hcv : w1.cell? ⟨h, v, none⟩ = some (.string (ss.getD v ByteArray.empty)) := by rw [hu.cell (a := ⟨h, v, none⟩) hlt hne]; exact Hc.out v hv'
  have Hr1 : Hid _ := hr1
  have Hu : Hid _ := hu
  clear hr1 hu
  go_wp2_with fail
  go_ret
  exact ⟨ss[v], rfl, List.getElem_mem _, Hr1.out, Hu.out⟩

theorem Rd.other {B g p b : Nat} {W W' : World} (h : Rd B g p W) (hu : Upd b W W') (hne : b ≠ g) (hB : B ≤ b) : Rd B g p W' := by
  obtain ⟨h1, h2, x, len, cap, h3, h4, h5, h6, h7⟩ := h
  have hz := hu.size
  exact ⟨h1, by omega, x, len, cap, h3, by rw [hu.cell (a := ⟨g, 0, none⟩) h2 (Ne.symm hne)]; exact h4, by rw [hu.cell (a := ⟨g, 1, none⟩) h2 (Ne.symm hne)]; exact h5, by rw [hu.frozen (a := ⟨g, 1, none⟩) h2 (Ne.symm hne)]; exact h6, h7.keep (hu.below hB (by omega))⟩
theorem Upd.other {g b : Nat} {w W W' : World} (h : Upd g w W) (hu : Upd b W W') (hb : w.heap.size ≤ b) : Upd g w W' :=
  ⟨hu.os.trans h.os, hu.tape.trans h.tape, hu.output.trans h.output, Nat.le_trans h.size hu.size, fun k hk hg => (hu.block k (Nat.lt_of_lt_of_le hk h.size) (by omega)).trans (h.block k hk hg)⟩
theorem Upd.set3 {b : Nat} (W : World) (x y z : Value) : Upd b W (((W.setCell ⟨b, 0, none⟩ x).setCell ⟨b, 1, none⟩ y).setCell ⟨b, 2, none⟩ z) :=
  ((Upd.set W 0 x).trans (Upd.set _ 1 y)).trans (Upd.set _ 2 z)

/-- A box of three cells at b that may be written. -/
def Box3 (b : Nat) (x y z : Value) (W : World) : Prop :=
  b < W.heap.size ∧ W.cell? ⟨b, 0, none⟩ = some x ∧ W.cell? ⟨b, 1, none⟩ = some y ∧ W.cell? ⟨b, 2, none⟩ = some z ∧ W.frozen? ⟨b, 0, none⟩ = false ∧ W.frozen? ⟨b, 1, none⟩ = false ∧ W.frozen? ⟨b, 2, none⟩ = false
theorem Box3.upd {b g : Nat} {x y z : Value} {W W' : World} (h : Box3 b x y z W) (hu : Upd g W W') (hne : b ≠ g) : Box3 b x y z W' := by
  obtain ⟨h0, h1, h2, h3, h4, h5, h6⟩ := h
  have hz := hu.size
  exact ⟨by omega, by rw [hu.cell (a := ⟨b, 0, none⟩) h0 hne]; exact h1, by rw [hu.cell (a := ⟨b, 1, none⟩) h0 hne]; exact h2, by rw [hu.cell (a := ⟨b, 2, none⟩) h0 hne]; exact h3, by rw [hu.frozen (a := ⟨b, 0, none⟩) h0 hne]; exact h4, by rw [hu.frozen (a := ⟨b, 1, none⟩) h0 hne]; exact h5, by rw [hu.frozen (a := ⟨b, 2, none⟩) h0 hne]; exact h6⟩
theorem Box3.keep {b : Nat} {x y z : Value} {W W' : World} (h : Box3 b x y z W) (hb : Below W.heap.size W W') : Box3 b x y z W' := h.upd (Upd.ofBelow (g := b + 1) hb) (by omega)
theorem box3 (W : World) (x y z : Value) (t : TypeId) : Box3 W.heap.size x y z (W.alloc (.cells #[x, y, z] t)) := by
  refine ⟨by simp, ?_, ?_, ?_, ?_, ?_, ?_⟩
  · go_simp
  · go_simp
  · go_simp
  · go_simp
  · go_simp
  · go_simp
theorem box3b (w : World) (o : Obj) (x y z : Value) (t : TypeId) : Box3 (w.heap.size + 1) x y z ((w.alloc o).alloc (.cells #[x, y, z] t)) := by
  have := box3 (w.alloc o) x y z t
  simpa using this
theorem alloc_below (W : World) (o : Obj) : Below W.heap.size W (W.alloc o) := (Below.refl _ _).alloc (Nat.le_refl _) o

theorem ucell {g : Nat} {W w1 : World} (h : Upd g W w1) : (∀ b o, b < W.heap.size → b ≠ g → w1.cell? ⟨b, o, none⟩ = W.cell? ⟨b, o, none⟩) ∧ (∀ b o, b < W.heap.size → b ≠ g → w1.frozen? ⟨b, o, none⟩ = W.frozen? ⟨b, o, none⟩) :=
  ⟨fun b o h1 h2 => h.cell (a := ⟨b, o, none⟩) h1 h2, fun b o h1 h2 => h.frozen (a := ⟨b, o, none⟩) h1 h2⟩

end Go.Proofs.Ytddcmibggdighaa
