/- The reader of a code: what lies where, and the contract of (*l10Rd).pick, over the seat's translation. -/
import Derived.Test.YtgjhmpgofmmniaaRows
import Derived.WalkKit
import Derived.WalkSpells
import Derived.WalkLawsBesides
import Derived.Deep.DeepCutAuto
import Derived.Deep.QuietTactic
import Derived.BigQuiet
import Derived.Laws.BitsAllLaws
import Derived.Deep.RegionHeld3
namespace Go.Proofs.Ytgjhmpgofmmniaa
open Go.RowKit

theorem xor64 (a b : Nat) (ha : a < 4611686018427387904) (hb : b < 4611686018427387904) : bits .xor .i64 (a : Int) (b : Int) = ((a ^^^ b : Nat) : Int) := by
  have hx : a ^^^ b < 2 ^ 62 := Nat.xor_lt_two_pow (by omega) (by omega)
  show IntKind.i64.wrap ((BitVec.ofInt 64 (a : Int) ^^^ BitVec.ofInt 64 (b : Int)).toNat : Int) = _
  rw [BitVec.toNat_xor, ofInt_u64 a (by omega), ofInt_u64 b (by omega)]
  simp [IntKind.wrap, IntKind.bits, IntKind.signed]
  omega
theorem xor_any (x : Int) (h0 : 0 ≤ x) (h1 : x < 4611686018427387904) : ∃ v : Int, bits .xor .i64 x (x / 64) = v ∧ 0 ≤ v ∧ v < 4611686018427387904 := by
  obtain ⟨a, rfl⟩ := Int.eq_ofNat_of_zero_le h0
  have e : ((a : Int) / 64) = ((a / 64 : Nat) : Int) := by omega
  refine ⟨_, by rw [e, xor64 a (a / 64) (by omega) (by omega)], by omega, ?_⟩
  have hx : a ^^^ a / 64 < 2 ^ 62 := Nat.xor_lt_two_pow (by omega) (by omega)
  omega

theorem mix_any (y z p q : Int) (hy0 : 0 ≤ y) (hy1 : y ≤ 255) (hz0 : 0 ≤ z) (hz1 : z ≤ 255) (hp0 : 0 ≤ p) (hp1 : p ≤ 1000000) (hq0 : 0 ≤ q) (hq1 : q ≤ 1000000) :
    ∃ X : Int, wrap64 (y * 131 + z * 1117 + p * 29 + wrap64 (wrap64 q * 53)) = X ∧ 0 ≤ X ∧ X < 4611686018427387904 := by
  have key : ∀ S : Int, 0 ≤ S → S ≤ 1000000000 → wrap64 S = S := by intro S h0 h1; unfold wrap64; omega
  refine ⟨y * 131 + z * 1117 + p * 29 + q * 53, ?_, by omega, by omega⟩
  rw [key q hq0 (by omega), key (q * 53) (by omega) (by omega), key _ (by omega) (by omega)]

/-- What lies below block number g in W, and beside it, is in W' as it was; blocks may have come. -/
structure Upd (g : Nat) (W W' : World) : Prop where
  os : W'.os = W.os
  tape : W'.tape = W.tape
  output : W'.output = W.output
  size : W.heap.size ≤ W'.heap.size
  block : ∀ k, k < W.heap.size → k ≠ g → W'.heap[k]? = W.heap[k]?

theorem Upd.ofBelow {g : Nat} {W W' : World} (h : Below W.heap.size W W') : Upd g W W' := ⟨h.os, h.tape, h.output, h.size, fun k hk _ => h.block k hk⟩

set_option maxHeartbeats 1000000 in
theorem pick_none (g p cap : Nat) (a : Option Addr) (n : Int) (w : World) (hb0 : w.cell? ⟨g, 0, none⟩ = some (.slice a 0 cap)) (hb1 : w.cell? ⟨g, 1, none⟩ = some (.int .i64 p)) (hfz : w.frozen? ⟨g, 1, none⟩ = false) (hp : p < 1000000) (h1 : 1 ≤ n) :
    Calls Try.prog 29 #[.pointer (some ⟨g, 0, none⟩), .int .i64 n] w fun e w' => e = .returned (.int .i64 0) ∧ w' = w.setCell ⟨g, 1, none⟩ (.int .i64 (p + 1 : Nat)) := by
  go_enter Try.func29, Try.ntmps29
  go_wp2
  go_ret
  exact ⟨rfl, by rw [Int.natCast_add]; rfl⟩

set_option maxHeartbeats 1000000 in
theorem pick_in (g p len cap cb co : Nat) (z n : Int) (w : World) (hb0 : w.cell? ⟨g, 0, none⟩ = some (.slice (some ⟨cb, co, none⟩) len cap)) (hb1 : w.cell? ⟨g, 1, none⟩ = some (.int .i64 p)) (hfz : w.frozen? ⟨g, 1, none⟩ = false) (hp : p < 1000000) (h1 : 1 ≤ n) (h2 : n ≤ 1000)
    (hne : cb ≠ g) (hl : p < len) (_hlen : len ≤ 2000) (hz : w.cell? ⟨cb, co + p, none⟩ = some (.int .u8 z)) (hz0 : 0 ≤ z) (hz1 : z ≤ 255) :
    Calls Try.prog 29 #[.pointer (some ⟨g, 0, none⟩), .int .i64 n] w fun e w' => e = .returned (.int .i64 (z % n)) ∧ w' = w.setCell ⟨g, 1, none⟩ (.int .i64 (p + 1 : Nat)) := by
  have hl' : (p : Int) < len := by omega
  have hlz : ((len : Int) == 0) = false := beq_eq_false_iff_ne.2 (by omega)
  go_enter Try.func29, Try.ntmps29
  go_wp2
  go_ret
  exact ⟨rfl, by rw [Int.natCast_add]; rfl⟩

set_option maxHeartbeats 2000000 in
theorem pick_out (g p len cap cb co : Nat) (y z n : Int) (w : World) (hb0 : w.cell? ⟨g, 0, none⟩ = some (.slice (some ⟨cb, co, none⟩) len cap)) (hb1 : w.cell? ⟨g, 1, none⟩ = some (.int .i64 p)) (hfz : w.frozen? ⟨g, 1, none⟩ = false) (hp : p < 1000000) (h1 : 1 ≤ n) (h2 : n ≤ 1000)
    (hne : cb ≠ g) (hl : ¬ p < len) (hl0 : 0 < len) (hlen : len ≤ 2000) (hy : w.cell? ⟨cb, co + p % len, none⟩ = some (.int .u8 y)) (hy0 : 0 ≤ y) (hy1 : y ≤ 255) (hz : w.cell? ⟨cb, co + (p * 7 + 3) % len, none⟩ = some (.int .u8 z)) (hz0 : 0 ≤ z) (hz1 : z ≤ 255) :
    Calls Try.prog 29 #[.pointer (some ⟨g, 0, none⟩), .int .i64 n] w fun e w' => ∃ v : Int, e = .returned (.int .i64 v) ∧ 0 ≤ v ∧ v < n ∧ ∃ k, w' = (w.setCell ⟨g, 1, none⟩ (.int .i64 (p + 1 : Nat))).drewN k := by
  have hl' : ¬ (p : Int) < len := by omega
  have hlz : ((len : Int) == 0) = false := beq_eq_false_iff_ne.2 (by omega)
  have i0 : (0 : Int) ≤ (p : Int) % len := Int.emod_nonneg _ (by omega)
  have i1 : (p : Int) % len < len := Int.emod_lt_of_pos _ (by omega)
  have i2 : (0 : Int) ≤ ((p : Int) * 7 + 3) % len := Int.emod_nonneg _ (by omega)
  have i3 : ((p : Int) * 7 + 3) % len < len := Int.emod_lt_of_pos _ (by omega)
  go_enter Try.func29, Try.ntmps29
  go_wp2
  go_quiet (fail)
  go_upto_region 8 with (fail)
  obtain ⟨X, hX, hX0, hX1⟩ := mix_any y z p ((p : Int) / len) hy0 hy1 hz0 hz1 (by omega) (by omega) (Int.ediv_nonneg (by omega) (by omega)) (Int.le_trans (Int.ediv_le_self _ (by omega)) (by omega))
  rw [hX]
  obtain ⟨v, hv, hv0, hv1⟩ := xor_any X hX0 hX1
  have m0 : 0 ≤ v % n := Int.emod_nonneg _ (by omega)
  have m1 : v % n < n := Int.emod_lt_of_pos _ (by omega)
  have HX : Hid (wrap64 (y * 131 + z * 1117 + p * 29 + wrap64 (wrap64 ((p : Int) / len) * 53)) = X) := hX
  clear hX i0 i1 i2 i3 hy hz
  go_wp2
  go_ret
  exact ⟨v % n, rfl, m0, m1, nq, by rw [Int.natCast_add]; rfl⟩

end Go.Proofs.Ytgjhmpgofmmniaa

/- The contracts of pick, num and of over a reader that lies in memory, over the seat's translation. -/
namespace Go.Proofs.Ytgjhmpgofmmniaa
open Go.RowKit

/-- The bytes of a code lie below block number B. -/
def IsCode (B : Nat) (x : Option Addr) (len : Nat) (W : World) : Prop :=
  len = 0 ∨ ∃ cb co, x = some ⟨cb, co, none⟩ ∧ cb < B ∧ ∀ i, i < len → ∃ z : Int, W.cell? ⟨cb, co + i, none⟩ = some (.int .u8 z) ∧ 0 ≤ z ∧ z ≤ 255

/-- A reader lies at g, p places on; B: the blocks that were there before. -/
def Rd (B g p : Nat) (W : World) : Prop :=
  B ≤ g ∧ g < W.heap.size ∧ ∃ x len cap, len ≤ 2000 ∧ W.cell? ⟨g, 0, none⟩ = some (.slice x len cap) ∧ W.cell? ⟨g, 1, none⟩ = some (.int .i64 p) ∧ W.frozen? ⟨g, 1, none⟩ = false ∧ IsCode B x len W

theorem Upd.cell {g : Nat} {W W' : World} (h : Upd g W W') {a : Addr} (h1 : a.block < W.heap.size) (h2 : a.block ≠ g) : W'.cell? a = W.cell? a := World.cell?_of_block (w := W) (h.block a.block h1 h2)
theorem Upd.frozen {g : Nat} {W W' : World} (h : Upd g W W') {a : Addr} (h1 : a.block < W.heap.size) (h2 : a.block ≠ g) : W'.frozen? a = W.frozen? a := World.frozen?_of_block (w := W) (h.block a.block h1 h2)
theorem Upd.refl (g : Nat) (W : World) : Upd g W W := ⟨rfl, rfl, rfl, Nat.le_refl _, fun _ _ _ => rfl⟩
theorem Upd.trans {g : Nat} {W W' W'' : World} (h : Upd g W W') (k : Upd g W' W'') : Upd g W W'' :=
  ⟨k.os.trans h.os, k.tape.trans h.tape, k.output.trans h.output, Nat.le_trans h.size k.size, fun b hb hg => (k.block b (Nat.lt_of_lt_of_le hb h.size) hg).trans (h.block b hb hg)⟩
theorem Upd.below {g B : Nat} {W W' : World} (h : Upd g W W') (hB : B ≤ g) (hs : B ≤ W.heap.size) : Below B W W' := ⟨h.os, h.tape, h.output, h.size, fun k hk => h.block k (by omega) (by omega)⟩
theorem Upd.set {g : Nat} (W : World) (o : Nat) (v : Value) : Upd g W (W.setCell ⟨g, o, none⟩ v) := by
  have b : Below g W (W.setCell ⟨g, o, none⟩ v) := (Below.refl g W).setCell (p := ⟨g, o, none⟩) (Nat.le_refl _) v
  exact ⟨b.os, b.tape, b.output, b.size, fun k _ hg => Below.heap_setCell W ⟨g, o, none⟩ v k hg⟩
theorem Upd.drewN {g : Nat} {W W' : World} (h : Upd g W W') (k : Nat) : Upd g W (W'.drewN k) := h.trans (Upd.ofBelow ((Below.refl _ _).trans ⟨rfl, rfl, rfl, Nat.le_refl _, fun _ _ => rfl⟩))

theorem IsCode.keep {B : Nat} {x : Option Addr} {len : Nat} {W W' : World} (h : IsCode B x len W) (hb : Below B W W') : IsCode B x len W' := by
  rcases h with h | ⟨cb, co, hx, hlt, hc⟩
  · exact Or.inl h
  · refine Or.inr ⟨cb, co, hx, hlt, fun i hi => ?_⟩
    obtain ⟨z, h1, h2, h3⟩ := hc i hi
    exact ⟨z, by rw [hb.cell (p := ⟨cb, co + i, none⟩) hlt]; exact h1, h2, h3⟩

theorem Rd.keep {B g p : Nat} {W W' : World} (h : Rd B g p W) (hb : Below W.heap.size W W') : Rd B g p W' := by
  obtain ⟨h1, h2, x, len, cap, h3, h4, h5, h6, h7⟩ := h
  have hz := hb.size
  exact ⟨h1, by omega, x, len, cap, h3, by rw [hb.cell (p := ⟨g, 0, none⟩) h2]; exact h4, by rw [hb.cell (p := ⟨g, 1, none⟩) h2]; exact h5, by rw [hb.frozen (p := ⟨g, 1, none⟩) h2]; exact h6, h7.keep (hb.mono (by omega))⟩

theorem Rd.step {B g p : Nat} {W : World} (h : Rd B g p W) (k : Nat) : Rd B g (p + 1) ((W.setCell ⟨g, 1, none⟩ (.int .i64 (p + 1 : Nat))).drewN k) := by
  obtain ⟨h1, h2, x, len, cap, h3, h4, h5, h6, h7⟩ := h
  have hu := (Upd.set (g := g) W 1 (.int .i64 (p + 1 : Nat))).drewN k
  refine ⟨h1, by have := hu.size; omega, x, len, cap, h3, ?_, ?_, ?_, h7.keep (hu.below h1 (by omega))⟩
  · go_simp
  · go_simp
  · go_simp

theorem pick_any (B g p : Nat) (n : Int) (w : World) (h : Rd B g p w) (hp : p < 1000000) (h1 : 1 ≤ n) (h2 : n ≤ 1000) :
    Calls Try.prog 29 #[.pointer (some ⟨g, 0, none⟩), .int .i64 n] w fun e w' => ∃ v : Nat, e = .returned (.int .i64 v) ∧ (v : Int) < n ∧ Rd B g (p + 1) w' ∧ Upd g w w' := by
  have hr := h
  obtain ⟨hB, hg, x, len, cap, hlen, hc0, hc1, hf, hcode⟩ := h
  by_cases hl : len = 0
  · subst hl
    refine (pick_none g p cap x n w hc0 hc1 hf hp h1).mono ?_
    rintro e w' ⟨rfl, rfl⟩
    exact ⟨0, rfl, by omega, hr.step 0, (Upd.set w 1 _).drewN 0⟩
  · rcases hcode with h0 | ⟨cb, co, rfl, hlt, hcell⟩
    · exact absurd h0 hl
    · by_cases hin : p < len
      · obtain ⟨z, hz, hz0, hz1⟩ := hcell p hin
        refine (pick_in g p len cap cb co z n w hc0 hc1 hf hp h1 h2 (by omega) hin hlen hz hz0 hz1).mono ?_
        rintro e w' ⟨rfl, rfl⟩
        have m0 : 0 ≤ z % n := Int.emod_nonneg _ (by omega)
        have m1 : z % n < n := Int.emod_lt_of_pos _ (by omega)
        obtain ⟨v, hv⟩ := Int.eq_ofNat_of_zero_le m0
        exact ⟨v, by rw [hv], by omega, hr.step 0, (Upd.set w 1 _).drewN 0⟩
      · obtain ⟨y, hy, hy0, hy1⟩ := hcell (p % len) (Nat.mod_lt _ (by omega))
        obtain ⟨z, hz, hz0, hz1⟩ := hcell ((p * 7 + 3) % len) (Nat.mod_lt _ (by omega))
        refine (pick_out g p len cap cb co y z n w hc0 hc1 hf hp h1 h2 (by omega) hin (by omega) hlen hy hy0 hy1 hz hz0 hz1).mono ?_
        rintro e w' ⟨v, rfl, v0, v1, k, rfl⟩
        obtain ⟨m, rfl⟩ := Int.eq_ofNat_of_zero_le v0
        exact ⟨m, rfl, v1, hr.step k, (Upd.set w 1 _).drewN k⟩

set_option maxHeartbeats 400000 in
theorem num_of_any (B g p h : Nat) (zs : List Int) (w : World) (hr : Rd B g p w) (hp : p < 1000000) (hne : h ≠ g) (hlt : h < w.heap.size) (h1 : 0 < zs.length) (h2 : zs.length ≤ 1000) (hc : ∀ i, i < zs.length → w.cell? ⟨h, i, none⟩ = some (.int .i64 (zs.getD i 0))) :
    Calls Try.prog 42 #[.pointer (some ⟨g, 0, none⟩), .slice (some ⟨h, 0, none⟩) zs.length zs.length] w fun e w' => ∃ v : Int, e = .returned (.int .i64 v) ∧ v ∈ zs ∧ Rd B g (p + 1) w' ∧ Upd g w w' := by
  have Hr : Hid _ := hr
  have Hc : Hid _ := hc
  clear hr hc
  go_enter Try.func42, Try.ntmps42
  go_wp2_with fail
  refine (pick_any B g p _ _ Hr.out hp (by omega) (by omega)).mono ?_
  rintro e w1 ⟨v, rfl, hv, hr1, hu⟩
  have hv' : v < zs.length := by omega
  have hcv : w1.cell? ⟨h, v, none⟩ = some (.int .i64 (zs.getD v 0)) := by rw [hu.cell (a := ⟨h, v, none⟩) hlt hne]; exact Hc.out v hv'
  have Hr1 : Hid _ := hr1
  have Hu : Hid _ := hu
  clear hr1 hu
  go_wp2_with fail
  go_ret
  exact ⟨zs[v], rfl, List.getElem_mem _, Hr1.out, Hu.out⟩

set_option maxHeartbeats 400000 in
theorem of_of_any (B g p h : Nat) (ss : List ByteArray) (w : World) (hr : Rd B g p w) (hp : p < 1000000) (hne : h ≠ g) (hlt : h < w.heap.size) (h1 : 0 < ss.length) (h2 : ss.length ≤ 1000) (hc : ∀ i, i < ss.length → w.cell? ⟨h, i, none⟩ = some (.string (ss.getD i ByteArray.empty))) :
    Calls Try.prog 53 #[.pointer (some ⟨g, 0, none⟩), .slice (some ⟨h, 0, none⟩) ss.length ss.length] w fun e w' => ∃ s : ByteArray, e = .returned (.string s) ∧ s ∈ ss ∧ Rd B g (p + 1) w' ∧ Upd g w w' := by
  have Hr : Hid _ := hr
  have Hc : Hid _ := hc
  clear hr hc
  go_enter Try.func53, Try.ntmps53
  go_wp2_with fail
  refine (pick_any B g p _ _ Hr.out hp (by omega) (by omega)).mono ?_
  rintro e w1 ⟨v, rfl, hv, hr1, hu⟩
  have hv' : v < ss.length := by omega
  have hcv : w1.cell? ⟨h, v, none⟩ = some (.string (ss.getD v ByteArray.empty)) := by rw [hu.cell (a := ⟨h, v, none⟩) hlt hne]; exact Hc.out v hv'
  have Hr1 : Hid _ := hr1
  have Hu : Hid _ := hu
  clear hr1 hu
  go_wp2_with fail
  go_ret
  exact ⟨ss[v], rfl, List.getElem_mem _, Hr1.out, Hu.out⟩

theorem Rd.other {B g p b : Nat} {W W' : World} (h : Rd B g p W) (hu : Upd b W W') (hne : b ≠ g) (hB : B ≤ b) : Rd B g p W' := by
  obtain ⟨h1, h2, x, len, cap, h3, h4, h5, h6, h7⟩ := h
  have hz := hu.size
  exact ⟨h1, by omega, x, len, cap, h3, by rw [hu.cell (a := ⟨g, 0, none⟩) h2 (Ne.symm hne)]; exact h4, by rw [hu.cell (a := ⟨g, 1, none⟩) h2 (Ne.symm hne)]; exact h5, by rw [hu.frozen (a := ⟨g, 1, none⟩) h2 (Ne.symm hne)]; exact h6, h7.keep (hu.below hB (by omega))⟩
theorem Upd.other {g b : Nat} {w W W' : World} (h : Upd g w W) (hu : Upd b W W') (hb : w.heap.size ≤ b) : Upd g w W' :=
  ⟨hu.os.trans h.os, hu.tape.trans h.tape, hu.output.trans h.output, Nat.le_trans h.size hu.size, fun k hk hg => (hu.block k (Nat.lt_of_lt_of_le hk h.size) (by omega)).trans (h.block k hk hg)⟩
theorem Upd.set3 {b : Nat} (W : World) (x y z : Value) : Upd b W (((W.setCell ⟨b, 0, none⟩ x).setCell ⟨b, 1, none⟩ y).setCell ⟨b, 2, none⟩ z) :=
  ((Upd.set W 0 x).trans (Upd.set _ 1 y)).trans (Upd.set _ 2 z)

/-- A box of three cells at b that may be written. -/
def Box3 (b : Nat) (x y z : Value) (W : World) : Prop :=
  b < W.heap.size ∧ W.cell? ⟨b, 0, none⟩ = some x ∧ W.cell? ⟨b, 1, none⟩ = some y ∧ W.cell? ⟨b, 2, none⟩ = some z ∧ W.frozen? ⟨b, 0, none⟩ = false ∧ W.frozen? ⟨b, 1, none⟩ = false ∧ W.frozen? ⟨b, 2, none⟩ = false
theorem Box3.upd {b g : Nat} {x y z : Value} {W W' : World} (h : Box3 b x y z W) (hu : Upd g W W') (hne : b ≠ g) : Box3 b x y z W' := by
  obtain ⟨h0, h1, h2, h3, h4, h5, h6⟩ := h
  have hz := hu.size
  exact ⟨by omega, by rw [hu.cell (a := ⟨b, 0, none⟩) h0 hne]; exact h1, by rw [hu.cell (a := ⟨b, 1, none⟩) h0 hne]; exact h2, by rw [hu.cell (a := ⟨b, 2, none⟩) h0 hne]; exact h3, by rw [hu.frozen (a := ⟨b, 0, none⟩) h0 hne]; exact h4, by rw [hu.frozen (a := ⟨b, 1, none⟩) h0 hne]; exact h5, by rw [hu.frozen (a := ⟨b, 2, none⟩) h0 hne]; exact h6⟩
theorem Box3.keep {b : Nat} {x y z : Value} {W W' : World} (h : Box3 b x y z W) (hb : Below W.heap.size W W') : Box3 b x y z W' := h.upd (Upd.ofBelow (g := b + 1) hb) (by omega)
theorem box3 (W : World) (x y z : Value) (t : TypeId) : Box3 W.heap.size x y z (W.alloc (.cells #[x, y, z] t)) := by
  refine ⟨by simp, ?_, ?_, ?_, ?_, ?_, ?_⟩
  · go_simp
  · go_simp
  · go_simp
  · go_simp
  · go_simp
  · go_simp
theorem box3b (w : World) (o : Obj) (x y z : Value) (t : TypeId) : Box3 (w.heap.size + 1) x y z ((w.alloc o).alloc (.cells #[x, y, z] t)) := by
  have := box3 (w.alloc o) x y z t
  simpa using this
theorem alloc_below (W : World) (o : Obj) : Below W.heap.size W (W.alloc o) := (Below.refl _ _).alloc (Nat.le_refl _) o

theorem ucell {g : Nat} {W w1 : World} (h : Upd g W w1) : (∀ b o, b < W.heap.size → b ≠ g → w1.cell? ⟨b, o, none⟩ = W.cell? ⟨b, o, none⟩) ∧ (∀ b o, b < W.heap.size → b ≠ g → w1.frozen? ⟨b, o, none⟩ = W.frozen? ⟨b, o, none⟩) :=
  ⟨fun b o h1 h2 => h.cell (a := ⟨b, o, none⟩) h1 h2, fun b o h1 h2 => h.frozen (a := ⟨b, o, none⟩) h1 h2⟩

end Go.Proofs.Ytgjhmpgofmmniaa

/- The contracts of the draws of a value, over the seat's translation. -/
namespace Go.Proofs.Ytgjhmpgofmmniaa
open Go.RowKit

def ints8 : List Int := [0, 1, 2, 3, -1, 7, 999, -999]
def strs9 : List ByteArray := [⟨#[]⟩, ⟨#[97]⟩, ⟨#[98]⟩, ⟨#[97, 98]⟩, ⟨#[49, 50]⟩, ⟨#[45, 53]⟩, ⟨#[48, 48, 55]⟩, ⟨#[122, 122, 122, 122]⟩, ⟨#[51]⟩]
theorem strs9_le (s : ByteArray) (h : s ∈ strs9) : s.size ≤ 5 := by
  have : ∀ x ∈ strs9, x.size ≤ 5 := by decide
  exact this s h
theorem row_ints (w : World) (zs : List Int) (t : TypeId) : ∀ i, i < zs.length → (w.alloc (.cells (zs.map (Value.int .i64)).toArray t)).cell? ⟨w.heap.size, i, none⟩ = some (.int .i64 (zs.getD i 0)) := by
  intro i hi
  rw [World.cell?_alloc_mark w _ t (0, 0) i]
  simp [List.getD, hi]
theorem row_strs (w : World) (ss : List ByteArray) (t : TypeId) : ∀ i, i < ss.length → (w.alloc (.cells (ss.map Value.string).toArray t)).cell? ⟨w.heap.size, i, none⟩ = some (.string (ss.getD i ByteArray.empty)) := by
  intro i hi
  rw [World.cell?_alloc_mark w _ t (0, 0) i]
  simp [List.getD, hi]

set_option maxHeartbeats 1000000 in
theorem l1_some (B g p : Nat) (kind : Int) (w : World) (hr : Rd B g p w) (hp : p < 900000) :
    Calls Try.prog 34 #[.pointer (some ⟨g, 0, none⟩), .int .i64 kind] w fun e w' => ∃ (k n : Int) (s : ByteArray) (q : Nat), e = .returned (.agg #[.int .i64 k, .int .i64 n, .string s]) ∧ s.size ≤ 5 ∧ q ≤ p + 2 ∧ Rd B g q w' ∧ Upd g w w' := by
  have hg : g < w.heap.size := hr.2.1
  have hne : w.heap.size ≠ g := by omega
  have hne1 : w.heap.size + 1 ≠ g := by omega
  have hBw : B ≤ w.heap.size := by have := hr.1; omega
  have Hr : Hid (Rd B g p (w.alloc (.cells #[.int .i64 0, .int .i64 0, .string ⟨#[]⟩] 27))) := hr.keep ((Below.refl _ _).alloc (Nat.le_refl _) _)
  have Hu0 : Hid (Upd g w (w.alloc (.cells #[.int .i64 0, .int .i64 0, .string ⟨#[]⟩] 27))) := Upd.ofBelow ((Below.refl _ _).alloc (Nat.le_refl _) _)
  clear hr
  go_enter Try.func34, Try.ntmps34
  go_wp2_with fail
  refine (pick_any B g p _ _ Hr.out (by omega) (by omega) (by omega)).mono ?_
  rintro e w1 ⟨v, rfl, hv, hr1, hu⟩
  have hz : w.heap.size < w1.heap.size := by have := hu.size; simp at this; omega
  have hz' : w.heap.size < w1.heap.size + 1 := by omega
  have HX : Hid (Box3 w.heap.size (.int .i64 0) (.int .i64 0) (.string ⟨#[]⟩) w1) := (box3 w _ _ _ 27).upd hu hne
  obtain ⟨_, c0, c1, c2, f0, f1, f2⟩ := HX.out
  have Hr1 : Hid (Rd B g (p + 1) w1) := hr1
  have Hu : Hid (Upd g w w1) := Hu0.out.trans hu
  clear hr1 hu
  cases hv0 : ((v : Int) == 0)
  · cases hk0 : (kind == 0)
    · cases hk1 : (kind == 1)
      · go_wp2_with fail
        refine (of_of_any B g (p + 1) w1.heap.size strs9 _ (Hr1.out.keep ((Below.refl _ _).alloc (Nat.le_refl _) _)) (by omega) (by omega) (by simp) (by decide) (by decide) (row_strs w1 strs9 9)).mono ?_
        rintro e w2 ⟨s, rfl, hs, hr2, hu2⟩
        have hzs : s.size ≤ 5 := strs9_le s hs
        obtain ⟨_, d0, d1, d2, e0, e1, e2⟩ := (HX.out.keep (alloc_below _ _)).upd hu2 hne
        clear c0 c1 c2 f0 f1 f2
        have Hu2 : Hid (Upd g w w2) := (Hu.out.trans (Upd.ofBelow ((Below.refl _ _).alloc (Nat.le_refl _) _))).trans hu2
        have Hr2 : Hid (Rd B g (p + 1 + 1) w2) := hr2
        clear hu2 hr2 hs
        go_wp2_with fail
        exact bodyPost_ret (v := .agg #[.int .i64 kind, .int .i64 0, .string s]) (by simp [results, Try.results34, go_sem, d0, d1, d2]) rfl ⟨_, _, _, p + 1 + 1, rfl, hzs, by omega, Hr2.out.other (Upd.set3 _ _ _ _) hne hBw, Hu2.out.other (Upd.set3 _ _ _ _) (Nat.le_refl _)⟩
      · go_wp2_with fail
        refine (num_of_any B g (p + 1) w1.heap.size ints8 _ (Hr1.out.keep ((Below.refl _ _).alloc (Nat.le_refl _) _)) (by omega) (by omega) (by simp) (by decide) (by decide) (row_ints w1 ints8 3)).mono ?_
        rintro e w2 ⟨n, rfl, _, hr2, hu2⟩
        obtain ⟨_, d0, d1, d2, e0, e1, e2⟩ := (HX.out.keep (alloc_below _ _)).upd hu2 hne
        clear c0 c1 c2 f0 f1 f2
        have Hu2 : Hid (Upd g w w2) := (Hu.out.trans (Upd.ofBelow ((Below.refl _ _).alloc (Nat.le_refl _) _))).trans hu2
        have Hr2 : Hid (Rd B g (p + 1 + 1) w2) := hr2
        clear hu2 hr2
        go_wp2_with fail
        exact bodyPost_ret (v := .agg #[.int .i64 kind, .int .i64 n, .string ⟨#[]⟩]) (by simp [results, Try.results34, go_sem, d0, d1, d2]) rfl ⟨_, _, _, p + 1 + 1, rfl, by decide, by omega, Hr2.out.other (Upd.set3 _ _ _ _) hne hBw, Hu2.out.other (Upd.set3 _ _ _ _) (Nat.le_refl _)⟩
    · go_wp2_with fail
      exact bodyPost_ret (v := .agg #[.int .i64 0, .int .i64 0, .string ⟨#[]⟩]) (by simp [results, Try.results34, go_sem, c0, c1, c2]) rfl ⟨_, _, _, p + 1, rfl, by decide, by omega, Hr1.out.other (Upd.set3 _ _ _ _) hne hBw, Hu.out.other (Upd.set3 _ _ _ _) (Nat.le_refl _)⟩
  · go_wp2_with fail
    exact bodyPost_ret (v := .agg #[.int .i64 0, .int .i64 0, .string ⟨#[]⟩]) (by simp [results, Try.results34, go_sem, c0, c1, c2]) rfl ⟨_, _, _, p + 1, rfl, by decide, by omega, Hr1.out.other (Upd.set3 _ _ _ _) hne hBw, Hu.out.other (Upd.set3 _ _ _ _) (Nat.le_refl _)⟩

def ints5 : List Int := [0, 3, -1, 1, 2]
def ints4 : List Int := [1000, -1000, 5, 9223372036854775807]
def strs4 : List ByteArray := [⟨#[97, 98, 99, 100, 101]⟩, ⟨#[65]⟩, ⟨#[113]⟩, ⟨#[39]⟩]
theorem strs4_le (s : ByteArray) (h : s ∈ strs4) : s.size ≤ 5 := by
  have : ∀ x ∈ strs4, x.size ≤ 5 := by decide
  exact this s h

set_option maxHeartbeats 2000000 in
theorem l1_bent (B g p : Nat) (k n : Int) (s : ByteArray) (w : World) (hr : Rd B g p w) (hp : p < 900000) (hs : s.size ≤ 5) :
    Calls Try.prog 60 #[.pointer (some ⟨g, 0, none⟩), .agg #[.int .i64 k, .int .i64 n, .string s]] w fun e w' => ∃ (k n : Int) (s : ByteArray) (q : Nat), e = .returned (.agg #[.int .i64 k, .int .i64 n, .string s]) ∧ s.size ≤ 5 ∧ q ≤ p + 2 ∧ Rd B g q w' ∧ Upd g w w' := by
  have hg : g < w.heap.size := hr.2.1
  have hne : w.heap.size ≠ g := by omega
  have hne1 : w.heap.size + 1 ≠ g := by omega
  have hBw : B ≤ w.heap.size := by have := hr.1; omega
  have b1 := alloc_below w (.cells #[.int .i64 k, .int .i64 n, .string s] 27)
  have b2 := alloc_below (w.alloc (.cells #[.int .i64 k, .int .i64 n, .string s] 27)) (.cells #[.int .i64 0, .int .i64 0, .string ⟨#[]⟩] 27)
  have Hr : Hid (Rd B g p ((w.alloc (.cells #[.int .i64 k, .int .i64 n, .string s] 27)).alloc (.cells #[.int .i64 0, .int .i64 0, .string ⟨#[]⟩] 27))) := (hr.keep b1).keep b2
  have Hu0 : Hid (Upd g w ((w.alloc (.cells #[.int .i64 k, .int .i64 n, .string s] 27)).alloc (.cells #[.int .i64 0, .int .i64 0, .string ⟨#[]⟩] 27))) := (Upd.ofBelow b1).trans (Upd.ofBelow b2)
  have HA : Hid (Box3 w.heap.size (.int .i64 k) (.int .i64 n) (.string s) ((w.alloc (.cells #[.int .i64 k, .int .i64 n, .string s] 27)).alloc (.cells #[.int .i64 0, .int .i64 0, .string ⟨#[]⟩] 27))) := (box3 w _ _ _ _).keep b2
  have HB : Hid (Box3 (w.heap.size + 1) (.int .i64 0) (.int .i64 0) (.string ⟨#[]⟩) ((w.alloc (.cells #[.int .i64 k, .int .i64 n, .string s] 27)).alloc (.cells #[.int .i64 0, .int .i64 0, .string ⟨#[]⟩] 27))) := box3b w _ _ _ _ _
  clear hr b1 b2
  go_enter Try.func60, Try.ntmps60
  go_wp2_with fail
  refine (pick_any B g p _ _ Hr.out (by omega) (by omega) (by omega)).mono ?_
  rintro e w1 ⟨v, rfl, hv, hr1, hu⟩
  have hz : w.heap.size + 1 < w1.heap.size := by have := hu.size; simp at this; omega
  have HA1 : Hid (Box3 w.heap.size (.int .i64 k) (.int .i64 n) (.string s) w1) := HA.out.upd hu hne
  have HB1 : Hid (Box3 (w.heap.size + 1) (.int .i64 0) (.int .i64 0) (.string ⟨#[]⟩) w1) := HB.out.upd hu hne1
  have Hr1 : Hid (Rd B g (p + 1) w1) := hr1
  have Hu1 : Hid (Upd g w w1) := Hu0.out.trans hu
  clear hr1 hu HA HB Hr Hu0
  cases hv0 : ((v : Int) == 0)
  · cases hv1 : ((v : Int) == 1)
    · cases hv2 : ((v : Int) == 2)
      · obtain ⟨_, a0, a1, a2, _, _, _⟩ := HA1.out
        obtain ⟨_, c0, c1, c2, f0, f1, f2⟩ := HB1.out
        go_wp2_with fail
        exact bodyPost_ret (v := .agg #[.int .i64 k, .int .i64 n, .string s]) (by simp [results, Try.results60, go_sem, c0, c1, c2]) rfl ⟨_, _, _, p + 1, rfl, hs, by omega, Hr1.out.other (Upd.set3 _ _ _ _) hne1 (by omega), Hu1.out.other (Upd.set3 _ _ _ _) (by omega)⟩
      · go_wp2_with fail
        refine (of_of_any B g (p + 1) w1.heap.size strs4 _ (Hr1.out.keep (alloc_below _ _)) (by omega) (by omega) (by simp) (by decide) (by decide) (row_strs w1 strs4 9)).mono ?_
        rintro e w2 ⟨s', rfl, hs', hr2, hu2⟩
        have hzs : s'.size ≤ 5 := strs4_le s' hs'
        obtain ⟨_, a0, a1, a2, x0, x1, x2⟩ := (HA1.out.keep (alloc_below _ _)).upd hu2 hne
        obtain ⟨_, c0, c1, c2, f0, f1, f2⟩ := (HB1.out.keep (alloc_below _ _)).upd hu2 hne1
        have Hu2 : Hid (Upd g w w2) := (Hu1.out.trans (Upd.ofBelow (alloc_below _ _))).trans hu2
        have Hr2 : Hid (Rd B g (p + 1 + 1) w2) := hr2
        clear hu2 hr2 hs'
        go_wp2_with fail
        exact bodyPost_ret (v := .agg #[.int .i64 k, .int .i64 n, .string s']) (by simp [results, Try.results60, go_sem, c0, c1, c2]) rfl ⟨_, _, _, p + 1 + 1, rfl, hzs, by omega, (Hr2.out.other (Upd.set _ _ _) hne (by omega)).other (Upd.set3 _ _ _ _) hne1 (by omega), (Hu2.out.other (Upd.set _ _ _) (by omega)).other (Upd.set3 _ _ _ _) (by omega)⟩
    · go_wp2_with fail
      refine (num_of_any B g (p + 1) w1.heap.size ints4 _ (Hr1.out.keep (alloc_below _ _)) (by omega) (by omega) (by simp) (by decide) (by decide) (row_ints w1 ints4 3)).mono ?_
      rintro e w2 ⟨m, rfl, _, hr2, hu2⟩
      obtain ⟨_, a0, a1, a2, x0, x1, x2⟩ := (HA1.out.keep (alloc_below _ _)).upd hu2 hne
      obtain ⟨_, c0, c1, c2, f0, f1, f2⟩ := (HB1.out.keep (alloc_below _ _)).upd hu2 hne1
      have Hu2 : Hid (Upd g w w2) := (Hu1.out.trans (Upd.ofBelow (alloc_below _ _))).trans hu2
      have Hr2 : Hid (Rd B g (p + 1 + 1) w2) := hr2
      clear hu2 hr2
      go_wp2_with fail
      exact bodyPost_ret (v := .agg #[.int .i64 k, .int .i64 m, .string s]) (by simp [results, Try.results60, go_sem, c0, c1, c2]) rfl ⟨_, _, _, p + 1 + 1, rfl, hs, by omega, (Hr2.out.other (Upd.set _ _ _) hne (by omega)).other (Upd.set3 _ _ _ _) hne1 (by omega), (Hu2.out.other (Upd.set _ _ _) (by omega)).other (Upd.set3 _ _ _ _) (by omega)⟩
  · go_wp2_with fail
    refine (num_of_any B g (p + 1) w1.heap.size ints5 _ (Hr1.out.keep (alloc_below _ _)) (by omega) (by omega) (by simp) (by decide) (by decide) (row_ints w1 ints5 3)).mono ?_
    rintro e w2 ⟨m, rfl, _, hr2, hu2⟩
    obtain ⟨_, a0, a1, a2, x0, x1, x2⟩ := (HA1.out.keep (alloc_below _ _)).upd hu2 hne
    obtain ⟨_, c0, c1, c2, f0, f1, f2⟩ := (HB1.out.keep (alloc_below _ _)).upd hu2 hne1
    have Hu2 : Hid (Upd g w w2) := (Hu1.out.trans (Upd.ofBelow (alloc_below _ _))).trans hu2
    have Hr2 : Hid (Rd B g (p + 1 + 1) w2) := hr2
    clear hu2 hr2
    go_wp2_with fail
    exact bodyPost_ret (v := .agg #[.int .i64 m, .int .i64 n, .string s]) (by simp [results, Try.results60, go_sem, c0, c1, c2]) rfl ⟨_, _, _, p + 1 + 1, rfl, hs, by omega, (Hr2.out.other (Upd.set _ _ _) hne (by omega)).other (Upd.set3 _ _ _ _) hne1 (by omega), (Hu2.out.other (Upd.set _ _ _) (by omega)).other (Upd.set3 _ _ _ _) (by omega)⟩

end Go.Proofs.Ytgjhmpgofmmniaa

/- The contracts of l10Open and l1Draw, over the seat's translation. -/
namespace Go.Proofs.Ytgjhmpgofmmniaa
open Go.RowKit

theorem IsCode.less {B : Nat} {x : Option Addr} {len l : Nat} {W : World} (h : IsCode B x len W) (hl : l ≤ len) : IsCode B x l W := by
  rcases h with h | ⟨cb, co, hx, hlt, hc⟩
  · exact Or.inl (by omega)
  · exact Or.inr ⟨cb, co, hx, hlt, fun i hi => hc i (by omega)⟩

theorem rd_new (w : World) (B : Nat) (x : Option Addr) (len cap : Nat) (t : TypeId) (hB : B ≤ w.heap.size) (hl : len ≤ 2000) (hc : IsCode B x len w) : Rd B w.heap.size 0 (w.alloc (.cells #[.slice x len cap, .int .i64 0] t)) := by
  refine ⟨hB, by simp, x, len, cap, hl, ?_, ?_, ?_, hc.keep ((alloc_below w _).mono hB)⟩
  · go_simp
  · go_simp
  · go_simp

set_option maxHeartbeats 400000 in
theorem l10_open (B g : Nat) (x : Option Addr) (len cap : Nat) (w : World) (hgw : w.heap.size = g) (hB : B ≤ w.heap.size) (hlc : len ≤ cap) (hcap : cap ≤ maxLen) (hc : IsCode B x len w) :
    Calls Try.prog 27 #[.slice x len cap] w fun e w' => e = .returned (.pointer (some ⟨g, 0, none⟩)) ∧ Rd B g 0 w' ∧ Below w.heap.size w w' := by
  subst hgw
  unfold maxLen at hcap
  by_cases h : (2000 : Int) < len
  · have hx : ∃ cb co, x = some ⟨cb, co, none⟩ := by
      rcases hc with h0 | ⟨cb, co, hx, _⟩
      · omega
      · exact ⟨cb, co, hx⟩
    obtain ⟨cb, co, rfl⟩ := hx
    have Hc : Hid (IsCode B (some ⟨cb, co, none⟩) 2000 w) := hc.less (by omega)
    clear hc
    go_enter Try.func27, Try.ntmps27
    go_wp2
    go_ret
    exact ⟨rfl, rd_new w B _ _ _ _ hB (by omega) Hc.out, alloc_below _ _⟩
  · have Hc : Hid (IsCode B x len w) := hc
    clear hc
    go_enter Try.func27, Try.ntmps27
    go_wp2
    go_ret
    exact ⟨rfl, rd_new w B _ _ _ _ hB (by omega) Hc.out, alloc_below _ _⟩

set_option maxHeartbeats 1000000 in
theorem l1_draw (B g p : Nat) (w : World) (hr : Rd B g p w) (hp : p < 800000) :
    Calls Try.prog 43 #[.pointer (some ⟨g, 0, none⟩)] w fun e w' => ∃ (k n : Int) (s : ByteArray) (q : Nat), e = .returned (.agg #[.int .i64 k, .int .i64 n, .string s]) ∧ s.size ≤ 5 ∧ q ≤ p + 5 ∧ Rd B g q w' ∧ Upd g w w' := by
  have hg : g < w.heap.size := hr.2.1
  have hne : w.heap.size ≠ g := by omega
  have hBw : B ≤ w.heap.size := by have := hr.1; omega
  have b1 := alloc_below w (.cells #[.int .i64 0, .int .i64 0, .string ⟨#[]⟩] 27)
  have Hr : Hid (Rd B g p (w.alloc (.cells #[.int .i64 0, .int .i64 0, .string ⟨#[]⟩] 27))) := hr.keep b1
  have Hu0 : Hid (Upd g w (w.alloc (.cells #[.int .i64 0, .int .i64 0, .string ⟨#[]⟩] 27))) := Upd.ofBelow b1
  clear hr b1
  go_enter Try.func43, Try.ntmps43
  go_wp2_with fail
  refine (pick_any B g p _ _ Hr.out (by omega) (by omega) (by omega)).mono ?_
  rintro e w1 ⟨v, rfl, hv, hr1, hu1⟩
  have HX1 : Hid (Box3 w.heap.size (.int .i64 0) (.int .i64 0) (.string ⟨#[]⟩) w1) := (box3 w _ _ _ 27).upd hu1 hne
  have Hr1 : Hid (Rd B g (p + 1) w1) := hr1
  have Hu1 : Hid (Upd g w w1) := Hu0.out.trans hu1
  clear hr1 hu1 Hr Hu0
  go_wp2_with fail
  refine (l1_some B g (p + 1) _ _ Hr1.out (by omega)).mono ?_
  rintro e w2 ⟨k, n, s, q, rfl, hs, hq, hr2, hu2⟩
  have HX2 : Hid (Box3 w.heap.size (.int .i64 0) (.int .i64 0) (.string ⟨#[]⟩) w2) := HX1.out.upd hu2 hne
  have Hr2 : Hid (Rd B g q w2) := hr2
  have Hu2 : Hid (Upd g w w2) := Hu1.out.trans hu2
  clear hr2 hu2 Hr1 Hu1 HX1
  go_wp2_with fail
  refine (l1_bent B g q _ _ _ _ Hr2.out (by omega) hs).mono ?_
  rintro e w3 ⟨k', n', s', q', rfl, hs', hq', hr3, hu3⟩
  obtain ⟨_, c0, c1, c2, f0, f1, f2⟩ := HX2.out.upd hu3 hne
  have Hr3 : Hid (Rd B g q' w3) := hr3
  have Hu3 : Hid (Upd g w w3) := Hu2.out.trans hu3
  clear hr3 hu3 Hr2 Hu2 HX2
  go_wp2_with fail
  exact bodyPost_ret (v := .agg #[.int .i64 k', .int .i64 n', .string s']) (by simp [results, Try.results43, go_sem, c0, c1, c2]) rfl ⟨_, _, _, q', rfl, hs', by omega, Hr3.out.other (Upd.set3 _ _ _ _) hne (by omega), Hu3.out.other (Upd.set3 _ _ _ _) (by omega)⟩

theorem rd_on {B g q : Nat} {w2 : World} {o : Obj} (h : Rd B g q w2) : Rd B g q (w2.alloc o).drew := h.keep (alloc_below w2 o).drew
theorem box_on {b g : Nat} {x y z : Value} {w2 w3 : World} {o : Obj} (h : Box3 b x y z w2) (hu : Upd g (w2.alloc o).drew w3) (hne : b ≠ g) : Box3 b x y z w3 := (h.keep (alloc_below w2 o).drew).upd hu hne
theorem box_new {g : Nat} {x y z : Value} {w2 w3 : World} {t : TypeId} (hu : Upd g (w2.alloc (.cells #[x, y, z] t)).drew w3) (hne : w2.heap.size ≠ g) : w3.cell? ⟨w2.heap.size, 0, none⟩ = some x ∧ w3.cell? ⟨w2.heap.size, 1, none⟩ = some y ∧ w3.cell? ⟨w2.heap.size, 2, none⟩ = some z := by
  have h : Box3 w2.heap.size x y z (w2.alloc (.cells #[x, y, z] t)).drew := (box3 w2 x y z t).keep (Below.refl _ _).drew
  obtain ⟨_, a, b, c, _⟩ := h.upd hu hne
  exact ⟨a, b, c⟩
theorem below_on {B g : Nat} {w w2 w3 : World} {o : Obj} (h : Below B w w2) (hu : Upd g (w2.alloc o).drew w3) (hB : B ≤ g) (hs : B ≤ w2.heap.size) : Below B w w3 := by
  have h1 : Below w2.heap.size w2 (w2.alloc o).drew := (alloc_below w2 o).drew
  have hz := h1.size
  exact (h.trans (h1.mono hs)).trans (hu.below hB (by omega))

end Go.Proofs.Ytgjhmpgofmmniaa

/- Contracts of the specification's l1Num and of impl's letterOk, digitOk, signOk, numValue.val and textValue.val, over the seat's translation. -/
namespace Go.Proofs.Ytgjhmpgofmmniaa
open Go.RowKit

def numOk (n : Int) : Bool := decide (-999 ≤ n) && decide (n ≤ 999)
def sign (c : Int) : Bool := (decide (97 ≤ c) && decide (c ≤ 122)) || (decide (48 ≤ c) && decide (c ≤ 57)) || c == 45
def letter (c : Int) : Bool := decide (97 ≤ c) && decide (c ≤ 122)
def digit (c : Int) : Bool := decide (48 ≤ c) && decide (c ≤ 57)

theorem ret_bool {a b : Bool} (h : a = b) : Ending.returned (.bool a) = .returned (.bool b) := by rw [h]

theorem l1_num (n : Int) (w : World) : Calls Try.prog 49 #[.int .i64 n] w fun e w' => e = .returned (.bool (numOk n)) ∧ w' = w := by
  go_enter Try.func49, Try.ntmps49
  go_wp2
  all_goals
    go_ret
    refine ⟨ret_bool ?_, rfl⟩
    rw [Bool.eq_iff_iff]
    simp only [numOk, Bool.and_eq_true, decide_eq_true_eq, Bool.false_eq_true, false_iff]
    omega

theorem digit_ok (n : Int) (w : World) : Calls Try.prog 104 #[.int .i32 n] w fun e w' => e = .returned (.bool (digit n)) ∧ w' = w := by
  go_enter Try.func104, Try.ntmps104
  go_wp2
  all_goals
    go_ret
    refine ⟨ret_bool ?_, rfl⟩
    rw [Bool.eq_iff_iff]
    simp only [digit, Bool.and_eq_true, decide_eq_true_eq, Bool.false_eq_true, false_iff]
    omega

theorem letter_ok (n : Int) (w : World) : Calls Try.prog 103 #[.int .i32 n] w fun e w' => e = .returned (.bool (letter n)) ∧ w' = w := by
  go_enter Try.func103, Try.ntmps103
  go_wp2
  all_goals
    go_ret
    refine ⟨ret_bool ?_, rfl⟩
    rw [Bool.eq_iff_iff]
    simp only [letter, Bool.and_eq_true, decide_eq_true_eq, Bool.false_eq_true, false_iff]
    omega

theorem sign_ok (n : Int) (w : World) : Calls Try.prog 102 #[.int .i32 n] w fun e w' => e = .returned (.bool (sign n)) ∧ w' = w := by
  go_enter Try.func102, Try.ntmps102
  go_wp2_with (first
    | (go_at_call 103; refine (letter_ok _ _).mono ?_; rintro e w' ⟨rfl, rfl⟩)
    | (go_at_call 104; refine (digit_ok _ _).mono ?_; rintro e w' ⟨rfl, rfl⟩))
  all_goals
    go_ret
    refine ⟨ret_bool ?_, rfl⟩
    rw [Bool.eq_iff_iff]
    simp only [sign, letter, digit, Bool.and_eq_true, Bool.or_eq_true, beq_iff_eq, decide_eq_true_eq, true_iff] at *
    omega

theorem num_val (n : Int) (w : World) : Calls Try.prog 96 #[.int .i64 n] w fun e w' => e = .returned (.agg #[.int .i64 1, .int .i64 n, .string ⟨#[]⟩]) ∧ Below w.heap.size w w' := by
  go_enter Try.func96, Try.ntmps96
  go_wp2
  exact bodyPost_ret (v := .agg #[.int .i64 1, .int .i64 n, .string ⟨#[]⟩]) (by simp [results, Try.results96, go_sem]) rfl ⟨rfl, ((Below.refl _ _).alloc (Nat.le_refl _) _)⟩

theorem text_val (s : ByteArray) (w : World) : Calls Try.prog 101 #[.string s] w fun e w' => e = .returned (.agg #[.int .i64 2, .int .i64 0, .string s]) ∧ Below w.heap.size w w' := by
  go_enter Try.func101, Try.ntmps101
  go_wp2
  exact bodyPost_ret (v := .agg #[.int .i64 2, .int .i64 0, .string s]) (by simp [results, Try.results101, go_sem]) rfl ⟨rfl, ((Below.refl _ _).alloc (Nat.le_refl _) _)⟩

end Go.Proofs.Ytgjhmpgofmmniaa
