/- The reader of a code: what lies where, and the contract of (*l10Rd).pick, over the seat's translation. -/
import Derived.Test.YtddcmibggdighaaRows
import Derived.WalkKit
import Derived.WalkSpells
import Derived.WalkLawsBesides
import Derived.Deep.DeepCutAuto
import Derived.Deep.QuietTactic
import Derived.BigQuiet
import Derived.Laws.BitsAllLaws
namespace Go.Proofs.Ytddcmibggdighaa
open Go.RowKit

theorem xor64 (a b : Nat) (ha : a < 4611686018427387904) (hb : b < 4611686018427387904) : bits .xor .i64 (a : Int) (b : Int) = ((a ^^^ b : Nat) : Int) := by
  have hx : a ^^^ b < 2 ^ 62 := Nat.xor_lt_two_pow (by omega) (by omega)
  show IntKind.i64.wrap ((BitVec.ofInt 64 (a : Int) ^^^ BitVec.ofInt 64 (b : Int)).toNat : Int) = _
  rw [BitVec.toNat_xor, ofInt_u64 a (by omega), ofInt_u64 b (by omega)]
  simp [IntKind.wrap, IntKind.bits, IntKind.signed]
  omega
theorem xor_any (x : Int) (h0 : 0 ≤ x) (h1 : x < 4611686018427387904) : ∃ v : Int, bits .xor .i64 x (x / 64) = v ∧ 0 ≤ v ∧ v < 4611686018427387904 := by
  obtain ⟨a, rfl⟩ := Int.eq_ofNat_of_zero_le h0
  have e : ((a : Int) / 64) = ((a / 64 : Nat) : Int) := by omega
  refine ⟨_, by rw [e, xor64 a (a / 64) (by omega) (by omega)], by omega, ?_⟩
  have hx : a ^^^ a / 64 < 2 ^ 62 := Nat.xor_lt_two_pow (by omega) (by omega)
  omega

theorem mix_any (y z p q : Int) (hy0 : 0 ≤ y) (hy1 : y ≤ 255) (hz0 : 0 ≤ z) (hz1 : z ≤ 255) (hp0 : 0 ≤ p) (hp1 : p ≤ 1000000) (hq0 : 0 ≤ q) (hq1 : q ≤ 1000000) :
    ∃ X : Int, wrap64 (y * 131 + z * 1117 + p * 29 + wrap64 (wrap64 q * 53)) = X ∧ 0 ≤ X ∧ X < 4611686018427387904 := by
  have key : ∀ S : Int, 0 ≤ S → S ≤ 1000000000 → wrap64 S = S := by intro S h0 h1; unfold wrap64; omega
  refine ⟨y * 131 + z * 1117 + p * 29 + q * 53, ?_, by omega, by omega⟩
  rw [key q hq0 (by omega), key (q * 53) (by omega) (by omega), key _ (by omega) (by omega)]

/-- What lies below block number g in W, and beside it, is in W' as it was; blocks may have come. -/
structure Upd (g : Nat) (W W' : World) : Prop where
  os : W'.os = W.os
  tape : W'.tape = W.tape
  output : W'.output = W.output
  size : W.heap.size ≤ W'.heap.size
  block : ∀ k, k < W.heap.size → k ≠ g → W'.heap[k]? = W.heap[k]?

theorem Upd.ofBelow {g : Nat} {W W' : World} (h : Below W.heap.size W W') : Upd g W W' := ⟨h.os, h.tape, h.output, h.size, fun k hk _ => h.block k hk⟩

set_option maxHeartbeats 1000000 in
theorem pick_none (g p cap : Nat) (a : Option Addr) (n : Int) (w : World) (hb0 : w.cell? ⟨g, 0, none⟩ = some (.slice a 0 cap)) (hb1 : w.cell? ⟨g, 1, none⟩ = some (.int .i64 p)) (hfz : w.frozen? ⟨g, 1, none⟩ = false) (hp : p < 1000000) (h1 : 1 ≤ n) :
    Calls Try.prog 19 #[.pointer (some ⟨g, 0, none⟩), .int .i64 n] w fun e w' => e = .returned (.int .i64 0) ∧ w' = w.setCell ⟨g, 1, none⟩ (.int .i64 (p + 1 : Nat)) := by
  go_enter Try.func19, Try.ntmps19
  go_wp2
  go_ret
  exact ⟨rfl, by rw [Int.natCast_add]; rfl⟩

set_option maxHeartbeats 1000000 in
theorem pick_in (g p len cap cb co : Nat) (z n : Int) (w : World) (hb0 : w.cell? ⟨g, 0, none⟩ = some (.slice (some ⟨cb, co, none⟩) len cap)) (hb1 : w.cell? ⟨g, 1, none⟩ = some (.int .i64 p)) (hfz : w.frozen? ⟨g, 1, none⟩ = false) (hp : p < 1000000) (h1 : 1 ≤ n) (h2 : n ≤ 1000)
    (hne : cb ≠ g) (hl : p < len) (_hlen : len ≤ 2000) (hz : w.cell? ⟨cb, co + p, none⟩ = some (.int .u8 z)) (hz0 : 0 ≤ z) (hz1 : z ≤ 255) :
    Calls Try.prog 19 #[.pointer (some ⟨g, 0, none⟩), .int .i64 n] w fun e w' => e = .returned (.int .i64 (z % n)) ∧ w' = w.setCell ⟨g, 1, none⟩ (.int .i64 (p + 1 : Nat)) := by
  have hl' : (p : Int) < len := by omega
  have hlz : ((len : Int) == 0) = false := beq_eq_false_iff_ne.2 (by omega)
  go_enter Try.func19, Try.ntmps19
  go_wp2
  go_ret
  exact ⟨rfl, by rw [Int.natCast_add]; rfl⟩

set_option maxHeartbeats 2000000 in
theorem pick_out (g p len cap cb co : Nat) (y z n : Int) (w : World) (hb0 : w.cell? ⟨g, 0, none⟩ = some (.slice (some ⟨cb, co, none⟩) len cap)) (hb1 : w.cell? ⟨g, 1, none⟩ = some (.int .i64 p)) (hfz : w.frozen? ⟨g, 1, none⟩ = false) (hp : p < 1000000) (h1 : 1 ≤ n) (h2 : n ≤ 1000)
    (hne : cb ≠ g) (hl : ¬ p < len) (hl0 : 0 < len) (hlen : len ≤ 2000) (hy : w.cell? ⟨cb, co + p % len, none⟩ = some (.int .u8 y)) (hy0 : 0 ≤ y) (hy1 : y ≤ 255) (hz : w.cell? ⟨cb, co + (p * 7 + 3) % len, none⟩ = some (.int .u8 z)) (hz0 : 0 ≤ z) (hz1 : z ≤ 255) :
    Calls Try.prog 19 #[.pointer (some ⟨g, 0, none⟩), .int .i64 n] w fun e w' => ∃ v : Int, e = .returned (.int .i64 v) ∧ 0 ≤ v ∧ v < n ∧ ∃ k, w' = (w.setCell ⟨g, 1, none⟩ (.int .i64 (p + 1 : Nat))).drewN k := by
  have hl' : ¬ (p : Int) < len := by omega
  have hlz : ((len : Int) == 0) = false := beq_eq_false_iff_ne.2 (by omega)
  have i0 : (0 : Int) ≤ (p : Int) % len := Int.emod_nonneg _ (by omega)
  have i1 : (p : Int) % len < len := Int.emod_lt_of_pos _ (by omega)
  have i2 : (0 : Int) ≤ ((p : Int) * 7 + 3) % len := Int.emod_nonneg _ (by omega)
  have i3 : ((p : Int) * 7 + 3) % len < len := Int.emod_lt_of_pos _ (by omega)
  go_enter Try.func19, Try.ntmps19
  go_wp2
  go_quiet (fail)
  go_upto_region 8 with (fail)
  obtain ⟨X, hX, hX0, hX1⟩ := mix_any y z p ((p : Int) / len) hy0 hy1 hz0 hz1 (by omega) (by omega) (Int.ediv_nonneg (by omega) (by omega)) (Int.le_trans (Int.ediv_le_self _ (by omega)) (by omega))
  rw [hX]
  obtain ⟨v, hv, hv0, hv1⟩ := xor_any X hX0 hX1
  have m0 : 0 ≤ v % n := Int.emod_nonneg _ (by omega)
  have m1 : v % n < n := Int.emod_lt_of_pos _ (by omega)
  have HX : Hid (wrap64 (y * 131 + z * 1117 + p * 29 + wrap64 (wrap64 ((p : Int) / len) * 53)) = X) := hX
  clear hX i0 i1 i2 i3 hy hz
  go_wp2
  go_ret
  exact ⟨v % n, rfl, m0, m1, nq, by rw [Int.natCast_add]; rfl⟩

end Go.Proofs.Ytddcmibggdighaa
