/- Contracts of cmp.isNaN, cmp.Compare, cmp.Or at int and string, over the seat's translation. -/
import Derived.Test.YtobblnlefhkanaaRows
import Derived.WalkKit
import Derived.WalkSpells
import Derived.WalkLawsBesides
import Derived.Deep.RegionHeld3
namespace Go.Proofs.Ytobblnlefhkanaa
open Go.RowKit

theorem ret_int {k : IntKind} {a b : Int} (h : a = b) : Ending.returned (.int k a) = .returned (.int k b) := by rw [h]

theorem nan_int (a : Int) (w : World) : Calls Try.prog 68 #[.int .i64 a] w fun e w' => e = .returned (.bool false) ∧ w' = w := by
  go_enter Try.func68, Try.ntmps68
  go_wp2
  go_ret
  simp

theorem nan_str (s : ByteArray) (w : World) : Calls Try.prog 70 #[.string s] w fun e w' => e = .returned (.bool false) ∧ w' = w := by
  go_enter Try.func70, Try.ntmps70
  go_wp2
  go_ret
  simp

def cmpI (x y : Int) : Int := if x < y then -1 else if y < x then 1 else 0
def cmpS (s t : ByteArray) : Int := if Op.bytesLess s.toList t.toList then -1 else if (!Op.bytesLess s.toList t.toList && !(s.toList == t.toList)) then 1 else 0

theorem cmp_int (a b : Int) (w : World) : Calls Try.prog 60 #[.int .i64 a, .int .i64 b] w fun e w' => e = .returned (.int .i64 (cmpI a b)) ∧ w' = w := by
  go_enter Try.func60, Try.ntmps60
  go_wp2_with (go_at_call 68; refine (nan_int _ _).mono ?_; rintro e w' ⟨rfl, rfl⟩)
  · go_ret
    simp_all [cmpI]
  · go_ret
    simp_all [cmpI]
  · go_ret
    refine ⟨ret_int ?_, rfl⟩
    unfold cmpI
    rw [if_neg (by omega), if_neg (by omega)]

theorem cmp_str (s t : ByteArray) (w : World) : Calls Try.prog 67 #[.string s, .string t] w fun e w' => e = .returned (.int .i64 (cmpS s t)) ∧ w' = w := by
  go_enter Try.func67, Try.ntmps67
  go_wp2_with (go_at_call 70; refine (nan_str _ _).mono ?_; rintro e w' ⟨rfl, rfl⟩)
  all_goals
    go_ret
    simp_all [cmpS]

def orI (x y z : Int) : Int := if x = 0 then (if y = 0 then z else y) else x

theorem or_three (x y z : Int) (g : Nat) (w : World) (h0 : w.cell? ⟨g, 0, none⟩ = some (.int .i64 x)) (h1 : w.cell? ⟨g, 1, none⟩ = some (.int .i64 y)) (h2 : w.cell? ⟨g, 2, none⟩ = some (.int .i64 z)) :
    Calls Try.prog 58 #[.slice (some ⟨g, 0, none⟩) 3 3] w fun e w' => e = .returned (.int .i64 (orI x y z)) ∧ w' = w := by
  go_enter Try.func58, Try.ntmps58
  go_wp2
  go_loop [5, 8] (fun _ i => ∃ k : Nat, k ≤ 3 ∧ i = .int .i64 k ∧ (1 ≤ k → x = 0) ∧ (2 ≤ k → y = 0) ∧ (3 ≤ k → z = 0)) (fun _ i => 3 - (intOf i).toNat)
  case atStart => exact ⟨0, Nat.zero_le _, rfl, by omega, by omega, by omega⟩
  case round =>
    obtain ⟨k, hk, rfl, kx, ky, kz⟩ := hrel
    have hh : k = 0 ∨ k = 1 ∨ k = 2 ∨ k = 3 := by omega
    rcases hh with rfl | rfl | rfl | rfl
    · clear kx ky kz
      go_wp2
      · go_ret
        refine ⟨ret_int ?_, rfl⟩
        have hx : ¬ x = 0 := by simp_all
        simp [orI, hx]
      · have hx : x = 0 := by simp_all
        go_round
        case rel => exact ⟨1, by omega, rfl, fun _ => hx, by omega, by omega⟩
        case measure => simp [intOf]
    · have hx := kx (by omega)
      clear kx ky kz
      go_wp2
      · go_ret
        refine ⟨ret_int ?_, rfl⟩
        have hy : ¬ y = 0 := by simp_all
        simp [orI, hy]
      · have hy : y = 0 := by simp_all
        go_round
        case rel => exact ⟨2, by omega, rfl, fun _ => hx, fun _ => hy, by omega⟩
        case measure => simp [intOf]
    · have hx := kx (by omega)
      have hy := ky (by omega)
      clear kx ky kz
      go_wp2
      · go_ret
        refine ⟨ret_int ?_, rfl⟩
        simp [orI]
      · have hz : z = 0 := by simp_all
        go_round
        case rel => exact ⟨3, by omega, rfl, fun _ => hx, fun _ => hy, fun _ => hz⟩
        case measure => simp [intOf]
    · have hx := kx (by omega)
      have hy := ky (by omega)
      have hz := kz (by omega)
      clear kx ky kz
      go_wp2
      go_ret
      exact ⟨ret_int (by simp [orI]), rfl⟩

end Go.Proofs.Ytobblnlefhkanaa
