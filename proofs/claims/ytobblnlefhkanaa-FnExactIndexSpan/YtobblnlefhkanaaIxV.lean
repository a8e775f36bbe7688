/- Contracts of impl.compareVals and spec.ValLess, over the seat's translation. -/
import Derived.Test.YtobblnlefhkanaaLess1
namespace Go.Proofs.Ytobblnlefhkanaa
open Go.RowKit

def cmpV (k1 n1 : Int) (s1 : ByteArray) (k2 n2 : Int) (s2 : ByteArray) : Int := orI (cmpI k1 k2) (cmpI n1 n2) (cmpS s1 s2)

set_option maxHeartbeats 400000 in
theorem compare_vals (k1 n1 : Int) (s1 : ByteArray) (k2 n2 : Int) (s2 : ByteArray) (w : World) :
    Calls Try.prog 59 #[.agg #[.int .i64 k1, .int .i64 n1, .string s1], .agg #[.int .i64 k2, .int .i64 n2, .string s2]] w fun e w' => e = .returned (.int .i64 (cmpV k1 n1 s1 k2 n2 s2)) ∧ Below w.heap.size w w' := by
  go_enter Try.func59, Try.ntmps59
  go_wp2
  go_region_held3 (fun w' => w'.cell? ⟨w.heap.size, 0, none⟩ = some (.int .i64 k1) ∧ w'.cell? ⟨w.heap.size, 1, none⟩ = some (.int .i64 n1) ∧ w'.cell? ⟨w.heap.size, 2, none⟩ = some (.string s1) ∧ w'.cell? ⟨w.heap.size + 1, 0, none⟩ = some (.int .i64 k2) ∧ w'.cell? ⟨w.heap.size + 1, 1, none⟩ = some (.int .i64 n2) ∧ w'.cell? ⟨w.heap.size + 1, 2, none⟩ = some (.string s2)) (go_keep)
    (first
      | (go_at_call 60; refine (cmp_int _ _ _).mono ?_; rintro e w' ⟨rfl, rfl⟩)
      | (go_at_call 67; refine (cmp_str _ _ _).mono ?_; rintro e w' ⟨rfl, rfl⟩)
      | (go_at_call 58; refine (or_three (cmpI k1 k2) (cmpI n1 n2) (cmpS s1 s2) _ _ ?_ ?_ ?_).mono ?_; (go_simp); (go_simp); (go_simp); rintro e w' ⟨rfl, rfl⟩))
  go_wp2
  go_ret
  refine ⟨rfl, ?_⟩
  exact ((((Below.refl _ _).alloc (Nat.le_refl _) _).alloc (by simp) _).alloc (by simp; omega) _).drew

def lessV (k1 n1 : Int) (s1 : ByteArray) (k2 n2 : Int) (s2 : ByteArray) : Bool := decide (cmpV k1 n1 s1 k2 n2 s2 < 0)

def bad (s t : ByteArray) : Bool := Op.bytesLess s.toList t.toList
theorem less_eq (k1 n1 : Int) (s1 : ByteArray) (k2 n2 : Int) (s2 : ByteArray) :
    lessV k1 n1 s1 k2 n2 s2 = (if k1 = k2 then (if n1 = n2 then bad s1 s2 else decide (n1 < n2)) else decide (k1 < k2)) := by
  unfold lessV cmpV orI cmpI cmpS bad
  by_cases h1 : k1 = k2
  · subst h1
    by_cases h2 : n1 = n2
    · subst h2
      cases h3 : Op.bytesLess s1.toList s2.toList <;> simp
      split <;> simp
    · simp [h2]
      by_cases h4 : n1 < n2
      · simp [h4]
      · have : n2 < n1 := by omega
        simp [h4, this]
  · simp [h1]
    by_cases h4 : k1 < k2
    · simp [h4]
    · have : k2 < k1 := by omega
      simp [h4, this]

set_option maxHeartbeats 400000 in
theorem spec_less (k1 n1 : Int) (s1 : ByteArray) (k2 n2 : Int) (s2 : ByteArray) (w : World) :
    Calls Try.prog 43 #[.agg #[.int .i64 k1, .int .i64 n1, .string s1], .agg #[.int .i64 k2, .int .i64 n2, .string s2]] w fun e w' => e = .returned (.bool (lessV k1 n1 s1 k2 n2 s2)) ∧ Below w.heap.size w w' := by
  rw [less_eq]
  go_enter Try.func43, Try.ntmps43
  go_wp2
  all_goals
    go_ret
    refine ⟨?_, (((Below.refl _ _).alloc (Nat.le_refl _) _).alloc (by simp) _)⟩
    simp_all [bad]

end Go.Proofs.Ytobblnlefhkanaa
