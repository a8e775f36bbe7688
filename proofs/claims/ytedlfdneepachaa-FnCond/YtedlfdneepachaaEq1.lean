/- Two values held against each other, over the seat's translation. -/
import Derived.Test.YtedlfdneepachaaRows
import Derived.WalkKit
import Derived.WalkSpells
import Derived.WalkLawsBesides
import Derived.Laws.StructEq
namespace Go.Proofs.Ytedlfdneepachaa
open Go.RowKit

theorem bytes_ext {s t : ByteArray} (h : s.toList = t.toList) : s = t := by
  rw [ByteArray.toList_eq, ByteArray.toList_eq] at h
  cases s; cases t
  simp at h
  rw [h]

def eqV (k1 n1 : Int) (s1 : ByteArray) (k2 n2 : Int) (s2 : ByteArray) : Bool := k1 == k2 && n1 == n2 && s1.toList == s2.toList

theorem run_neq (k1 n1 : Int) (s1 : ByteArray) (k2 n2 : Int) (s2 : ByteArray) (w : World) :
    (binOp .neq 25 (.agg #[.int .i64 k1, .int .i64 n1, .string s1]) (.agg #[.int .i64 k2, .int .i64 n2, .string s2])).run Try.prog w = .ok (.bool (!(eqV k1 n1 s1 k2 n2 s2))) w := by
  unfold eqV
  go_simp
  by_cases a : k1 = k2 <;> by_cases b : n1 = n2 <;> by_cases c : s1.toList = s2.toList <;> simp [a, b, c]

theorem run_eql (k1 n1 : Int) (s1 : ByteArray) (k2 n2 : Int) (s2 : ByteArray) (w : World) :
    (binOp .eql 25 (.agg #[.int .i64 k1, .int .i64 n1, .string s1]) (.agg #[.int .i64 k2, .int .i64 n2, .string s2])).run Try.prog w = .ok (.bool (eqV k1 n1 s1 k2 n2 s2)) w := by
  unfold eqV
  go_simp
  by_cases a : k1 = k2 <;> by_cases b : n1 = n2 <;> by_cases c : s1.toList = s2.toList <;> simp [a, b, c]

end Go.Proofs.Ytedlfdneepachaa
