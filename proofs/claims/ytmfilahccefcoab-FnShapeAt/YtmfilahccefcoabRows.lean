/-
  No cell of these rows narrows 'for every input' (looked for: loops, veiled, ifaces, maps, wideKeys, modest, calm, conditions, laid).
  DERIVED. THE GIVEN ROWS OF THIS SEAT. 6 by the template 'for every input the law returns true; each argument reads behind the call as it read before'; 0 by the template 'total and deterministic' (their statements: YtmfilahccefcoabTotals.lean).
  GIVEN WITH THE SEED: the statements are not yours to turn. If you find one false, say at which input.
  Laid BY PROGRAM, IN A SANDBOX (cutbox-rows.mjs): the forced cells as the released guide's own fill.sh prints them over the translation e2b000fcd90c83bf… (all of the seat's roots in one cut). By AI agents, Wed Nov 11 2026. No macro, syntax, notation, axiom, sorry.
-/
import Derived.Test.YtmfilahccefcoabChecked
import GoSem.Claim
import GoSem.ClaimJoined
import GoSem.ClaimMapViews
import Derived.JoinedTies
import Derived.KernelRfl
namespace Go.Proofs.Ytmfilahccefcoab
/- THE CELL 'sum', in the pinned program and in every row, IS THE sha256 OF THE DUMP (.gsa) THAT YtmfilahccefcoabProg.lean LOADS. Nothing in Lean hashes anything: it is a label: what it is worth is what the hold of that sum in a sandbox is worth. -/
noncomputable def Try.pinned : Pinned := { name := "ytmfilahccefcoab", sum := "e2b000fcd90c83bf40e0f55aeab8a8261ef76c14b2b28ed21d7bcd7092057986", checked := Try.checked }
namespace Rows
def none {H : Type} : Left H := { results := [], args := [] }

/-- 'laws.FnShapeBack': WHATEVER THE INPUT: true; the input reads as it did. -/
def fnShapeBackSpec : ChangeSpec := { name := "fnShapeBack", fn := fun _ => fun
  | [d] => { results := [.lit (.bool true)], args := [d] }
  | _ => none }
def fnShapeBackRow : OpenClaim := { program := "ytmfilahccefcoab", sum := "e2b000fcd90c83bf40e0f55aeab8a8261ef76c14b2b28ed21d7bcd7092057986", func := "loop.example/custumal/laws.FnShapeBack", spec := "fnShapeBack", unfollowed := true, recurses := true, apart := false }
def FnShapeBackSaid : Prop := fnShapeBackRow.holds Try.pinned (OpenSpec.ofChange fnShapeBackSpec)

/-- ITS FALSE NEIGHBOUR: 'it returns false'. Refute it at one input. -/
def fnShapeBackWrong : ChangeSpec := { name := "fnShapeBack", fn := fun _ => fun
  | [d] => { results := [.lit (.bool false)], args := [d] }
  | _ => none }
def FnShapeBackWrongFalsely : Prop := fnShapeBackRow.holds Try.pinned (OpenSpec.ofChange fnShapeBackWrong)

/-- 'laws.FnRow': WHATEVER THE INPUT: true; the input reads as it did. -/
def fnRowSpec : ChangeSpec := { name := "fnRow", fn := fun _ => fun
  | [d] => { results := [.lit (.bool true)], args := [d] }
  | _ => none }
def fnRowRow : OpenClaim := { program := "ytmfilahccefcoab", sum := "e2b000fcd90c83bf40e0f55aeab8a8261ef76c14b2b28ed21d7bcd7092057986", func := "loop.example/custumal/laws.FnRow", spec := "fnRow", unfollowed := true, recurses := true, apart := false }
def FnRowSaid : Prop := fnRowRow.holds Try.pinned (OpenSpec.ofChange fnRowSpec)

/-- ITS FALSE NEIGHBOUR: 'it returns false'. Refute it at one input. -/
def fnRowWrong : ChangeSpec := { name := "fnRow", fn := fun _ => fun
  | [d] => { results := [.lit (.bool false)], args := [d] }
  | _ => none }
def FnRowWrongFalsely : Prop := fnRowRow.holds Try.pinned (OpenSpec.ofChange fnRowWrong)

/-- 'laws.FnRowKeep': WHATEVER THE INPUT: true; the input reads as it did. -/
def fnRowKeepSpec : ChangeSpec := { name := "fnRowKeep", fn := fun _ => fun
  | [d] => { results := [.lit (.bool true)], args := [d] }
  | _ => none }
def fnRowKeepRow : OpenClaim := { program := "ytmfilahccefcoab", sum := "e2b000fcd90c83bf40e0f55aeab8a8261ef76c14b2b28ed21d7bcd7092057986", func := "loop.example/custumal/laws.FnRowKeep", spec := "fnRowKeep", unfollowed := true, recurses := true, apart := false }
def FnRowKeepSaid : Prop := fnRowKeepRow.holds Try.pinned (OpenSpec.ofChange fnRowKeepSpec)

/-- ITS FALSE NEIGHBOUR: 'it returns false'. Refute it at one input. -/
def fnRowKeepWrong : ChangeSpec := { name := "fnRowKeep", fn := fun _ => fun
  | [d] => { results := [.lit (.bool false)], args := [d] }
  | _ => none }
def FnRowKeepWrongFalsely : Prop := fnRowKeepRow.holds Try.pinned (OpenSpec.ofChange fnRowKeepWrong)

/-- 'laws.FnShapeAll': WHATEVER THE INPUT: true; the input reads as it did. -/
def fnShapeAllSpec : ChangeSpec := { name := "fnShapeAll", fn := fun _ => fun
  | [d1, d2] => { results := [.lit (.bool true)], args := [d1, d2] }
  | _ => none }
def fnShapeAllRow : OpenClaim := { program := "ytmfilahccefcoab", sum := "e2b000fcd90c83bf40e0f55aeab8a8261ef76c14b2b28ed21d7bcd7092057986", func := "loop.example/custumal/laws.FnShapeAll", spec := "fnShapeAll", unfollowed := true, recurses := true, apart := false }
def FnShapeAllSaid : Prop := fnShapeAllRow.holds Try.pinned (OpenSpec.ofChange fnShapeAllSpec)

/-- ITS FALSE NEIGHBOUR: 'it returns false'. Refute it at one input. -/
def fnShapeAllWrong : ChangeSpec := { name := "fnShapeAll", fn := fun _ => fun
  | [d1, d2] => { results := [.lit (.bool false)], args := [d1, d2] }
  | _ => none }
def FnShapeAllWrongFalsely : Prop := fnShapeAllRow.holds Try.pinned (OpenSpec.ofChange fnShapeAllWrong)

/-- 'laws.FnRowAll': WHATEVER THE INPUT: true; the input reads as it did. -/
def fnRowAllSpec : ChangeSpec := { name := "fnRowAll", fn := fun _ => fun
  | [d1, d2] => { results := [.lit (.bool true)], args := [d1, d2] }
  | _ => none }
def fnRowAllRow : OpenClaim := { program := "ytmfilahccefcoab", sum := "e2b000fcd90c83bf40e0f55aeab8a8261ef76c14b2b28ed21d7bcd7092057986", func := "loop.example/custumal/laws.FnRowAll", spec := "fnRowAll", unfollowed := true, recurses := true, apart := false }
def FnRowAllSaid : Prop := fnRowAllRow.holds Try.pinned (OpenSpec.ofChange fnRowAllSpec)

/-- ITS FALSE NEIGHBOUR: 'it returns false'. Refute it at one input. -/
def fnRowAllWrong : ChangeSpec := { name := "fnRowAll", fn := fun _ => fun
  | [d1, d2] => { results := [.lit (.bool false)], args := [d1, d2] }
  | _ => none }
def FnRowAllWrongFalsely : Prop := fnRowAllRow.holds Try.pinned (OpenSpec.ofChange fnRowAllWrong)

/-- 'laws.FnShapeAt': WHATEVER THE INPUT: true; the input reads as it did. -/
def fnShapeAtSpec : ChangeSpec := { name := "fnShapeAt", fn := fun _ => fun
  | [d] => { results := [.lit (.bool true)], args := [d] }
  | _ => none }
def fnShapeAtRow : OpenClaim := { program := "ytmfilahccefcoab", sum := "e2b000fcd90c83bf40e0f55aeab8a8261ef76c14b2b28ed21d7bcd7092057986", func := "loop.example/custumal/laws.FnShapeAt", spec := "fnShapeAt", unfollowed := true, recurses := true, apart := false }
def FnShapeAtSaid : Prop := fnShapeAtRow.holds Try.pinned (OpenSpec.ofChange fnShapeAtSpec)

/-- ITS FALSE NEIGHBOUR: 'it returns false'. Refute it at one input. -/
def fnShapeAtWrong : ChangeSpec := { name := "fnShapeAt", fn := fun _ => fun
  | [d] => { results := [.lit (.bool false)], args := [d] }
  | _ => none }
def FnShapeAtWrongFalsely : Prop := fnShapeAtRow.holds Try.pinned (OpenSpec.ofChange fnShapeAtWrong)

/- THE SECOND FORM. 'bulk': how many values and letters a reading holds, each counted each time it is reached (what is shared counts as often as it is met; a slice's spare places count too). A statement '..UptoSaid' is the law's where the arguments, and the package variables that the reading takes, are together of bulk at most 1048576: NARROWER than '..Said'. Prove '..Said' where nothing that the law and all that it calls make is longer than what came in: it says more and counts as full. Else prove '..UptoSaid'. A law counts once. -/
mutual
def uptoBulk {H : Type} : DataW H → Nat
  | .lit (.string bytes) => bytes.length + 1
  | .lit _ => 1
  | .nil => 1
  | .ptr d => uptoBulk d + 1
  | .slice elems spare => uptoBulkAll elems + uptoBulkAll spare + 1
  | .agg parts => uptoBulkAll parts + 1
  | .iface _ d => uptoBulk d + 1
  | .map entries => uptoBulkEntries entries + 1
  | .held _ => 1
def uptoBulkAll {H : Type} : List (DataW H) → Nat
  | [] => 0
  | d :: r => uptoBulk d + uptoBulkAll r
def uptoBulkEntries {H : Type} : List (Lit × DataW H) → Nat
  | [] => 0
  | x :: r => uptoBulkEntry x + uptoBulkEntries r
def uptoBulkEntry {H : Type} : Lit × DataW H → Nat
  | (.string bytes, d) => bytes.length + uptoBulk d + 1
  | (_, d) => uptoBulk d + 1
 end
def uptoSmall : (H : Type) → List (DataW H) → Bool := fun _ ds => decide (uptoBulkAll ds ≤ 1048576)
def OpenSpec.upto (s : _root_.Go.ChangeSpec) : _root_.Go.OpenSpec := { _root_.Go.OpenSpec.ofChange s with cond := some uptoSmall }

/-- 'laws.FnShapeBack', WHERE WHAT IT READS IS OF BULK AT MOST 1048576: true; the input reads as it did. -/
def fnShapeBackUptoRow : OpenClaim := { program := "ytmfilahccefcoab", sum := "e2b000fcd90c83bf40e0f55aeab8a8261ef76c14b2b28ed21d7bcd7092057986", func := "loop.example/custumal/laws.FnShapeBack", spec := "fnShapeBack", unfollowed := true, recurses := true, apart := false, narrowed := true }
def FnShapeBackUptoSaid : Prop := fnShapeBackUptoRow.holds Try.pinned (OpenSpec.upto fnShapeBackSpec)

/-- 'laws.FnRow', WHERE WHAT IT READS IS OF BULK AT MOST 1048576: true; the input reads as it did. -/
def fnRowUptoRow : OpenClaim := { program := "ytmfilahccefcoab", sum := "e2b000fcd90c83bf40e0f55aeab8a8261ef76c14b2b28ed21d7bcd7092057986", func := "loop.example/custumal/laws.FnRow", spec := "fnRow", unfollowed := true, recurses := true, apart := false, narrowed := true }
def FnRowUptoSaid : Prop := fnRowUptoRow.holds Try.pinned (OpenSpec.upto fnRowSpec)

/-- 'laws.FnRowKeep', WHERE WHAT IT READS IS OF BULK AT MOST 1048576: true; the input reads as it did. -/
def fnRowKeepUptoRow : OpenClaim := { program := "ytmfilahccefcoab", sum := "e2b000fcd90c83bf40e0f55aeab8a8261ef76c14b2b28ed21d7bcd7092057986", func := "loop.example/custumal/laws.FnRowKeep", spec := "fnRowKeep", unfollowed := true, recurses := true, apart := false, narrowed := true }
def FnRowKeepUptoSaid : Prop := fnRowKeepUptoRow.holds Try.pinned (OpenSpec.upto fnRowKeepSpec)

/-- 'laws.FnShapeAll', WHERE WHAT IT READS IS OF BULK AT MOST 1048576: true; the input reads as it did. -/
def fnShapeAllUptoRow : OpenClaim := { program := "ytmfilahccefcoab", sum := "e2b000fcd90c83bf40e0f55aeab8a8261ef76c14b2b28ed21d7bcd7092057986", func := "loop.example/custumal/laws.FnShapeAll", spec := "fnShapeAll", unfollowed := true, recurses := true, apart := false, narrowed := true }
def FnShapeAllUptoSaid : Prop := fnShapeAllUptoRow.holds Try.pinned (OpenSpec.upto fnShapeAllSpec)

/-- 'laws.FnRowAll', WHERE WHAT IT READS IS OF BULK AT MOST 1048576: true; the input reads as it did. -/
def fnRowAllUptoRow : OpenClaim := { program := "ytmfilahccefcoab", sum := "e2b000fcd90c83bf40e0f55aeab8a8261ef76c14b2b28ed21d7bcd7092057986", func := "loop.example/custumal/laws.FnRowAll", spec := "fnRowAll", unfollowed := true, recurses := true, apart := false, narrowed := true }
def FnRowAllUptoSaid : Prop := fnRowAllUptoRow.holds Try.pinned (OpenSpec.upto fnRowAllSpec)

/-- 'laws.FnShapeAt', WHERE WHAT IT READS IS OF BULK AT MOST 1048576: true; the input reads as it did. -/
def fnShapeAtUptoRow : OpenClaim := { program := "ytmfilahccefcoab", sum := "e2b000fcd90c83bf40e0f55aeab8a8261ef76c14b2b28ed21d7bcd7092057986", func := "loop.example/custumal/laws.FnShapeAt", spec := "fnShapeAt", unfollowed := true, recurses := true, apart := false, narrowed := true }
def FnShapeAtUptoSaid : Prop := fnShapeAtUptoRow.holds Try.pinned (OpenSpec.upto fnShapeAtSpec)

end Rows
end Go.Proofs.Ytmfilahccefcoab
