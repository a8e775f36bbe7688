/-
  No cell of these rows narrows 'for every input' (looked for: loops, veiled, ifaces, maps, wideKeys, modest, calm, conditions, laid).
  DERIVED. THE GIVEN ROWS OF THIS SEAT. 5 by the template 'for every input the law returns true; each argument reads behind the call as it read before'; 0 by the template 'total and deterministic' (their statements: YtgjhmpgofmmniaaTotals.lean).
  GIVEN WITH THE SEED: the statements are not yours to turn. If you find one false, say at which input.
  Laid BY PROGRAM, IN A SANDBOX (cutbox-rows.mjs): the forced cells as the released guide's own fill.sh prints them over the translation ca5e999977d70af1… (all of the seat's roots in one cut). By AI agents, Wed Nov 11 2026. No macro, syntax, notation, axiom, sorry.
-/
import Derived.Test.YtgjhmpgofmmniaaChecked
import GoSem.Claim
import GoSem.ClaimJoined
import GoSem.ClaimMapViews
import Derived.JoinedTies
import Derived.KernelRfl
namespace Go.Proofs.Ytgjhmpgofmmniaa
/- THE CELL 'sum', in the pinned program and in every row, IS THE sha256 OF THE DUMP (.gsa) THAT YtgjhmpgofmmniaaProg.lean LOADS. Nothing in Lean hashes anything: it is a label: what it is worth is what the hold of that sum in a sandbox is worth. -/
noncomputable def Try.pinned : Pinned := { name := "ytgjhmpgofmmniaa", sum := "ca5e999977d70af1f97fd68aeeb5f093c0dcca57de43f3208cacfeca2450e709", checked := Try.checked }
namespace Rows
def none {H : Type} : Left H := { results := [], args := [] }

/-- 'laws.FnIndexOnce': WHATEVER THE INPUT: true; the input reads as it did. -/
def fnIndexOnceSpec : ChangeSpec := { name := "fnIndexOnce", fn := fun _ => fun
  | [d] => { results := [.lit (.bool true)], args := [d] }
  | _ => none }
def fnIndexOnceRow : OpenClaim := { program := "ytgjhmpgofmmniaa", sum := "ca5e999977d70af1f97fd68aeeb5f093c0dcca57de43f3208cacfeca2450e709", func := "loop.example/custumal/laws.FnIndexOnce", spec := "fnIndexOnce", unfollowed := true, recurses := true, apart := false }
def FnIndexOnceSaid : Prop := fnIndexOnceRow.holds Try.pinned (OpenSpec.ofChange fnIndexOnceSpec)

/-- ITS FALSE NEIGHBOUR: 'it returns false'. Refute it at one input. -/
def fnIndexOnceWrong : ChangeSpec := { name := "fnIndexOnce", fn := fun _ => fun
  | [d] => { results := [.lit (.bool false)], args := [d] }
  | _ => none }
def FnIndexOnceWrongFalsely : Prop := fnIndexOnceRow.holds Try.pinned (OpenSpec.ofChange fnIndexOnceWrong)

/-- 'laws.FnIndexAll': WHATEVER THE INPUT: true; the input reads as it did. -/
def fnIndexAllSpec : ChangeSpec := { name := "fnIndexAll", fn := fun _ => fun
  | [d] => { results := [.lit (.bool true)], args := [d] }
  | _ => none }
def fnIndexAllRow : OpenClaim := { program := "ytgjhmpgofmmniaa", sum := "ca5e999977d70af1f97fd68aeeb5f093c0dcca57de43f3208cacfeca2450e709", func := "loop.example/custumal/laws.FnIndexAll", spec := "fnIndexAll", unfollowed := true, recurses := true, apart := false }
def FnIndexAllSaid : Prop := fnIndexAllRow.holds Try.pinned (OpenSpec.ofChange fnIndexAllSpec)

/-- ITS FALSE NEIGHBOUR: 'it returns false'. Refute it at one input. -/
def fnIndexAllWrong : ChangeSpec := { name := "fnIndexAll", fn := fun _ => fun
  | [d] => { results := [.lit (.bool false)], args := [d] }
  | _ => none }
def FnIndexAllWrongFalsely : Prop := fnIndexAllRow.holds Try.pinned (OpenSpec.ofChange fnIndexAllWrong)

/-- 'laws.FnIndexSpan': WHATEVER THE INPUT: true; the input reads as it did. -/
def fnIndexSpanSpec : ChangeSpec := { name := "fnIndexSpan", fn := fun _ => fun
  | [d] => { results := [.lit (.bool true)], args := [d] }
  | _ => none }
def fnIndexSpanRow : OpenClaim := { program := "ytgjhmpgofmmniaa", sum := "ca5e999977d70af1f97fd68aeeb5f093c0dcca57de43f3208cacfeca2450e709", func := "loop.example/custumal/laws.FnIndexSpan", spec := "fnIndexSpan", unfollowed := true, recurses := true, apart := false }
def FnIndexSpanSaid : Prop := fnIndexSpanRow.holds Try.pinned (OpenSpec.ofChange fnIndexSpanSpec)

/-- ITS FALSE NEIGHBOUR: 'it returns false'. Refute it at one input. -/
def fnIndexSpanWrong : ChangeSpec := { name := "fnIndexSpan", fn := fun _ => fun
  | [d] => { results := [.lit (.bool false)], args := [d] }
  | _ => none }
def FnIndexSpanWrongFalsely : Prop := fnIndexSpanRow.holds Try.pinned (OpenSpec.ofChange fnIndexSpanWrong)

/-- 'laws.FnIndexPut': WHATEVER THE INPUT: true; the input reads as it did. -/
def fnIndexPutSpec : ChangeSpec := { name := "fnIndexPut", fn := fun _ => fun
  | [d] => { results := [.lit (.bool true)], args := [d] }
  | _ => none }
def fnIndexPutRow : OpenClaim := { program := "ytgjhmpgofmmniaa", sum := "ca5e999977d70af1f97fd68aeeb5f093c0dcca57de43f3208cacfeca2450e709", func := "loop.example/custumal/laws.FnIndexPut", spec := "fnIndexPut", inPlace := ["slices.overlaps[loop.example/custumal/impl.Entry]"], unfollowed := true, recurses := true, apart := false }
def FnIndexPutSaid : Prop := fnIndexPutRow.holds Try.pinned (OpenSpec.ofChange fnIndexPutSpec)

/-- ITS FALSE NEIGHBOUR: 'it returns false'. Refute it at one input. -/
def fnIndexPutWrong : ChangeSpec := { name := "fnIndexPut", fn := fun _ => fun
  | [d] => { results := [.lit (.bool false)], args := [d] }
  | _ => none }
def FnIndexPutWrongFalsely : Prop := fnIndexPutRow.holds Try.pinned (OpenSpec.ofChange fnIndexPutWrong)

/-- 'laws.FnIndexOff': WHATEVER THE INPUT: true; the input reads as it did. -/
def fnIndexOffSpec : ChangeSpec := { name := "fnIndexOff", fn := fun _ => fun
  | [d] => { results := [.lit (.bool true)], args := [d] }
  | _ => none }
def fnIndexOffRow : OpenClaim := { program := "ytgjhmpgofmmniaa", sum := "ca5e999977d70af1f97fd68aeeb5f093c0dcca57de43f3208cacfeca2450e709", func := "loop.example/custumal/laws.FnIndexOff", spec := "fnIndexOff", inPlace := ["slices.overlaps[loop.example/custumal/impl.Entry]"], unfollowed := true, recurses := true, apart := false }
def FnIndexOffSaid : Prop := fnIndexOffRow.holds Try.pinned (OpenSpec.ofChange fnIndexOffSpec)

/-- ITS FALSE NEIGHBOUR: 'it returns false'. Refute it at one input. -/
def fnIndexOffWrong : ChangeSpec := { name := "fnIndexOff", fn := fun _ => fun
  | [d] => { results := [.lit (.bool false)], args := [d] }
  | _ => none }
def FnIndexOffWrongFalsely : Prop := fnIndexOffRow.holds Try.pinned (OpenSpec.ofChange fnIndexOffWrong)

/- THE SECOND FORM. 'bulk': how many values and letters a reading holds, each counted each time it is reached (what is shared counts as often as it is met; a slice's spare places count too). A statement '..UptoSaid' is the law's where the arguments, and the package variables that the reading takes, are together of bulk at most 1048576: NARROWER than '..Said'. Prove '..Said' where nothing that the law and all that it calls make is longer than what came in: it says more and counts as full. Else prove '..UptoSaid'. A law counts once. -/
mutual
def uptoBulk {H : Type} : DataW H → Nat
  | .lit (.string bytes) => bytes.length + 1
  | .lit _ => 1
  | .nil => 1
  | .ptr d => uptoBulk d + 1
  | .slice elems spare => uptoBulkAll elems + uptoBulkAll spare + 1
  | .agg parts => uptoBulkAll parts + 1
  | .iface _ d => uptoBulk d + 1
  | .map entries => uptoBulkEntries entries + 1
  | .held _ => 1
def uptoBulkAll {H : Type} : List (DataW H) → Nat
  | [] => 0
  | d :: r => uptoBulk d + uptoBulkAll r
def uptoBulkEntries {H : Type} : List (Lit × DataW H) → Nat
  | [] => 0
  | x :: r => uptoBulkEntry x + uptoBulkEntries r
def uptoBulkEntry {H : Type} : Lit × DataW H → Nat
  | (.string bytes, d) => bytes.length + uptoBulk d + 1
  | (_, d) => uptoBulk d + 1
 end
def uptoSmall : (H : Type) → List (DataW H) → Bool := fun _ ds => decide (uptoBulkAll ds ≤ 1048576)
def OpenSpec.upto (s : _root_.Go.ChangeSpec) : _root_.Go.OpenSpec := { _root_.Go.OpenSpec.ofChange s with cond := some uptoSmall }

/-- 'laws.FnIndexOnce', WHERE WHAT IT READS IS OF BULK AT MOST 1048576: true; the input reads as it did. -/
def fnIndexOnceUptoRow : OpenClaim := { program := "ytgjhmpgofmmniaa", sum := "ca5e999977d70af1f97fd68aeeb5f093c0dcca57de43f3208cacfeca2450e709", func := "loop.example/custumal/laws.FnIndexOnce", spec := "fnIndexOnce", unfollowed := true, recurses := true, apart := false, narrowed := true }
def FnIndexOnceUptoSaid : Prop := fnIndexOnceUptoRow.holds Try.pinned (OpenSpec.upto fnIndexOnceSpec)

/-- 'laws.FnIndexAll', WHERE WHAT IT READS IS OF BULK AT MOST 1048576: true; the input reads as it did. -/
def fnIndexAllUptoRow : OpenClaim := { program := "ytgjhmpgofmmniaa", sum := "ca5e999977d70af1f97fd68aeeb5f093c0dcca57de43f3208cacfeca2450e709", func := "loop.example/custumal/laws.FnIndexAll", spec := "fnIndexAll", unfollowed := true, recurses := true, apart := false, narrowed := true }
def FnIndexAllUptoSaid : Prop := fnIndexAllUptoRow.holds Try.pinned (OpenSpec.upto fnIndexAllSpec)

/-- 'laws.FnIndexSpan', WHERE WHAT IT READS IS OF BULK AT MOST 1048576: true; the input reads as it did. -/
def fnIndexSpanUptoRow : OpenClaim := { program := "ytgjhmpgofmmniaa", sum := "ca5e999977d70af1f97fd68aeeb5f093c0dcca57de43f3208cacfeca2450e709", func := "loop.example/custumal/laws.FnIndexSpan", spec := "fnIndexSpan", unfollowed := true, recurses := true, apart := false, narrowed := true }
def FnIndexSpanUptoSaid : Prop := fnIndexSpanUptoRow.holds Try.pinned (OpenSpec.upto fnIndexSpanSpec)

/-- 'laws.FnIndexPut', WHERE WHAT IT READS IS OF BULK AT MOST 1048576: true; the input reads as it did. -/
def fnIndexPutUptoRow : OpenClaim := { program := "ytgjhmpgofmmniaa", sum := "ca5e999977d70af1f97fd68aeeb5f093c0dcca57de43f3208cacfeca2450e709", func := "loop.example/custumal/laws.FnIndexPut", spec := "fnIndexPut", inPlace := ["slices.overlaps[loop.example/custumal/impl.Entry]"], unfollowed := true, recurses := true, apart := false, narrowed := true }
def FnIndexPutUptoSaid : Prop := fnIndexPutUptoRow.holds Try.pinned (OpenSpec.upto fnIndexPutSpec)

/-- 'laws.FnIndexOff', WHERE WHAT IT READS IS OF BULK AT MOST 1048576: true; the input reads as it did. -/
def fnIndexOffUptoRow : OpenClaim := { program := "ytgjhmpgofmmniaa", sum := "ca5e999977d70af1f97fd68aeeb5f093c0dcca57de43f3208cacfeca2450e709", func := "loop.example/custumal/laws.FnIndexOff", spec := "fnIndexOff", inPlace := ["slices.overlaps[loop.example/custumal/impl.Entry]"], unfollowed := true, recurses := true, apart := false, narrowed := true }
def FnIndexOffUptoSaid : Prop := fnIndexOffUptoRow.holds Try.pinned (OpenSpec.upto fnIndexOffSpec)

end Rows
end Go.Proofs.Ytgjhmpgofmmniaa
