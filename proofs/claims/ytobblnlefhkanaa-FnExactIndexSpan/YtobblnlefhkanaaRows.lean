/-
  No cell of these rows narrows 'for every input' (looked for: loops, veiled, ifaces, maps, wideKeys, modest, calm, conditions, laid).
  DERIVED. THE GIVEN ROWS OF THIS SEAT. 6 by the template 'for every input the law returns true; each argument reads behind the call as it read before'; 0 by the template 'total and deterministic' (their statements: YtobblnlefhkanaaTotals.lean).
  GIVEN WITH THE SEED: the statements are not yours to turn. If you find one false, say at which input.
  Laid BY PROGRAM, IN A SANDBOX (cutbox-rows.mjs): the forced cells as the released guide's own fill.sh prints them over the translation 425b4deb7d0d979c… (all of the seat's roots in one cut). By AI agents, Wed Nov 11 2026. No macro, syntax, notation, axiom, sorry.
-/
import Derived.Test.YtobblnlefhkanaaChecked
import GoSem.Claim
import GoSem.ClaimJoined
import GoSem.ClaimMapViews
import Derived.JoinedTies
import Derived.KernelRfl
namespace Go.Proofs.Ytobblnlefhkanaa
/- THE CELL 'sum', in the pinned program and in every row, IS THE sha256 OF THE DUMP (.gsa) THAT YtobblnlefhkanaaProg.lean LOADS. Nothing in Lean hashes anything: it is a label: what it is worth is what the hold of that sum in a sandbox is worth. -/
noncomputable def Try.pinned : Pinned := { name := "ytobblnlefhkanaa", sum := "425b4deb7d0d979ce118a210d98a6539c5f851a08949a0f46ff34935ce03ef17", checked := Try.checked }
namespace Rows
def none {H : Type} : Left H := { results := [], args := [] }

/-- 'laws.FnExactIndexOk': WHATEVER THE INPUT: true; the input reads as it did. -/
def fnExactIndexOkSpec : ChangeSpec := { name := "fnExactIndexOk", fn := fun _ => fun
  | [d] => { results := [.lit (.bool true)], args := [d] }
  | _ => none }
def fnExactIndexOkRow : OpenClaim := { program := "ytobblnlefhkanaa", sum := "425b4deb7d0d979ce118a210d98a6539c5f851a08949a0f46ff34935ce03ef17", func := "loop.example/custumal/laws.FnExactIndexOk", spec := "fnExactIndexOk", unfollowed := true, recurses := true, apart := false }
def FnExactIndexOkSaid : Prop := fnExactIndexOkRow.holds Try.pinned (OpenSpec.ofChange fnExactIndexOkSpec)

/-- ITS FALSE NEIGHBOUR: 'it returns false'. Refute it at one input. -/
def fnExactIndexOkWrong : ChangeSpec := { name := "fnExactIndexOk", fn := fun _ => fun
  | [d] => { results := [.lit (.bool false)], args := [d] }
  | _ => none }
def FnExactIndexOkWrongFalsely : Prop := fnExactIndexOkRow.holds Try.pinned (OpenSpec.ofChange fnExactIndexOkWrong)

/-- 'laws.FnExactIndexOnce': WHATEVER THE INPUT: true; the input reads as it did. -/
def fnExactIndexOnceSpec : ChangeSpec := { name := "fnExactIndexOnce", fn := fun _ => fun
  | [d] => { results := [.lit (.bool true)], args := [d] }
  | _ => none }
def fnExactIndexOnceRow : OpenClaim := { program := "ytobblnlefhkanaa", sum := "425b4deb7d0d979ce118a210d98a6539c5f851a08949a0f46ff34935ce03ef17", func := "loop.example/custumal/laws.FnExactIndexOnce", spec := "fnExactIndexOnce", unfollowed := true, recurses := true, apart := false }
def FnExactIndexOnceSaid : Prop := fnExactIndexOnceRow.holds Try.pinned (OpenSpec.ofChange fnExactIndexOnceSpec)

/-- ITS FALSE NEIGHBOUR: 'it returns false'. Refute it at one input. -/
def fnExactIndexOnceWrong : ChangeSpec := { name := "fnExactIndexOnce", fn := fun _ => fun
  | [d] => { results := [.lit (.bool false)], args := [d] }
  | _ => none }
def FnExactIndexOnceWrongFalsely : Prop := fnExactIndexOnceRow.holds Try.pinned (OpenSpec.ofChange fnExactIndexOnceWrong)

/-- 'laws.FnExactIndexOff': WHATEVER THE INPUT: true; the input reads as it did. -/
def fnExactIndexOffSpec : ChangeSpec := { name := "fnExactIndexOff", fn := fun _ => fun
  | [d1, d2] => { results := [.lit (.bool true)], args := [d1, d2] }
  | _ => none }
def fnExactIndexOffRow : OpenClaim := { program := "ytobblnlefhkanaa", sum := "425b4deb7d0d979ce118a210d98a6539c5f851a08949a0f46ff34935ce03ef17", func := "loop.example/custumal/laws.FnExactIndexOff", spec := "fnExactIndexOff", unfollowed := true, recurses := true, apart := false }
def FnExactIndexOffSaid : Prop := fnExactIndexOffRow.holds Try.pinned (OpenSpec.ofChange fnExactIndexOffSpec)

/-- ITS FALSE NEIGHBOUR: 'it returns false'. Refute it at one input. -/
def fnExactIndexOffWrong : ChangeSpec := { name := "fnExactIndexOff", fn := fun _ => fun
  | [d1, d2] => { results := [.lit (.bool false)], args := [d1, d2] }
  | _ => none }
def FnExactIndexOffWrongFalsely : Prop := fnExactIndexOffRow.holds Try.pinned (OpenSpec.ofChange fnExactIndexOffWrong)

/-- 'laws.FnExactIndexPut': WHATEVER THE INPUT: true; the input reads as it did. -/
def fnExactIndexPutSpec : ChangeSpec := { name := "fnExactIndexPut", fn := fun _ => fun
  | [d1, d2] => { results := [.lit (.bool true)], args := [d1, d2] }
  | _ => none }
def fnExactIndexPutRow : OpenClaim := { program := "ytobblnlefhkanaa", sum := "425b4deb7d0d979ce118a210d98a6539c5f851a08949a0f46ff34935ce03ef17", func := "loop.example/custumal/laws.FnExactIndexPut", spec := "fnExactIndexPut", inPlace := ["slices.overlaps[loop.example/custumal/impl.Entry]"], unfollowed := true, recurses := true, apart := false }
def FnExactIndexPutSaid : Prop := fnExactIndexPutRow.holds Try.pinned (OpenSpec.ofChange fnExactIndexPutSpec)

/-- ITS FALSE NEIGHBOUR: 'it returns false'. Refute it at one input. -/
def fnExactIndexPutWrong : ChangeSpec := { name := "fnExactIndexPut", fn := fun _ => fun
  | [d1, d2] => { results := [.lit (.bool false)], args := [d1, d2] }
  | _ => none }
def FnExactIndexPutWrongFalsely : Prop := fnExactIndexPutRow.holds Try.pinned (OpenSpec.ofChange fnExactIndexPutWrong)

/-- 'laws.FnExactIndexSpan': WHATEVER THE INPUT: true; the input reads as it did. -/
def fnExactIndexSpanSpec : ChangeSpec := { name := "fnExactIndexSpan", fn := fun _ => fun
  | [d1, d2, d3] => { results := [.lit (.bool true)], args := [d1, d2, d3] }
  | _ => none }
def fnExactIndexSpanRow : OpenClaim := { program := "ytobblnlefhkanaa", sum := "425b4deb7d0d979ce118a210d98a6539c5f851a08949a0f46ff34935ce03ef17", func := "loop.example/custumal/laws.FnExactIndexSpan", spec := "fnExactIndexSpan", unfollowed := true, recurses := true, apart := false }
def FnExactIndexSpanSaid : Prop := fnExactIndexSpanRow.holds Try.pinned (OpenSpec.ofChange fnExactIndexSpanSpec)

/-- ITS FALSE NEIGHBOUR: 'it returns false'. Refute it at one input. -/
def fnExactIndexSpanWrong : ChangeSpec := { name := "fnExactIndexSpan", fn := fun _ => fun
  | [d1, d2, d3] => { results := [.lit (.bool false)], args := [d1, d2, d3] }
  | _ => none }
def FnExactIndexSpanWrongFalsely : Prop := fnExactIndexSpanRow.holds Try.pinned (OpenSpec.ofChange fnExactIndexSpanWrong)

/-- 'laws.FnExactIndexFind': WHATEVER THE INPUT: true; the input reads as it did. -/
def fnExactIndexFindSpec : ChangeSpec := { name := "fnExactIndexFind", fn := fun _ => fun
  | [d1, d2] => { results := [.lit (.bool true)], args := [d1, d2] }
  | _ => none }
def fnExactIndexFindRow : OpenClaim := { program := "ytobblnlefhkanaa", sum := "425b4deb7d0d979ce118a210d98a6539c5f851a08949a0f46ff34935ce03ef17", func := "loop.example/custumal/laws.FnExactIndexFind", spec := "fnExactIndexFind", unfollowed := true, recurses := true, apart := false }
def FnExactIndexFindSaid : Prop := fnExactIndexFindRow.holds Try.pinned (OpenSpec.ofChange fnExactIndexFindSpec)

/-- ITS FALSE NEIGHBOUR: 'it returns false'. Refute it at one input. -/
def fnExactIndexFindWrong : ChangeSpec := { name := "fnExactIndexFind", fn := fun _ => fun
  | [d1, d2] => { results := [.lit (.bool false)], args := [d1, d2] }
  | _ => none }
def FnExactIndexFindWrongFalsely : Prop := fnExactIndexFindRow.holds Try.pinned (OpenSpec.ofChange fnExactIndexFindWrong)

/- THE SECOND FORM. 'bulk': how many values and letters a reading holds, each counted each time it is reached (what is shared counts as often as it is met; a slice's spare places count too). A statement '..UptoSaid' is the law's where the arguments, and the package variables that the reading takes, are together of bulk at most 1048576: NARROWER than '..Said'. Prove '..Said' where nothing that the law and all that it calls make is longer than what came in: it says more and counts as full. Else prove '..UptoSaid'. A law counts once. -/
mutual
def uptoBulk {H : Type} : DataW H → Nat
  | .lit (.string bytes) => bytes.length + 1
  | .lit _ => 1
  | .nil => 1
  | .ptr d => uptoBulk d + 1
  | .slice elems spare => uptoBulkAll elems + uptoBulkAll spare + 1
  | .agg parts => uptoBulkAll parts + 1
  | .iface _ d => uptoBulk d + 1
  | .map entries => uptoBulkEntries entries + 1
  | .held _ => 1
def uptoBulkAll {H : Type} : List (DataW H) → Nat
  | [] => 0
  | d :: r => uptoBulk d + uptoBulkAll r
def uptoBulkEntries {H : Type} : List (Lit × DataW H) → Nat
  | [] => 0
  | x :: r => uptoBulkEntry x + uptoBulkEntries r
def uptoBulkEntry {H : Type} : Lit × DataW H → Nat
  | (.string bytes, d) => bytes.length + uptoBulk d + 1
  | (_, d) => uptoBulk d + 1
 end
def uptoSmall : (H : Type) → List (DataW H) → Bool := fun _ ds => decide (uptoBulkAll ds ≤ 1048576)
def OpenSpec.upto (s : _root_.Go.ChangeSpec) : _root_.Go.OpenSpec := { _root_.Go.OpenSpec.ofChange s with cond := some uptoSmall }

/-- 'laws.FnExactIndexOk', WHERE WHAT IT READS IS OF BULK AT MOST 1048576: true; the input reads as it did. -/
def fnExactIndexOkUptoRow : OpenClaim := { program := "ytobblnlefhkanaa", sum := "425b4deb7d0d979ce118a210d98a6539c5f851a08949a0f46ff34935ce03ef17", func := "loop.example/custumal/laws.FnExactIndexOk", spec := "fnExactIndexOk", unfollowed := true, recurses := true, apart := false, narrowed := true }
def FnExactIndexOkUptoSaid : Prop := fnExactIndexOkUptoRow.holds Try.pinned (OpenSpec.upto fnExactIndexOkSpec)

/-- 'laws.FnExactIndexOnce', WHERE WHAT IT READS IS OF BULK AT MOST 1048576: true; the input reads as it did. -/
def fnExactIndexOnceUptoRow : OpenClaim := { program := "ytobblnlefhkanaa", sum := "425b4deb7d0d979ce118a210d98a6539c5f851a08949a0f46ff34935ce03ef17", func := "loop.example/custumal/laws.FnExactIndexOnce", spec := "fnExactIndexOnce", unfollowed := true, recurses := true, apart := false, narrowed := true }
def FnExactIndexOnceUptoSaid : Prop := fnExactIndexOnceUptoRow.holds Try.pinned (OpenSpec.upto fnExactIndexOnceSpec)

/-- 'laws.FnExactIndexOff', WHERE WHAT IT READS IS OF BULK AT MOST 1048576: true; the input reads as it did. -/
def fnExactIndexOffUptoRow : OpenClaim := { program := "ytobblnlefhkanaa", sum := "425b4deb7d0d979ce118a210d98a6539c5f851a08949a0f46ff34935ce03ef17", func := "loop.example/custumal/laws.FnExactIndexOff", spec := "fnExactIndexOff", unfollowed := true, recurses := true, apart := false, narrowed := true }
def FnExactIndexOffUptoSaid : Prop := fnExactIndexOffUptoRow.holds Try.pinned (OpenSpec.upto fnExactIndexOffSpec)

/-- 'laws.FnExactIndexPut', WHERE WHAT IT READS IS OF BULK AT MOST 1048576: true; the input reads as it did. -/
def fnExactIndexPutUptoRow : OpenClaim := { program := "ytobblnlefhkanaa", sum := "425b4deb7d0d979ce118a210d98a6539c5f851a08949a0f46ff34935ce03ef17", func := "loop.example/custumal/laws.FnExactIndexPut", spec := "fnExactIndexPut", inPlace := ["slices.overlaps[loop.example/custumal/impl.Entry]"], unfollowed := true, recurses := true, apart := false, narrowed := true }
def FnExactIndexPutUptoSaid : Prop := fnExactIndexPutUptoRow.holds Try.pinned (OpenSpec.upto fnExactIndexPutSpec)

/-- 'laws.FnExactIndexSpan', WHERE WHAT IT READS IS OF BULK AT MOST 1048576: true; the input reads as it did. -/
def fnExactIndexSpanUptoRow : OpenClaim := { program := "ytobblnlefhkanaa", sum := "425b4deb7d0d979ce118a210d98a6539c5f851a08949a0f46ff34935ce03ef17", func := "loop.example/custumal/laws.FnExactIndexSpan", spec := "fnExactIndexSpan", unfollowed := true, recurses := true, apart := false, narrowed := true }
def FnExactIndexSpanUptoSaid : Prop := fnExactIndexSpanUptoRow.holds Try.pinned (OpenSpec.upto fnExactIndexSpanSpec)

/-- 'laws.FnExactIndexFind', WHERE WHAT IT READS IS OF BULK AT MOST 1048576: true; the input reads as it did. -/
def fnExactIndexFindUptoRow : OpenClaim := { program := "ytobblnlefhkanaa", sum := "425b4deb7d0d979ce118a210d98a6539c5f851a08949a0f46ff34935ce03ef17", func := "loop.example/custumal/laws.FnExactIndexFind", spec := "fnExactIndexFind", unfollowed := true, recurses := true, apart := false, narrowed := true }
def FnExactIndexFindUptoSaid : Prop := fnExactIndexFindUptoRow.holds Try.pinned (OpenSpec.upto fnExactIndexFindSpec)

end Rows
end Go.Proofs.Ytobblnlefhkanaa
