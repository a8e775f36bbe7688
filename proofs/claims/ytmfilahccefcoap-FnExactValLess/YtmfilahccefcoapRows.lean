/-
  No cell of these rows narrows 'for every input' (looked for: loops, veiled, ifaces, maps, wideKeys, modest, calm, conditions, laid).
  DERIVED. THE GIVEN ROWS OF THIS SEAT. 5 by the template 'for every input the law returns true; each argument reads behind the call as it read before'; 0 by the template 'total and deterministic' (their statements: YtmfilahccefcoapTotals.lean).
  GIVEN WITH THE SEED: the statements are not yours to turn. If you find one false, say at which input.
  Laid BY PROGRAM, IN A SANDBOX (cutbox-rows.mjs): the forced cells as the released guide's own fill.sh prints them over the translation d230c1d159d5bcaf… (all of the seat's roots in one cut). By AI agents, Wed Nov 11 2026. No macro, syntax, notation, axiom, sorry.
-/
import Derived.Test.YtmfilahccefcoapChecked
import GoSem.Claim
import GoSem.ClaimJoined
import GoSem.ClaimMapViews
import Derived.JoinedTies
import Derived.KernelRfl
namespace Go.Proofs.Ytmfilahccefcoap
/- THE CELL 'sum', in the pinned program and in every row, IS THE sha256 OF THE DUMP (.gsa) THAT YtmfilahccefcoapProg.lean LOADS. Nothing in Lean hashes anything: it is a label: what it is worth is what the hold of that sum in a sandbox is worth. -/
noncomputable def Try.pinned : Pinned := { name := "ytmfilahccefcoap", sum := "d230c1d159d5bcafd394916cc3e4bbc9d0e53f7e2bf131d671bb87b190a46d55", checked := Try.checked }
namespace Rows
def none {H : Type} : Left H := { results := [], args := [] }

/-- 'laws.FnExactValLess': WHATEVER THE INPUT: true; the input reads as it did. -/
def fnExactValLessSpec : ChangeSpec := { name := "fnExactValLess", fn := fun _ => fun
  | [d1, d2] => { results := [.lit (.bool true)], args := [d1, d2] }
  | _ => none }
def fnExactValLessRow : OpenClaim := { program := "ytmfilahccefcoap", sum := "d230c1d159d5bcafd394916cc3e4bbc9d0e53f7e2bf131d671bb87b190a46d55", func := "loop.example/custumal/laws.FnExactValLess", spec := "fnExactValLess", apart := false }
def FnExactValLessSaid : Prop := fnExactValLessRow.holds Try.pinned (OpenSpec.ofChange fnExactValLessSpec)

/-- ITS FALSE NEIGHBOUR: 'it returns false'. Refute it at one input. -/
def fnExactValLessWrong : ChangeSpec := { name := "fnExactValLess", fn := fun _ => fun
  | [d1, d2] => { results := [.lit (.bool false)], args := [d1, d2] }
  | _ => none }
def FnExactValLessWrongFalsely : Prop := fnExactValLessRow.holds Try.pinned (OpenSpec.ofChange fnExactValLessWrong)

/-- 'laws.FnExactValText': WHATEVER THE INPUT: true; the input reads as it did. -/
def fnExactValTextSpec : ChangeSpec := { name := "fnExactValText", fn := fun _ => fun
  | [d] => { results := [.lit (.bool true)], args := [d] }
  | _ => none }
def fnExactValTextRow : OpenClaim := { program := "ytmfilahccefcoap", sum := "d230c1d159d5bcafd394916cc3e4bbc9d0e53f7e2bf131d671bb87b190a46d55", func := "loop.example/custumal/laws.FnExactValText", spec := "fnExactValText", unfollowed := true, recurses := true, apart := false }
def FnExactValTextSaid : Prop := fnExactValTextRow.holds Try.pinned (OpenSpec.ofChange fnExactValTextSpec)

/-- ITS FALSE NEIGHBOUR: 'it returns false'. Refute it at one input. -/
def fnExactValTextWrong : ChangeSpec := { name := "fnExactValText", fn := fun _ => fun
  | [d] => { results := [.lit (.bool false)], args := [d] }
  | _ => none }
def FnExactValTextWrongFalsely : Prop := fnExactValTextRow.holds Try.pinned (OpenSpec.ofChange fnExactValTextWrong)

/-- 'laws.FnExactValAs': WHATEVER THE INPUT: true; the input reads as it did. -/
def fnExactValAsSpec : ChangeSpec := { name := "fnExactValAs", fn := fun _ => fun
  | [d1, d2] => { results := [.lit (.bool true)], args := [d1, d2] }
  | _ => none }
def fnExactValAsRow : OpenClaim := { program := "ytmfilahccefcoap", sum := "d230c1d159d5bcafd394916cc3e4bbc9d0e53f7e2bf131d671bb87b190a46d55", func := "loop.example/custumal/laws.FnExactValAs", spec := "fnExactValAs", unfollowed := true, recurses := true, apart := false }
def FnExactValAsSaid : Prop := fnExactValAsRow.holds Try.pinned (OpenSpec.ofChange fnExactValAsSpec)

/-- ITS FALSE NEIGHBOUR: 'it returns false'. Refute it at one input. -/
def fnExactValAsWrong : ChangeSpec := { name := "fnExactValAs", fn := fun _ => fun
  | [d1, d2] => { results := [.lit (.bool false)], args := [d1, d2] }
  | _ => none }
def FnExactValAsWrongFalsely : Prop := fnExactValAsRow.holds Try.pinned (OpenSpec.ofChange fnExactValAsWrong)

/-- 'laws.FnExactColOk': WHATEVER THE INPUT: true; the input reads as it did. -/
def fnExactColOkSpec : ChangeSpec := { name := "fnExactColOk", fn := fun _ => fun
  | [d] => { results := [.lit (.bool true)], args := [d] }
  | _ => none }
def fnExactColOkRow : OpenClaim := { program := "ytmfilahccefcoap", sum := "d230c1d159d5bcafd394916cc3e4bbc9d0e53f7e2bf131d671bb87b190a46d55", func := "loop.example/custumal/laws.FnExactColOk", spec := "fnExactColOk", unfollowed := true, recurses := true, apart := false }
def FnExactColOkSaid : Prop := fnExactColOkRow.holds Try.pinned (OpenSpec.ofChange fnExactColOkSpec)

/-- ITS FALSE NEIGHBOUR: 'it returns false'. Refute it at one input. -/
def fnExactColOkWrong : ChangeSpec := { name := "fnExactColOk", fn := fun _ => fun
  | [d] => { results := [.lit (.bool false)], args := [d] }
  | _ => none }
def FnExactColOkWrongFalsely : Prop := fnExactColOkRow.holds Try.pinned (OpenSpec.ofChange fnExactColOkWrong)

/-- 'laws.FnExactShapeOk': WHATEVER THE INPUT: true; the input reads as it did. -/
def fnExactShapeOkSpec : ChangeSpec := { name := "fnExactShapeOk", fn := fun _ => fun
  | [d] => { results := [.lit (.bool true)], args := [d] }
  | _ => none }
def fnExactShapeOkRow : OpenClaim := { program := "ytmfilahccefcoap", sum := "d230c1d159d5bcafd394916cc3e4bbc9d0e53f7e2bf131d671bb87b190a46d55", func := "loop.example/custumal/laws.FnExactShapeOk", spec := "fnExactShapeOk", unfollowed := true, recurses := true, apart := false }
def FnExactShapeOkSaid : Prop := fnExactShapeOkRow.holds Try.pinned (OpenSpec.ofChange fnExactShapeOkSpec)

/-- ITS FALSE NEIGHBOUR: 'it returns false'. Refute it at one input. -/
def fnExactShapeOkWrong : ChangeSpec := { name := "fnExactShapeOk", fn := fun _ => fun
  | [d] => { results := [.lit (.bool false)], args := [d] }
  | _ => none }
def FnExactShapeOkWrongFalsely : Prop := fnExactShapeOkRow.holds Try.pinned (OpenSpec.ofChange fnExactShapeOkWrong)

/- THE SECOND FORM. 'bulk': how many values and letters a reading holds, each counted each time it is reached (what is shared counts as often as it is met; a slice's spare places count too). A statement '..UptoSaid' is the law's where the arguments, and the package variables that the reading takes, are together of bulk at most 1048576: NARROWER than '..Said'. Prove '..Said' where nothing that the law and all that it calls make is longer than what came in: it says more and counts as full. Else prove '..UptoSaid'. A law counts once. -/
mutual
def uptoBulk {H : Type} : DataW H → Nat
  | .lit (.string bytes) => bytes.length + 1
  | .lit _ => 1
  | .nil => 1
  | .ptr d => uptoBulk d + 1
  | .slice elems spare => uptoBulkAll elems + uptoBulkAll spare + 1
  | .agg parts => uptoBulkAll parts + 1
  | .iface _ d => uptoBulk d + 1
  | .map entries => uptoBulkEntries entries + 1
  | .held _ => 1
def uptoBulkAll {H : Type} : List (DataW H) → Nat
  | [] => 0
  | d :: r => uptoBulk d + uptoBulkAll r
def uptoBulkEntries {H : Type} : List (Lit × DataW H) → Nat
  | [] => 0
  | x :: r => uptoBulkEntry x + uptoBulkEntries r
def uptoBulkEntry {H : Type} : Lit × DataW H → Nat
  | (.string bytes, d) => bytes.length + uptoBulk d + 1
  | (_, d) => uptoBulk d + 1
 end
def uptoSmall : (H : Type) → List (DataW H) → Bool := fun _ ds => decide (uptoBulkAll ds ≤ 1048576)
def OpenSpec.upto (s : _root_.Go.ChangeSpec) : _root_.Go.OpenSpec := { _root_.Go.OpenSpec.ofChange s with cond := some uptoSmall }

/-- 'laws.FnExactValLess', WHERE WHAT IT READS IS OF BULK AT MOST 1048576: true; the input reads as it did. -/
def fnExactValLessUptoRow : OpenClaim := { program := "ytmfilahccefcoap", sum := "d230c1d159d5bcafd394916cc3e4bbc9d0e53f7e2bf131d671bb87b190a46d55", func := "loop.example/custumal/laws.FnExactValLess", spec := "fnExactValLess", apart := false, narrowed := true }
def FnExactValLessUptoSaid : Prop := fnExactValLessUptoRow.holds Try.pinned (OpenSpec.upto fnExactValLessSpec)

/-- 'laws.FnExactValText', WHERE WHAT IT READS IS OF BULK AT MOST 1048576: true; the input reads as it did. -/
def fnExactValTextUptoRow : OpenClaim := { program := "ytmfilahccefcoap", sum := "d230c1d159d5bcafd394916cc3e4bbc9d0e53f7e2bf131d671bb87b190a46d55", func := "loop.example/custumal/laws.FnExactValText", spec := "fnExactValText", unfollowed := true, recurses := true, apart := false, narrowed := true }
def FnExactValTextUptoSaid : Prop := fnExactValTextUptoRow.holds Try.pinned (OpenSpec.upto fnExactValTextSpec)

/-- 'laws.FnExactValAs', WHERE WHAT IT READS IS OF BULK AT MOST 1048576: true; the input reads as it did. -/
def fnExactValAsUptoRow : OpenClaim := { program := "ytmfilahccefcoap", sum := "d230c1d159d5bcafd394916cc3e4bbc9d0e53f7e2bf131d671bb87b190a46d55", func := "loop.example/custumal/laws.FnExactValAs", spec := "fnExactValAs", unfollowed := true, recurses := true, apart := false, narrowed := true }
def FnExactValAsUptoSaid : Prop := fnExactValAsUptoRow.holds Try.pinned (OpenSpec.upto fnExactValAsSpec)

/-- 'laws.FnExactColOk', WHERE WHAT IT READS IS OF BULK AT MOST 1048576: true; the input reads as it did. -/
def fnExactColOkUptoRow : OpenClaim := { program := "ytmfilahccefcoap", sum := "d230c1d159d5bcafd394916cc3e4bbc9d0e53f7e2bf131d671bb87b190a46d55", func := "loop.example/custumal/laws.FnExactColOk", spec := "fnExactColOk", unfollowed := true, recurses := true, apart := false, narrowed := true }
def FnExactColOkUptoSaid : Prop := fnExactColOkUptoRow.holds Try.pinned (OpenSpec.upto fnExactColOkSpec)

/-- 'laws.FnExactShapeOk', WHERE WHAT IT READS IS OF BULK AT MOST 1048576: true; the input reads as it did. -/
def fnExactShapeOkUptoRow : OpenClaim := { program := "ytmfilahccefcoap", sum := "d230c1d159d5bcafd394916cc3e4bbc9d0e53f7e2bf131d671bb87b190a46d55", func := "loop.example/custumal/laws.FnExactShapeOk", spec := "fnExactShapeOk", unfollowed := true, recurses := true, apart := false, narrowed := true }
def FnExactShapeOkUptoSaid : Prop := fnExactShapeOkUptoRow.holds Try.pinned (OpenSpec.upto fnExactShapeOkSpec)

end Rows
end Go.Proofs.Ytmfilahccefcoap
