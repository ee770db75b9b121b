/-
  No cell of these rows narrows 'for every input' (looked for: loops, veiled, ifaces, maps, wideKeys, modest, calm, conditions, laid).
  DERIVED. THE GIVEN ROWS OF THIS SEAT. 3 by the template 'for every input the law returns true; each argument reads behind the call as it read before'; 0 by the template 'total and deterministic' (their statements: YtnlinlodgpbnlaaTotals.lean).
  GIVEN WITH THE SEED: the statements are not yours to turn. If you find one false, say at which input.
  Laid BY PROGRAM, IN A SANDBOX (cutbox-rows.mjs): the forced cells as the released guide's own fill.sh prints them over the translation 606d0d3da0966fbb… (all of the seat's roots in one cut). By AI agents, Wed Nov 11 2026. No macro, syntax, notation, axiom, sorry.
-/
import Derived.Test.YtnlinlodgpbnlaaChecked
import GoSem.Claim
import GoSem.ClaimJoined
import GoSem.ClaimMapViews
import Derived.JoinedTies
import Derived.KernelRfl
namespace Go.Proofs.Ytnlinlodgpbnlaa
/- THE CELL 'sum', in the pinned program and in every row, IS THE sha256 OF THE DUMP (.gsa) THAT YtnlinlodgpbnlaaProg.lean LOADS. Nothing in Lean hashes anything: it is a label: what it is worth is what the hold of that sum in a sandbox is worth. -/
noncomputable def Try.pinned : Pinned := { name := "ytnlinlodgpbnlaa", sum := "606d0d3da0966fbb9fa7d11972cfbb17f31bb5e269ae0c257a934fcb97656949", checked := Try.checked }
namespace Rows
def none {H : Type} : Left H := { results := [], args := [] }

/-- 'laws.FnExactLetterRight': WHATEVER THE INPUT: true; the input reads as it did. -/
def fnExactLetterRightSpec : ChangeSpec := { name := "fnExactLetterRight", fn := fun _ => fun
  | [d] => { results := [.lit (.bool true)], args := [d] }
  | _ => none }
def fnExactLetterRightRow : OpenClaim := { program := "ytnlinlodgpbnlaa", sum := "606d0d3da0966fbb9fa7d11972cfbb17f31bb5e269ae0c257a934fcb97656949", func := "loop.example/g00784/laws.FnExactLetterRight", spec := "fnExactLetterRight", unfollowed := true, recurses := true, apart := false }
def FnExactLetterRightSaid : Prop := fnExactLetterRightRow.holds Try.pinned (OpenSpec.ofChange fnExactLetterRightSpec)

/-- ITS FALSE NEIGHBOUR: 'it returns false'. Refute it at one input. -/
def fnExactLetterRightWrong : ChangeSpec := { name := "fnExactLetterRight", fn := fun _ => fun
  | [d] => { results := [.lit (.bool false)], args := [d] }
  | _ => none }
def FnExactLetterRightWrongFalsely : Prop := fnExactLetterRightRow.holds Try.pinned (OpenSpec.ofChange fnExactLetterRightWrong)

/-- 'laws.FnExactBodyOf': WHATEVER THE INPUT: true; the input reads as it did. -/
def fnExactBodyOfSpec : ChangeSpec := { name := "fnExactBodyOf", fn := fun _ => fun
  | [d] => { results := [.lit (.bool true)], args := [d] }
  | _ => none }
def fnExactBodyOfRow : OpenClaim := { program := "ytnlinlodgpbnlaa", sum := "606d0d3da0966fbb9fa7d11972cfbb17f31bb5e269ae0c257a934fcb97656949", func := "loop.example/g00784/laws.FnExactBodyOf", spec := "fnExactBodyOf", inPlace := ["internal/abi.NoEscape", "internal/bytealg.MakeNoZero"], unfollowed := true, recurses := true, apart := false }
def FnExactBodyOfSaid : Prop := fnExactBodyOfRow.holds Try.pinned (OpenSpec.ofChange fnExactBodyOfSpec)

/-- ITS FALSE NEIGHBOUR: 'it returns false'. Refute it at one input. -/
def fnExactBodyOfWrong : ChangeSpec := { name := "fnExactBodyOf", fn := fun _ => fun
  | [d] => { results := [.lit (.bool false)], args := [d] }
  | _ => none }
def FnExactBodyOfWrongFalsely : Prop := fnExactBodyOfRow.holds Try.pinned (OpenSpec.ofChange fnExactBodyOfWrong)

/-- 'laws.FnExactGateKey': WHATEVER THE INPUT: true; the input reads as it did. -/
def fnExactGateKeySpec : ChangeSpec := { name := "fnExactGateKey", fn := fun _ => fun
  | [d] => { results := [.lit (.bool true)], args := [d] }
  | _ => none }
def fnExactGateKeyRow : OpenClaim := { program := "ytnlinlodgpbnlaa", sum := "606d0d3da0966fbb9fa7d11972cfbb17f31bb5e269ae0c257a934fcb97656949", func := "loop.example/g00784/laws.FnExactGateKey", spec := "fnExactGateKey", inPlace := ["internal/abi.NoEscape", "internal/bytealg.MakeNoZero"], unfollowed := true, recurses := true, apart := false }
def FnExactGateKeySaid : Prop := fnExactGateKeyRow.holds Try.pinned (OpenSpec.ofChange fnExactGateKeySpec)

/-- ITS FALSE NEIGHBOUR: 'it returns false'. Refute it at one input. -/
def fnExactGateKeyWrong : ChangeSpec := { name := "fnExactGateKey", fn := fun _ => fun
  | [d] => { results := [.lit (.bool false)], args := [d] }
  | _ => none }
def FnExactGateKeyWrongFalsely : Prop := fnExactGateKeyRow.holds Try.pinned (OpenSpec.ofChange fnExactGateKeyWrong)

/- THE SECOND FORM. 'bulk': how many values and letters a reading holds, each counted each time it is reached (what is shared counts as often as it is met; a slice's spare places count too). A statement '..UptoSaid' is the law's where the arguments, and the package variables that the reading takes, are together of bulk at most 1048576: NARROWER than '..Said'. Prove '..Said' where nothing that the law and all that it calls make is longer than what came in: it says more and counts as full. Else prove '..UptoSaid'. A law counts once. -/
mutual
def uptoBulk {H : Type} : DataW H → Nat
  | .lit (.string bytes) => bytes.length + 1
  | .lit _ => 1
  | .nil => 1
  | .ptr d => uptoBulk d + 1
  | .slice elems spare => uptoBulkAll elems + uptoBulkAll spare + 1
  | .agg parts => uptoBulkAll parts + 1
  | .iface _ d => uptoBulk d + 1
  | .map entries => uptoBulkEntries entries + 1
  | .held _ => 1
def uptoBulkAll {H : Type} : List (DataW H) → Nat
  | [] => 0
  | d :: r => uptoBulk d + uptoBulkAll r
def uptoBulkEntries {H : Type} : List (Lit × DataW H) → Nat
  | [] => 0
  | x :: r => uptoBulkEntry x + uptoBulkEntries r
def uptoBulkEntry {H : Type} : Lit × DataW H → Nat
  | (.string bytes, d) => bytes.length + uptoBulk d + 1
  | (_, d) => uptoBulk d + 1
 end
def uptoSmall : (H : Type) → List (DataW H) → Bool := fun _ ds => decide (uptoBulkAll ds ≤ 1048576)
def OpenSpec.upto (s : _root_.Go.ChangeSpec) : _root_.Go.OpenSpec := { _root_.Go.OpenSpec.ofChange s with cond := some uptoSmall }

/-- 'laws.FnExactLetterRight', WHERE WHAT IT READS IS OF BULK AT MOST 1048576: true; the input reads as it did. -/
def fnExactLetterRightUptoRow : OpenClaim := { program := "ytnlinlodgpbnlaa", sum := "606d0d3da0966fbb9fa7d11972cfbb17f31bb5e269ae0c257a934fcb97656949", func := "loop.example/g00784/laws.FnExactLetterRight", spec := "fnExactLetterRight", unfollowed := true, recurses := true, apart := false, narrowed := true }
def FnExactLetterRightUptoSaid : Prop := fnExactLetterRightUptoRow.holds Try.pinned (OpenSpec.upto fnExactLetterRightSpec)

/-- 'laws.FnExactBodyOf', WHERE WHAT IT READS IS OF BULK AT MOST 1048576: true; the input reads as it did. -/
def fnExactBodyOfUptoRow : OpenClaim := { program := "ytnlinlodgpbnlaa", sum := "606d0d3da0966fbb9fa7d11972cfbb17f31bb5e269ae0c257a934fcb97656949", func := "loop.example/g00784/laws.FnExactBodyOf", spec := "fnExactBodyOf", inPlace := ["internal/abi.NoEscape", "internal/bytealg.MakeNoZero"], unfollowed := true, recurses := true, apart := false, narrowed := true }
def FnExactBodyOfUptoSaid : Prop := fnExactBodyOfUptoRow.holds Try.pinned (OpenSpec.upto fnExactBodyOfSpec)

/-- 'laws.FnExactGateKey', WHERE WHAT IT READS IS OF BULK AT MOST 1048576: true; the input reads as it did. -/
def fnExactGateKeyUptoRow : OpenClaim := { program := "ytnlinlodgpbnlaa", sum := "606d0d3da0966fbb9fa7d11972cfbb17f31bb5e269ae0c257a934fcb97656949", func := "loop.example/g00784/laws.FnExactGateKey", spec := "fnExactGateKey", inPlace := ["internal/abi.NoEscape", "internal/bytealg.MakeNoZero"], unfollowed := true, recurses := true, apart := false, narrowed := true }
def FnExactGateKeyUptoSaid : Prop := fnExactGateKeyUptoRow.holds Try.pinned (OpenSpec.upto fnExactGateKeySpec)

end Rows
end Go.Proofs.Ytnlinlodgpbnlaa
