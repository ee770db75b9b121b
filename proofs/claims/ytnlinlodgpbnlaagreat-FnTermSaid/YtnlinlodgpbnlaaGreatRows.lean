/-
  No cell of these rows narrows 'for every input' (looked for: loops, veiled, ifaces, maps, wideKeys, modest, calm, conditions, laid).
  DERIVED. THE GIVEN ROWS OF THIS SEAT. 6 by the template 'for every input the law returns true; each argument reads behind the call as it read before'; 0 by the template 'total and deterministic' (their statements: YtnlinlodgpbnlaaGreatTotals.lean).
  GIVEN WITH THE SEED: the statements are not yours to turn. If you find one false, say at which input.
  Laid BY PROGRAM, IN A SANDBOX (cutbox-rows.mjs): the forced cells as the released guide's own fill.sh prints them over the translation 96f927afd15e84f4… (all of the seat's roots in one cut). By AI agents, Wed Nov 11 2026. No macro, syntax, notation, axiom, sorry.
-/
import Derived.Test.YtnlinlodgpbnlaaGreatChecked
import GoSem.Claim
import GoSem.ClaimJoined
import GoSem.ClaimMapViews
import Derived.JoinedTies
import Derived.KernelRfl
namespace Go.Proofs.YtnlinlodgpbnlaaGreat
/- THE CELL 'sum', in the pinned program and in every row, IS THE sha256 OF THE DUMP (.gsa) THAT YtnlinlodgpbnlaaGreatProg.lean LOADS. Nothing in Lean hashes anything: it is a label: what it is worth is what the hold of that sum in a sandbox is worth. -/
noncomputable def Tryz.pinned : Pinned := { name := "ytnlinlodgpbnlaagreat", sum := "96f927afd15e84f4154ae316cc3767d64167e715c95163786aab4a36fa81884a", checked := Tryz.checked }
namespace Rows
def none {H : Type} : Left H := { results := [], args := [] }

/-- 'laws.FnTerm': WHATEVER THE INPUT: true; the input reads as it did. -/
def fnTermSpec : ChangeSpec := { name := "fnTerm", fn := fun _ => fun
  | [d1, d2] => { results := [.lit (.bool true)], args := [d1, d2] }
  | _ => none }
def fnTermRow : OpenClaim := { program := "ytnlinlodgpbnlaagreat", sum := "96f927afd15e84f4154ae316cc3767d64167e715c95163786aab4a36fa81884a", func := "loop.example/g00784/laws.FnTerm", spec := "fnTerm", inPlace := ["internal/abi.NoEscape", "internal/bytealg.MakeNoZero"], unfollowed := true, recurses := true, apart := false }
def FnTermSaid : Prop := fnTermRow.holds Tryz.pinned (OpenSpec.ofChange fnTermSpec)

/-- ITS FALSE NEIGHBOUR: 'it returns false'. Refute it at one input. -/
def fnTermWrong : ChangeSpec := { name := "fnTerm", fn := fun _ => fun
  | [d1, d2] => { results := [.lit (.bool false)], args := [d1, d2] }
  | _ => none }
def FnTermWrongFalsely : Prop := fnTermRow.holds Tryz.pinned (OpenSpec.ofChange fnTermWrong)

/-- 'laws.FnKnow': WHATEVER THE INPUT: true; the input reads as it did. -/
def fnKnowSpec : ChangeSpec := { name := "fnKnow", fn := fun _ => fun
  | [d1, d2] => { results := [.lit (.bool true)], args := [d1, d2] }
  | _ => none }
def fnKnowRow : OpenClaim := { program := "ytnlinlodgpbnlaagreat", sum := "96f927afd15e84f4154ae316cc3767d64167e715c95163786aab4a36fa81884a", func := "loop.example/g00784/laws.FnKnow", spec := "fnKnow", inPlace := ["internal/abi.NoEscape", "internal/bytealg.MakeNoZero"], unfollowed := true, recurses := true, apart := false }
def FnKnowSaid : Prop := fnKnowRow.holds Tryz.pinned (OpenSpec.ofChange fnKnowSpec)

/-- ITS FALSE NEIGHBOUR: 'it returns false'. Refute it at one input. -/
def fnKnowWrong : ChangeSpec := { name := "fnKnow", fn := fun _ => fun
  | [d1, d2] => { results := [.lit (.bool false)], args := [d1, d2] }
  | _ => none }
def FnKnowWrongFalsely : Prop := fnKnowRow.holds Tryz.pinned (OpenSpec.ofChange fnKnowWrong)

/-- 'laws.FnExactSign': WHATEVER THE INPUT: true; the input reads as it did. -/
def fnExactSignSpec : ChangeSpec := { name := "fnExactSign", fn := fun _ => fun
  | [d1, d2] => { results := [.lit (.bool true)], args := [d1, d2] }
  | _ => none }
def fnExactSignRow : OpenClaim := { program := "ytnlinlodgpbnlaagreat", sum := "96f927afd15e84f4154ae316cc3767d64167e715c95163786aab4a36fa81884a", func := "loop.example/g00784/laws.FnExactSign", spec := "fnExactSign", inPlace := ["internal/abi.NoEscape", "internal/bytealg.MakeNoZero"], unfollowed := true, recurses := true, apart := false }
def FnExactSignSaid : Prop := fnExactSignRow.holds Tryz.pinned (OpenSpec.ofChange fnExactSignSpec)

/-- ITS FALSE NEIGHBOUR: 'it returns false'. Refute it at one input. -/
def fnExactSignWrong : ChangeSpec := { name := "fnExactSign", fn := fun _ => fun
  | [d1, d2] => { results := [.lit (.bool false)], args := [d1, d2] }
  | _ => none }
def FnExactSignWrongFalsely : Prop := fnExactSignRow.holds Tryz.pinned (OpenSpec.ofChange fnExactSignWrong)

/-- 'laws.FnExactSignTwice': WHATEVER THE INPUT: true; the input reads as it did. -/
def fnExactSignTwiceSpec : ChangeSpec := { name := "fnExactSignTwice", fn := fun _ => fun
  | [d1, d2] => { results := [.lit (.bool true)], args := [d1, d2] }
  | _ => none }
def fnExactSignTwiceRow : OpenClaim := { program := "ytnlinlodgpbnlaagreat", sum := "96f927afd15e84f4154ae316cc3767d64167e715c95163786aab4a36fa81884a", func := "loop.example/g00784/laws.FnExactSignTwice", spec := "fnExactSignTwice", inPlace := ["internal/abi.NoEscape", "internal/bytealg.MakeNoZero"], unfollowed := true, recurses := true, apart := false }
def FnExactSignTwiceSaid : Prop := fnExactSignTwiceRow.holds Tryz.pinned (OpenSpec.ofChange fnExactSignTwiceSpec)

/-- ITS FALSE NEIGHBOUR: 'it returns false'. Refute it at one input. -/
def fnExactSignTwiceWrong : ChangeSpec := { name := "fnExactSignTwice", fn := fun _ => fun
  | [d1, d2] => { results := [.lit (.bool false)], args := [d1, d2] }
  | _ => none }
def FnExactSignTwiceWrongFalsely : Prop := fnExactSignTwiceRow.holds Tryz.pinned (OpenSpec.ofChange fnExactSignTwiceWrong)

/-- 'laws.FnExactMac1Fits': WHATEVER THE INPUT: true; the input reads as it did. -/
def fnExactMac1FitsSpec : ChangeSpec := { name := "fnExactMac1Fits", fn := fun _ => fun
  | [d1, d2] => { results := [.lit (.bool true)], args := [d1, d2] }
  | _ => none }
def fnExactMac1FitsRow : OpenClaim := { program := "ytnlinlodgpbnlaagreat", sum := "96f927afd15e84f4154ae316cc3767d64167e715c95163786aab4a36fa81884a", func := "loop.example/g00784/laws.FnExactMac1Fits", spec := "fnExactMac1Fits", inPlace := ["internal/abi.NoEscape", "internal/bytealg.MakeNoZero"], unfollowed := true, recurses := true, apart := false }
def FnExactMac1FitsSaid : Prop := fnExactMac1FitsRow.holds Tryz.pinned (OpenSpec.ofChange fnExactMac1FitsSpec)

/-- ITS FALSE NEIGHBOUR: 'it returns false'. Refute it at one input. -/
def fnExactMac1FitsWrong : ChangeSpec := { name := "fnExactMac1Fits", fn := fun _ => fun
  | [d1, d2] => { results := [.lit (.bool false)], args := [d1, d2] }
  | _ => none }
def FnExactMac1FitsWrongFalsely : Prop := fnExactMac1FitsRow.holds Tryz.pinned (OpenSpec.ofChange fnExactMac1FitsWrong)

/-- 'laws.FnExactMac2Fits': WHATEVER THE INPUT: true; the input reads as it did. -/
def fnExactMac2FitsSpec : ChangeSpec := { name := "fnExactMac2Fits", fn := fun _ => fun
  | [d1, d2] => { results := [.lit (.bool true)], args := [d1, d2] }
  | _ => none }
def fnExactMac2FitsRow : OpenClaim := { program := "ytnlinlodgpbnlaagreat", sum := "96f927afd15e84f4154ae316cc3767d64167e715c95163786aab4a36fa81884a", func := "loop.example/g00784/laws.FnExactMac2Fits", spec := "fnExactMac2Fits", inPlace := ["internal/abi.NoEscape", "internal/bytealg.MakeNoZero"], unfollowed := true, recurses := true, apart := false }
def FnExactMac2FitsSaid : Prop := fnExactMac2FitsRow.holds Tryz.pinned (OpenSpec.ofChange fnExactMac2FitsSpec)

/-- ITS FALSE NEIGHBOUR: 'it returns false'. Refute it at one input. -/
def fnExactMac2FitsWrong : ChangeSpec := { name := "fnExactMac2Fits", fn := fun _ => fun
  | [d1, d2] => { results := [.lit (.bool false)], args := [d1, d2] }
  | _ => none }
def FnExactMac2FitsWrongFalsely : Prop := fnExactMac2FitsRow.holds Tryz.pinned (OpenSpec.ofChange fnExactMac2FitsWrong)

/- THE SECOND FORM. 'bulk': how many values and letters a reading holds, each counted each time it is reached (what is shared counts as often as it is met; a slice's spare places count too). A statement '..UptoSaid' is the law's where the arguments, and the package variables that the reading takes, are together of bulk at most 1048576: NARROWER than '..Said'. Prove '..Said' where nothing that the law and all that it calls make is longer than what came in: it says more and counts as full. Else prove '..UptoSaid'. A law counts once. -/
mutual
def uptoBulk {H : Type} : DataW H → Nat
  | .lit (.string bytes) => bytes.length + 1
  | .lit _ => 1
  | .nil => 1
  | .ptr d => uptoBulk d + 1
  | .slice elems spare => uptoBulkAll elems + uptoBulkAll spare + 1
  | .agg parts => uptoBulkAll parts + 1
  | .iface _ d => uptoBulk d + 1
  | .map entries => uptoBulkEntries entries + 1
  | .held _ => 1
def uptoBulkAll {H : Type} : List (DataW H) → Nat
  | [] => 0
  | d :: r => uptoBulk d + uptoBulkAll r
def uptoBulkEntries {H : Type} : List (Lit × DataW H) → Nat
  | [] => 0
  | x :: r => uptoBulkEntry x + uptoBulkEntries r
def uptoBulkEntry {H : Type} : Lit × DataW H → Nat
  | (.string bytes, d) => bytes.length + uptoBulk d + 1
  | (_, d) => uptoBulk d + 1
 end
def uptoSmall : (H : Type) → List (DataW H) → Bool := fun _ ds => decide (uptoBulkAll ds ≤ 1048576)
def OpenSpec.upto (s : _root_.Go.ChangeSpec) : _root_.Go.OpenSpec := { _root_.Go.OpenSpec.ofChange s with cond := some uptoSmall }

/-- 'laws.FnTerm', WHERE WHAT IT READS IS OF BULK AT MOST 1048576: true; the input reads as it did. -/
def fnTermUptoRow : OpenClaim := { program := "ytnlinlodgpbnlaagreat", sum := "96f927afd15e84f4154ae316cc3767d64167e715c95163786aab4a36fa81884a", func := "loop.example/g00784/laws.FnTerm", spec := "fnTerm", inPlace := ["internal/abi.NoEscape", "internal/bytealg.MakeNoZero"], unfollowed := true, recurses := true, apart := false, narrowed := true }
def FnTermUptoSaid : Prop := fnTermUptoRow.holds Tryz.pinned (OpenSpec.upto fnTermSpec)

/-- 'laws.FnKnow', WHERE WHAT IT READS IS OF BULK AT MOST 1048576: true; the input reads as it did. -/
def fnKnowUptoRow : OpenClaim := { program := "ytnlinlodgpbnlaagreat", sum := "96f927afd15e84f4154ae316cc3767d64167e715c95163786aab4a36fa81884a", func := "loop.example/g00784/laws.FnKnow", spec := "fnKnow", inPlace := ["internal/abi.NoEscape", "internal/bytealg.MakeNoZero"], unfollowed := true, recurses := true, apart := false, narrowed := true }
def FnKnowUptoSaid : Prop := fnKnowUptoRow.holds Tryz.pinned (OpenSpec.upto fnKnowSpec)

/-- 'laws.FnExactSign', WHERE WHAT IT READS IS OF BULK AT MOST 1048576: true; the input reads as it did. -/
def fnExactSignUptoRow : OpenClaim := { program := "ytnlinlodgpbnlaagreat", sum := "96f927afd15e84f4154ae316cc3767d64167e715c95163786aab4a36fa81884a", func := "loop.example/g00784/laws.FnExactSign", spec := "fnExactSign", inPlace := ["internal/abi.NoEscape", "internal/bytealg.MakeNoZero"], unfollowed := true, recurses := true, apart := false, narrowed := true }
def FnExactSignUptoSaid : Prop := fnExactSignUptoRow.holds Tryz.pinned (OpenSpec.upto fnExactSignSpec)

/-- 'laws.FnExactSignTwice', WHERE WHAT IT READS IS OF BULK AT MOST 1048576: true; the input reads as it did. -/
def fnExactSignTwiceUptoRow : OpenClaim := { program := "ytnlinlodgpbnlaagreat", sum := "96f927afd15e84f4154ae316cc3767d64167e715c95163786aab4a36fa81884a", func := "loop.example/g00784/laws.FnExactSignTwice", spec := "fnExactSignTwice", inPlace := ["internal/abi.NoEscape", "internal/bytealg.MakeNoZero"], unfollowed := true, recurses := true, apart := false, narrowed := true }
def FnExactSignTwiceUptoSaid : Prop := fnExactSignTwiceUptoRow.holds Tryz.pinned (OpenSpec.upto fnExactSignTwiceSpec)

/-- 'laws.FnExactMac1Fits', WHERE WHAT IT READS IS OF BULK AT MOST 1048576: true; the input reads as it did. -/
def fnExactMac1FitsUptoRow : OpenClaim := { program := "ytnlinlodgpbnlaagreat", sum := "96f927afd15e84f4154ae316cc3767d64167e715c95163786aab4a36fa81884a", func := "loop.example/g00784/laws.FnExactMac1Fits", spec := "fnExactMac1Fits", inPlace := ["internal/abi.NoEscape", "internal/bytealg.MakeNoZero"], unfollowed := true, recurses := true, apart := false, narrowed := true }
def FnExactMac1FitsUptoSaid : Prop := fnExactMac1FitsUptoRow.holds Tryz.pinned (OpenSpec.upto fnExactMac1FitsSpec)

/-- 'laws.FnExactMac2Fits', WHERE WHAT IT READS IS OF BULK AT MOST 1048576: true; the input reads as it did. -/
def fnExactMac2FitsUptoRow : OpenClaim := { program := "ytnlinlodgpbnlaagreat", sum := "96f927afd15e84f4154ae316cc3767d64167e715c95163786aab4a36fa81884a", func := "loop.example/g00784/laws.FnExactMac2Fits", spec := "fnExactMac2Fits", inPlace := ["internal/abi.NoEscape", "internal/bytealg.MakeNoZero"], unfollowed := true, recurses := true, apart := false, narrowed := true }
def FnExactMac2FitsUptoSaid : Prop := fnExactMac2FitsUptoRow.holds Tryz.pinned (OpenSpec.upto fnExactMac2FitsSpec)

end Rows
end Go.Proofs.YtnlinlodgpbnlaaGreat
