/-
  No cell of these rows narrows 'for every input' (looked for: loops, veiled, ifaces, maps, wideKeys, modest, calm, conditions, laid).
  DERIVED. THE GIVEN ROWS OF THIS SEAT. 8 by the template 'for every input the law returns true; each argument reads behind the call as it read before'; 0 by the template 'total and deterministic' (their statements: YtdikjmhnjlalbabTotals.lean).
  GIVEN WITH THE SEED: the statements are not yours to turn. If you find one false, say at which input.
  Laid BY PROGRAM, IN A SANDBOX (cutbox-rows.mjs): the forced cells as the released guide's own fill.sh prints them over the translation e1084ee32673a583… (all of the seat's roots in one cut). By AI agents, Wed Nov 11 2026. No macro, syntax, notation, axiom, sorry.
-/
import Derived.Test.YtdikjmhnjlalbabChecked
import GoSem.Claim
import GoSem.ClaimJoined
import GoSem.ClaimMapViews
import Derived.JoinedTies
import Derived.KernelRfl
namespace Go.Proofs.Ytdikjmhnjlalbab
/- THE CELL 'sum', in the pinned program and in every row, IS THE sha256 OF THE DUMP (.gsa) THAT YtdikjmhnjlalbabProg.lean LOADS. Nothing in Lean hashes anything: it is a label: what it is worth is what the hold of that sum in a sandbox is worth. -/
noncomputable def Try.pinned : Pinned := { name := "ytdikjmhnjlalbab", sum := "e1084ee32673a5837169ad51852e4f972a6632ceadd4859d4396757d94775186", checked := Try.checked }
namespace Rows
def none {H : Type} : Left H := { results := [], args := [] }

/-- 'laws.FnExactKnows': WHATEVER THE INPUT: true; the input reads as it did. -/
def fnExactKnowsSpec : ChangeSpec := { name := "fnExactKnows", fn := fun _ => fun
  | [d1, d2] => { results := [.lit (.bool true)], args := [d1, d2] }
  | _ => none }
def fnExactKnowsRow : OpenClaim := { program := "ytdikjmhnjlalbab", sum := "e1084ee32673a5837169ad51852e4f972a6632ceadd4859d4396757d94775186", func := "loop.example/g00784/laws.FnExactKnows", spec := "fnExactKnows", inPlace := ["internal/abi.NoEscape", "internal/bytealg.MakeNoZero"], unfollowed := true, recurses := true, apart := false }
def FnExactKnowsSaid : Prop := fnExactKnowsRow.holds Try.pinned (OpenSpec.ofChange fnExactKnowsSpec)

/-- ITS FALSE NEIGHBOUR: 'it returns false'. Refute it at one input. -/
def fnExactKnowsWrong : ChangeSpec := { name := "fnExactKnows", fn := fun _ => fun
  | [d1, d2] => { results := [.lit (.bool false)], args := [d1, d2] }
  | _ => none }
def FnExactKnowsWrongFalsely : Prop := fnExactKnowsRow.holds Try.pinned (OpenSpec.ofChange fnExactKnowsWrong)

/-- 'laws.FnExactLearned': WHATEVER THE INPUT: true; the input reads as it did. -/
def fnExactLearnedSpec : ChangeSpec := { name := "fnExactLearned", fn := fun _ => fun
  | [d1, d2] => { results := [.lit (.bool true)], args := [d1, d2] }
  | _ => none }
def fnExactLearnedRow : OpenClaim := { program := "ytdikjmhnjlalbab", sum := "e1084ee32673a5837169ad51852e4f972a6632ceadd4859d4396757d94775186", func := "loop.example/g00784/laws.FnExactLearned", spec := "fnExactLearned", inPlace := ["internal/abi.NoEscape", "internal/bytealg.MakeNoZero"], unfollowed := true, recurses := true, apart := false }
def FnExactLearnedSaid : Prop := fnExactLearnedRow.holds Try.pinned (OpenSpec.ofChange fnExactLearnedSpec)

/-- ITS FALSE NEIGHBOUR: 'it returns false'. Refute it at one input. -/
def fnExactLearnedWrong : ChangeSpec := { name := "fnExactLearned", fn := fun _ => fun
  | [d1, d2] => { results := [.lit (.bool false)], args := [d1, d2] }
  | _ => none }
def FnExactLearnedWrongFalsely : Prop := fnExactLearnedRow.holds Try.pinned (OpenSpec.ofChange fnExactLearnedWrong)

/-- 'laws.FnExactKnownRight': WHATEVER THE INPUT: true; the input reads as it did. -/
def fnExactKnownRightSpec : ChangeSpec := { name := "fnExactKnownRight", fn := fun _ => fun
  | [d] => { results := [.lit (.bool true)], args := [d] }
  | _ => none }
def fnExactKnownRightRow : OpenClaim := { program := "ytdikjmhnjlalbab", sum := "e1084ee32673a5837169ad51852e4f972a6632ceadd4859d4396757d94775186", func := "loop.example/g00784/laws.FnExactKnownRight", spec := "fnExactKnownRight", inPlace := ["internal/abi.NoEscape", "internal/bytealg.MakeNoZero"], unfollowed := true, recurses := true, apart := false }
def FnExactKnownRightSaid : Prop := fnExactKnownRightRow.holds Try.pinned (OpenSpec.ofChange fnExactKnownRightSpec)

/-- ITS FALSE NEIGHBOUR: 'it returns false'. Refute it at one input. -/
def fnExactKnownRightWrong : ChangeSpec := { name := "fnExactKnownRight", fn := fun _ => fun
  | [d] => { results := [.lit (.bool false)], args := [d] }
  | _ => none }
def FnExactKnownRightWrongFalsely : Prop := fnExactKnownRightRow.holds Try.pinned (OpenSpec.ofChange fnExactKnownRightWrong)

/-- 'laws.FnExactBuilds': WHATEVER THE INPUT: true; the input reads as it did. -/
def fnExactBuildsSpec : ChangeSpec := { name := "fnExactBuilds", fn := fun _ => fun
  | [d1, d2] => { results := [.lit (.bool true)], args := [d1, d2] }
  | _ => none }
def fnExactBuildsRow : OpenClaim := { program := "ytdikjmhnjlalbab", sum := "e1084ee32673a5837169ad51852e4f972a6632ceadd4859d4396757d94775186", func := "loop.example/g00784/laws.FnExactBuilds", spec := "fnExactBuilds", inPlace := ["internal/abi.NoEscape", "internal/bytealg.MakeNoZero"], unfollowed := true, recurses := true, apart := false }
def FnExactBuildsSaid : Prop := fnExactBuildsRow.holds Try.pinned (OpenSpec.ofChange fnExactBuildsSpec)

/-- ITS FALSE NEIGHBOUR: 'it returns false'. Refute it at one input. -/
def fnExactBuildsWrong : ChangeSpec := { name := "fnExactBuilds", fn := fun _ => fun
  | [d1, d2] => { results := [.lit (.bool false)], args := [d1, d2] }
  | _ => none }
def FnExactBuildsWrongFalsely : Prop := fnExactBuildsRow.holds Try.pinned (OpenSpec.ofChange fnExactBuildsWrong)

/-- 'laws.FnExactNodeOf': WHATEVER THE INPUT: true; the input reads as it did. -/
def fnExactNodeOfSpec : ChangeSpec := { name := "fnExactNodeOf", fn := fun _ => fun
  | [d] => { results := [.lit (.bool true)], args := [d] }
  | _ => none }
def fnExactNodeOfRow : OpenClaim := { program := "ytdikjmhnjlalbab", sum := "e1084ee32673a5837169ad51852e4f972a6632ceadd4859d4396757d94775186", func := "loop.example/g00784/laws.FnExactNodeOf", spec := "fnExactNodeOf", inPlace := ["internal/abi.NoEscape", "internal/bytealg.MakeNoZero"], unfollowed := true, recurses := true, apart := false }
def FnExactNodeOfSaid : Prop := fnExactNodeOfRow.holds Try.pinned (OpenSpec.ofChange fnExactNodeOfSpec)

/-- ITS FALSE NEIGHBOUR: 'it returns false'. Refute it at one input. -/
def fnExactNodeOfWrong : ChangeSpec := { name := "fnExactNodeOf", fn := fun _ => fun
  | [d] => { results := [.lit (.bool false)], args := [d] }
  | _ => none }
def FnExactNodeOfWrongFalsely : Prop := fnExactNodeOfRow.holds Try.pinned (OpenSpec.ofChange fnExactNodeOfWrong)

/-- 'laws.FnExactMake': WHATEVER THE INPUT: true; the input reads as it did. -/
def fnExactMakeSpec : ChangeSpec := { name := "fnExactMake", fn := fun _ => fun
  | [d1, d2] => { results := [.lit (.bool true)], args := [d1, d2] }
  | _ => none }
def fnExactMakeRow : OpenClaim := { program := "ytdikjmhnjlalbab", sum := "e1084ee32673a5837169ad51852e4f972a6632ceadd4859d4396757d94775186", func := "loop.example/g00784/laws.FnExactMake", spec := "fnExactMake", inPlace := ["internal/abi.NoEscape", "internal/bytealg.MakeNoZero"], unfollowed := true, recurses := true, apart := false }
def FnExactMakeSaid : Prop := fnExactMakeRow.holds Try.pinned (OpenSpec.ofChange fnExactMakeSpec)

/-- ITS FALSE NEIGHBOUR: 'it returns false'. Refute it at one input. -/
def fnExactMakeWrong : ChangeSpec := { name := "fnExactMake", fn := fun _ => fun
  | [d1, d2] => { results := [.lit (.bool false)], args := [d1, d2] }
  | _ => none }
def FnExactMakeWrongFalsely : Prop := fnExactMakeRow.holds Try.pinned (OpenSpec.ofChange fnExactMakeWrong)

/-- 'laws.FnExactDh': WHATEVER THE INPUT: true; the input reads as it did. -/
def fnExactDhSpec : ChangeSpec := { name := "fnExactDh", fn := fun _ => fun
  | [d1, d2] => { results := [.lit (.bool true)], args := [d1, d2] }
  | _ => none }
def fnExactDhRow : OpenClaim := { program := "ytdikjmhnjlalbab", sum := "e1084ee32673a5837169ad51852e4f972a6632ceadd4859d4396757d94775186", func := "loop.example/g00784/laws.FnExactDh", spec := "fnExactDh", inPlace := ["internal/abi.NoEscape", "internal/bytealg.MakeNoZero"], unfollowed := true, recurses := true, apart := false }
def FnExactDhSaid : Prop := fnExactDhRow.holds Try.pinned (OpenSpec.ofChange fnExactDhSpec)

/-- ITS FALSE NEIGHBOUR: 'it returns false'. Refute it at one input. -/
def fnExactDhWrong : ChangeSpec := { name := "fnExactDh", fn := fun _ => fun
  | [d1, d2] => { results := [.lit (.bool false)], args := [d1, d2] }
  | _ => none }
def FnExactDhWrongFalsely : Prop := fnExactDhRow.holds Try.pinned (OpenSpec.ofChange fnExactDhWrong)

/-- 'laws.FnExactOpen': WHATEVER THE INPUT: true; the input reads as it did. -/
def fnExactOpenSpec : ChangeSpec := { name := "fnExactOpen", fn := fun _ => fun
  | [d1, d2] => { results := [.lit (.bool true)], args := [d1, d2] }
  | _ => none }
def fnExactOpenRow : OpenClaim := { program := "ytdikjmhnjlalbab", sum := "e1084ee32673a5837169ad51852e4f972a6632ceadd4859d4396757d94775186", func := "loop.example/g00784/laws.FnExactOpen", spec := "fnExactOpen", inPlace := ["internal/abi.NoEscape", "internal/bytealg.MakeNoZero"], unfollowed := true, recurses := true, apart := false }
def FnExactOpenSaid : Prop := fnExactOpenRow.holds Try.pinned (OpenSpec.ofChange fnExactOpenSpec)

/-- ITS FALSE NEIGHBOUR: 'it returns false'. Refute it at one input. -/
def fnExactOpenWrong : ChangeSpec := { name := "fnExactOpen", fn := fun _ => fun
  | [d1, d2] => { results := [.lit (.bool false)], args := [d1, d2] }
  | _ => none }
def FnExactOpenWrongFalsely : Prop := fnExactOpenRow.holds Try.pinned (OpenSpec.ofChange fnExactOpenWrong)

/- THE SECOND FORM. 'bulk': how many values and letters a reading holds, each counted each time it is reached (what is shared counts as often as it is met; a slice's spare places count too). A statement '..UptoSaid' is the law's where the arguments, and the package variables that the reading takes, are together of bulk at most 1048576: NARROWER than '..Said'. Prove '..Said' where nothing that the law and all that it calls make is longer than what came in: it says more and counts as full. Else prove '..UptoSaid'. A law counts once. -/
mutual
def uptoBulk {H : Type} : DataW H → Nat
  | .lit (.string bytes) => bytes.length + 1
  | .lit _ => 1
  | .nil => 1
  | .ptr d => uptoBulk d + 1
  | .slice elems spare => uptoBulkAll elems + uptoBulkAll spare + 1
  | .agg parts => uptoBulkAll parts + 1
  | .iface _ d => uptoBulk d + 1
  | .map entries => uptoBulkEntries entries + 1
  | .held _ => 1
def uptoBulkAll {H : Type} : List (DataW H) → Nat
  | [] => 0
  | d :: r => uptoBulk d + uptoBulkAll r
def uptoBulkEntries {H : Type} : List (Lit × DataW H) → Nat
  | [] => 0
  | x :: r => uptoBulkEntry x + uptoBulkEntries r
def uptoBulkEntry {H : Type} : Lit × DataW H → Nat
  | (.string bytes, d) => bytes.length + uptoBulk d + 1
  | (_, d) => uptoBulk d + 1
 end
def uptoSmall : (H : Type) → List (DataW H) → Bool := fun _ ds => decide (uptoBulkAll ds ≤ 1048576)
def OpenSpec.upto (s : _root_.Go.ChangeSpec) : _root_.Go.OpenSpec := { _root_.Go.OpenSpec.ofChange s with cond := some uptoSmall }

/-- 'laws.FnExactKnows', WHERE WHAT IT READS IS OF BULK AT MOST 1048576: true; the input reads as it did. -/
def fnExactKnowsUptoRow : OpenClaim := { program := "ytdikjmhnjlalbab", sum := "e1084ee32673a5837169ad51852e4f972a6632ceadd4859d4396757d94775186", func := "loop.example/g00784/laws.FnExactKnows", spec := "fnExactKnows", inPlace := ["internal/abi.NoEscape", "internal/bytealg.MakeNoZero"], unfollowed := true, recurses := true, apart := false, narrowed := true }
def FnExactKnowsUptoSaid : Prop := fnExactKnowsUptoRow.holds Try.pinned (OpenSpec.upto fnExactKnowsSpec)

/-- 'laws.FnExactLearned', WHERE WHAT IT READS IS OF BULK AT MOST 1048576: true; the input reads as it did. -/
def fnExactLearnedUptoRow : OpenClaim := { program := "ytdikjmhnjlalbab", sum := "e1084ee32673a5837169ad51852e4f972a6632ceadd4859d4396757d94775186", func := "loop.example/g00784/laws.FnExactLearned", spec := "fnExactLearned", inPlace := ["internal/abi.NoEscape", "internal/bytealg.MakeNoZero"], unfollowed := true, recurses := true, apart := false, narrowed := true }
def FnExactLearnedUptoSaid : Prop := fnExactLearnedUptoRow.holds Try.pinned (OpenSpec.upto fnExactLearnedSpec)

/-- 'laws.FnExactKnownRight', WHERE WHAT IT READS IS OF BULK AT MOST 1048576: true; the input reads as it did. -/
def fnExactKnownRightUptoRow : OpenClaim := { program := "ytdikjmhnjlalbab", sum := "e1084ee32673a5837169ad51852e4f972a6632ceadd4859d4396757d94775186", func := "loop.example/g00784/laws.FnExactKnownRight", spec := "fnExactKnownRight", inPlace := ["internal/abi.NoEscape", "internal/bytealg.MakeNoZero"], unfollowed := true, recurses := true, apart := false, narrowed := true }
def FnExactKnownRightUptoSaid : Prop := fnExactKnownRightUptoRow.holds Try.pinned (OpenSpec.upto fnExactKnownRightSpec)

/-- 'laws.FnExactBuilds', WHERE WHAT IT READS IS OF BULK AT MOST 1048576: true; the input reads as it did. -/
def fnExactBuildsUptoRow : OpenClaim := { program := "ytdikjmhnjlalbab", sum := "e1084ee32673a5837169ad51852e4f972a6632ceadd4859d4396757d94775186", func := "loop.example/g00784/laws.FnExactBuilds", spec := "fnExactBuilds", inPlace := ["internal/abi.NoEscape", "internal/bytealg.MakeNoZero"], unfollowed := true, recurses := true, apart := false, narrowed := true }
def FnExactBuildsUptoSaid : Prop := fnExactBuildsUptoRow.holds Try.pinned (OpenSpec.upto fnExactBuildsSpec)

/-- 'laws.FnExactNodeOf', WHERE WHAT IT READS IS OF BULK AT MOST 1048576: true; the input reads as it did. -/
def fnExactNodeOfUptoRow : OpenClaim := { program := "ytdikjmhnjlalbab", sum := "e1084ee32673a5837169ad51852e4f972a6632ceadd4859d4396757d94775186", func := "loop.example/g00784/laws.FnExactNodeOf", spec := "fnExactNodeOf", inPlace := ["internal/abi.NoEscape", "internal/bytealg.MakeNoZero"], unfollowed := true, recurses := true, apart := false, narrowed := true }
def FnExactNodeOfUptoSaid : Prop := fnExactNodeOfUptoRow.holds Try.pinned (OpenSpec.upto fnExactNodeOfSpec)

/-- 'laws.FnExactMake', WHERE WHAT IT READS IS OF BULK AT MOST 1048576: true; the input reads as it did. -/
def fnExactMakeUptoRow : OpenClaim := { program := "ytdikjmhnjlalbab", sum := "e1084ee32673a5837169ad51852e4f972a6632ceadd4859d4396757d94775186", func := "loop.example/g00784/laws.FnExactMake", spec := "fnExactMake", inPlace := ["internal/abi.NoEscape", "internal/bytealg.MakeNoZero"], unfollowed := true, recurses := true, apart := false, narrowed := true }
def FnExactMakeUptoSaid : Prop := fnExactMakeUptoRow.holds Try.pinned (OpenSpec.upto fnExactMakeSpec)

/-- 'laws.FnExactDh', WHERE WHAT IT READS IS OF BULK AT MOST 1048576: true; the input reads as it did. -/
def fnExactDhUptoRow : OpenClaim := { program := "ytdikjmhnjlalbab", sum := "e1084ee32673a5837169ad51852e4f972a6632ceadd4859d4396757d94775186", func := "loop.example/g00784/laws.FnExactDh", spec := "fnExactDh", inPlace := ["internal/abi.NoEscape", "internal/bytealg.MakeNoZero"], unfollowed := true, recurses := true, apart := false, narrowed := true }
def FnExactDhUptoSaid : Prop := fnExactDhUptoRow.holds Try.pinned (OpenSpec.upto fnExactDhSpec)

/-- 'laws.FnExactOpen', WHERE WHAT IT READS IS OF BULK AT MOST 1048576: true; the input reads as it did. -/
def fnExactOpenUptoRow : OpenClaim := { program := "ytdikjmhnjlalbab", sum := "e1084ee32673a5837169ad51852e4f972a6632ceadd4859d4396757d94775186", func := "loop.example/g00784/laws.FnExactOpen", spec := "fnExactOpen", inPlace := ["internal/abi.NoEscape", "internal/bytealg.MakeNoZero"], unfollowed := true, recurses := true, apart := false, narrowed := true }
def FnExactOpenUptoSaid : Prop := fnExactOpenUptoRow.holds Try.pinned (OpenSpec.upto fnExactOpenSpec)

end Rows
end Go.Proofs.Ytdikjmhnjlalbab
