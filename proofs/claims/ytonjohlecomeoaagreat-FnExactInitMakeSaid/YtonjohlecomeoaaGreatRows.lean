/-
  No cell of these rows narrows 'for every input' (looked for: loops, veiled, ifaces, maps, wideKeys, modest, calm, conditions, laid).
  DERIVED. THE GIVEN ROWS OF THIS SEAT. 6 by the template 'for every input the law returns true; each argument reads behind the call as it read before'; 0 by the template 'total and deterministic' (their statements: YtonjohlecomeoaaGreatTotals.lean).
  GIVEN WITH THE SEED: the statements are not yours to turn. If you find one false, say at which input.
  Laid BY PROGRAM, IN A SANDBOX (cutbox-rows.mjs): the forced cells as the released guide's own fill.sh prints them over the translation d4edbdeb29577d1f… (all of the seat's roots in one cut). By AI agents, Wed Nov 11 2026. No macro, syntax, notation, axiom, sorry.
-/
import Derived.Test.YtonjohlecomeoaaGreatChecked
import GoSem.Claim
import GoSem.ClaimJoined
import GoSem.ClaimMapViews
import Derived.JoinedTies
import Derived.KernelRfl
namespace Go.Proofs.YtonjohlecomeoaaGreat
/- THE CELL 'sum', in the pinned program and in every row, IS THE sha256 OF THE DUMP (.gsa) THAT YtonjohlecomeoaaGreatProg.lean LOADS. Nothing in Lean hashes anything: it is a label: what it is worth is what the hold of that sum in a sandbox is worth. -/
noncomputable def Tryz.pinned : Pinned := { name := "ytonjohlecomeoaagreat", sum := "d4edbdeb29577d1f48c234e7791560e991b1dfc97f6a515af10744d8547fde72", checked := Tryz.checked }
namespace Rows
def none {H : Type} : Left H := { results := [], args := [] }

/-- 'laws.FnExactInitMake': WHATEVER THE INPUT: true; the input reads as it did. -/
def fnExactInitMakeSpec : ChangeSpec := { name := "fnExactInitMake", fn := fun _ => fun
  | [d1, d2, d3, d4, d5] => { results := [.lit (.bool true)], args := [d1, d2, d3, d4, d5] }
  | _ => none }
def fnExactInitMakeRow : OpenClaim := { program := "ytonjohlecomeoaagreat", sum := "d4edbdeb29577d1f48c234e7791560e991b1dfc97f6a515af10744d8547fde72", func := "loop.example/g00784/laws.FnExactInitMake", spec := "fnExactInitMake", inPlace := ["internal/abi.NoEscape", "internal/bytealg.MakeNoZero"], unfollowed := true, recurses := true, apart := false }
def FnExactInitMakeSaid : Prop := fnExactInitMakeRow.holds Tryz.pinned (OpenSpec.ofChange fnExactInitMakeSpec)

/-- ITS FALSE NEIGHBOUR: 'it returns false'. Refute it at one input. -/
def fnExactInitMakeWrong : ChangeSpec := { name := "fnExactInitMake", fn := fun _ => fun
  | [d1, d2, d3, d4, d5] => { results := [.lit (.bool false)], args := [d1, d2, d3, d4, d5] }
  | _ => none }
def FnExactInitMakeWrongFalsely : Prop := fnExactInitMakeRow.holds Tryz.pinned (OpenSpec.ofChange fnExactInitMakeWrong)

/-- 'laws.FnExactInitRead': WHATEVER THE INPUT: true; the input reads as it did. -/
def fnExactInitReadSpec : ChangeSpec := { name := "fnExactInitRead", fn := fun _ => fun
  | [d1, d2] => { results := [.lit (.bool true)], args := [d1, d2] }
  | _ => none }
def fnExactInitReadRow : OpenClaim := { program := "ytonjohlecomeoaagreat", sum := "d4edbdeb29577d1f48c234e7791560e991b1dfc97f6a515af10744d8547fde72", func := "loop.example/g00784/laws.FnExactInitRead", spec := "fnExactInitRead", inPlace := ["internal/abi.NoEscape", "internal/bytealg.MakeNoZero"], unfollowed := true, recurses := true, apart := false }
def FnExactInitReadSaid : Prop := fnExactInitReadRow.holds Tryz.pinned (OpenSpec.ofChange fnExactInitReadSpec)

/-- ITS FALSE NEIGHBOUR: 'it returns false'. Refute it at one input. -/
def fnExactInitReadWrong : ChangeSpec := { name := "fnExactInitRead", fn := fun _ => fun
  | [d1, d2] => { results := [.lit (.bool false)], args := [d1, d2] }
  | _ => none }
def FnExactInitReadWrongFalsely : Prop := fnExactInitReadRow.holds Tryz.pinned (OpenSpec.ofChange fnExactInitReadWrong)

/-- 'laws.FnExactRespMake': WHATEVER THE INPUT: true; the input reads as it did. -/
def fnExactRespMakeSpec : ChangeSpec := { name := "fnExactRespMake", fn := fun _ => fun
  | [d1, d2, d3, d4, d5, d6, d7] => { results := [.lit (.bool true)], args := [d1, d2, d3, d4, d5, d6, d7] }
  | _ => none }
def fnExactRespMakeRow : OpenClaim := { program := "ytonjohlecomeoaagreat", sum := "d4edbdeb29577d1f48c234e7791560e991b1dfc97f6a515af10744d8547fde72", func := "loop.example/g00784/laws.FnExactRespMake", spec := "fnExactRespMake", inPlace := ["internal/abi.NoEscape", "internal/bytealg.MakeNoZero"], unfollowed := true, recurses := true, apart := false }
def FnExactRespMakeSaid : Prop := fnExactRespMakeRow.holds Tryz.pinned (OpenSpec.ofChange fnExactRespMakeSpec)

/-- ITS FALSE NEIGHBOUR: 'it returns false'. Refute it at one input. -/
def fnExactRespMakeWrong : ChangeSpec := { name := "fnExactRespMake", fn := fun _ => fun
  | [d1, d2, d3, d4, d5, d6, d7] => { results := [.lit (.bool false)], args := [d1, d2, d3, d4, d5, d6, d7] }
  | _ => none }
def FnExactRespMakeWrongFalsely : Prop := fnExactRespMakeRow.holds Tryz.pinned (OpenSpec.ofChange fnExactRespMakeWrong)

/-- 'laws.FnExactRespRead': WHATEVER THE INPUT: true; the input reads as it did. -/
def fnExactRespReadSpec : ChangeSpec := { name := "fnExactRespRead", fn := fun _ => fun
  | [d1, d2, d3, d4] => { results := [.lit (.bool true)], args := [d1, d2, d3, d4] }
  | _ => none }
def fnExactRespReadRow : OpenClaim := { program := "ytonjohlecomeoaagreat", sum := "d4edbdeb29577d1f48c234e7791560e991b1dfc97f6a515af10744d8547fde72", func := "loop.example/g00784/laws.FnExactRespRead", spec := "fnExactRespRead", inPlace := ["internal/abi.NoEscape", "internal/bytealg.MakeNoZero"], unfollowed := true, recurses := true, apart := false }
def FnExactRespReadSaid : Prop := fnExactRespReadRow.holds Tryz.pinned (OpenSpec.ofChange fnExactRespReadSpec)

/-- ITS FALSE NEIGHBOUR: 'it returns false'. Refute it at one input. -/
def fnExactRespReadWrong : ChangeSpec := { name := "fnExactRespRead", fn := fun _ => fun
  | [d1, d2, d3, d4] => { results := [.lit (.bool false)], args := [d1, d2, d3, d4] }
  | _ => none }
def FnExactRespReadWrongFalsely : Prop := fnExactRespReadRow.holds Tryz.pinned (OpenSpec.ofChange fnExactRespReadWrong)

/-- 'laws.FnHand': WHATEVER THE INPUT: true; the input reads as it did. -/
def fnHandSpec : ChangeSpec := { name := "fnHand", fn := fun _ => fun
  | [d1, d2] => { results := [.lit (.bool true)], args := [d1, d2] }
  | _ => none }
def fnHandRow : OpenClaim := { program := "ytonjohlecomeoaagreat", sum := "d4edbdeb29577d1f48c234e7791560e991b1dfc97f6a515af10744d8547fde72", func := "loop.example/g00784/laws.FnHand", spec := "fnHand", inPlace := ["internal/abi.NoEscape", "internal/bytealg.MakeNoZero"], unfollowed := true, recurses := true, apart := false }
def FnHandSaid : Prop := fnHandRow.holds Tryz.pinned (OpenSpec.ofChange fnHandSpec)

/-- ITS FALSE NEIGHBOUR: 'it returns false'. Refute it at one input. -/
def fnHandWrong : ChangeSpec := { name := "fnHand", fn := fun _ => fun
  | [d1, d2] => { results := [.lit (.bool false)], args := [d1, d2] }
  | _ => none }
def FnHandWrongFalsely : Prop := fnHandRow.holds Tryz.pinned (OpenSpec.ofChange fnHandWrong)

/-- 'laws.FnSecret': WHATEVER THE INPUT: true; the input reads as it did. -/
def fnSecretSpec : ChangeSpec := { name := "fnSecret", fn := fun _ => fun
  | [d1, d2] => { results := [.lit (.bool true)], args := [d1, d2] }
  | _ => none }
def fnSecretRow : OpenClaim := { program := "ytonjohlecomeoaagreat", sum := "d4edbdeb29577d1f48c234e7791560e991b1dfc97f6a515af10744d8547fde72", func := "loop.example/g00784/laws.FnSecret", spec := "fnSecret", inPlace := ["internal/abi.NoEscape", "internal/bytealg.MakeNoZero"], unfollowed := true, recurses := true, apart := false }
def FnSecretSaid : Prop := fnSecretRow.holds Tryz.pinned (OpenSpec.ofChange fnSecretSpec)

/-- ITS FALSE NEIGHBOUR: 'it returns false'. Refute it at one input. -/
def fnSecretWrong : ChangeSpec := { name := "fnSecret", fn := fun _ => fun
  | [d1, d2] => { results := [.lit (.bool false)], args := [d1, d2] }
  | _ => none }
def FnSecretWrongFalsely : Prop := fnSecretRow.holds Tryz.pinned (OpenSpec.ofChange fnSecretWrong)

/- THE SECOND FORM. 'bulk': how many values and letters a reading holds, each counted each time it is reached (what is shared counts as often as it is met; a slice's spare places count too). A statement '..UptoSaid' is the law's where the arguments, and the package variables that the reading takes, are together of bulk at most 1048576: NARROWER than '..Said'. Prove '..Said' where nothing that the law and all that it calls make is longer than what came in: it says more and counts as full. Else prove '..UptoSaid'. A law counts once. -/
mutual
def uptoBulk {H : Type} : DataW H → Nat
  | .lit (.string bytes) => bytes.length + 1
  | .lit _ => 1
  | .nil => 1
  | .ptr d => uptoBulk d + 1
  | .slice elems spare => uptoBulkAll elems + uptoBulkAll spare + 1
  | .agg parts => uptoBulkAll parts + 1
  | .iface _ d => uptoBulk d + 1
  | .map entries => uptoBulkEntries entries + 1
  | .held _ => 1
def uptoBulkAll {H : Type} : List (DataW H) → Nat
  | [] => 0
  | d :: r => uptoBulk d + uptoBulkAll r
def uptoBulkEntries {H : Type} : List (Lit × DataW H) → Nat
  | [] => 0
  | x :: r => uptoBulkEntry x + uptoBulkEntries r
def uptoBulkEntry {H : Type} : Lit × DataW H → Nat
  | (.string bytes, d) => bytes.length + uptoBulk d + 1
  | (_, d) => uptoBulk d + 1
 end
def uptoSmall : (H : Type) → List (DataW H) → Bool := fun _ ds => decide (uptoBulkAll ds ≤ 1048576)
def OpenSpec.upto (s : _root_.Go.ChangeSpec) : _root_.Go.OpenSpec := { _root_.Go.OpenSpec.ofChange s with cond := some uptoSmall }

/-- 'laws.FnExactInitMake', WHERE WHAT IT READS IS OF BULK AT MOST 1048576: true; the input reads as it did. -/
def fnExactInitMakeUptoRow : OpenClaim := { program := "ytonjohlecomeoaagreat", sum := "d4edbdeb29577d1f48c234e7791560e991b1dfc97f6a515af10744d8547fde72", func := "loop.example/g00784/laws.FnExactInitMake", spec := "fnExactInitMake", inPlace := ["internal/abi.NoEscape", "internal/bytealg.MakeNoZero"], unfollowed := true, recurses := true, apart := false, narrowed := true }
def FnExactInitMakeUptoSaid : Prop := fnExactInitMakeUptoRow.holds Tryz.pinned (OpenSpec.upto fnExactInitMakeSpec)

/-- 'laws.FnExactInitRead', WHERE WHAT IT READS IS OF BULK AT MOST 1048576: true; the input reads as it did. -/
def fnExactInitReadUptoRow : OpenClaim := { program := "ytonjohlecomeoaagreat", sum := "d4edbdeb29577d1f48c234e7791560e991b1dfc97f6a515af10744d8547fde72", func := "loop.example/g00784/laws.FnExactInitRead", spec := "fnExactInitRead", inPlace := ["internal/abi.NoEscape", "internal/bytealg.MakeNoZero"], unfollowed := true, recurses := true, apart := false, narrowed := true }
def FnExactInitReadUptoSaid : Prop := fnExactInitReadUptoRow.holds Tryz.pinned (OpenSpec.upto fnExactInitReadSpec)

/-- 'laws.FnExactRespMake', WHERE WHAT IT READS IS OF BULK AT MOST 1048576: true; the input reads as it did. -/
def fnExactRespMakeUptoRow : OpenClaim := { program := "ytonjohlecomeoaagreat", sum := "d4edbdeb29577d1f48c234e7791560e991b1dfc97f6a515af10744d8547fde72", func := "loop.example/g00784/laws.FnExactRespMake", spec := "fnExactRespMake", inPlace := ["internal/abi.NoEscape", "internal/bytealg.MakeNoZero"], unfollowed := true, recurses := true, apart := false, narrowed := true }
def FnExactRespMakeUptoSaid : Prop := fnExactRespMakeUptoRow.holds Tryz.pinned (OpenSpec.upto fnExactRespMakeSpec)

/-- 'laws.FnExactRespRead', WHERE WHAT IT READS IS OF BULK AT MOST 1048576: true; the input reads as it did. -/
def fnExactRespReadUptoRow : OpenClaim := { program := "ytonjohlecomeoaagreat", sum := "d4edbdeb29577d1f48c234e7791560e991b1dfc97f6a515af10744d8547fde72", func := "loop.example/g00784/laws.FnExactRespRead", spec := "fnExactRespRead", inPlace := ["internal/abi.NoEscape", "internal/bytealg.MakeNoZero"], unfollowed := true, recurses := true, apart := false, narrowed := true }
def FnExactRespReadUptoSaid : Prop := fnExactRespReadUptoRow.holds Tryz.pinned (OpenSpec.upto fnExactRespReadSpec)

/-- 'laws.FnHand', WHERE WHAT IT READS IS OF BULK AT MOST 1048576: true; the input reads as it did. -/
def fnHandUptoRow : OpenClaim := { program := "ytonjohlecomeoaagreat", sum := "d4edbdeb29577d1f48c234e7791560e991b1dfc97f6a515af10744d8547fde72", func := "loop.example/g00784/laws.FnHand", spec := "fnHand", inPlace := ["internal/abi.NoEscape", "internal/bytealg.MakeNoZero"], unfollowed := true, recurses := true, apart := false, narrowed := true }
def FnHandUptoSaid : Prop := fnHandUptoRow.holds Tryz.pinned (OpenSpec.upto fnHandSpec)

/-- 'laws.FnSecret', WHERE WHAT IT READS IS OF BULK AT MOST 1048576: true; the input reads as it did. -/
def fnSecretUptoRow : OpenClaim := { program := "ytonjohlecomeoaagreat", sum := "d4edbdeb29577d1f48c234e7791560e991b1dfc97f6a515af10744d8547fde72", func := "loop.example/g00784/laws.FnSecret", spec := "fnSecret", inPlace := ["internal/abi.NoEscape", "internal/bytealg.MakeNoZero"], unfollowed := true, recurses := true, apart := false, narrowed := true }
def FnSecretUptoSaid : Prop := fnSecretUptoRow.holds Tryz.pinned (OpenSpec.upto fnSecretSpec)

end Rows
end Go.Proofs.YtonjohlecomeoaaGreat
