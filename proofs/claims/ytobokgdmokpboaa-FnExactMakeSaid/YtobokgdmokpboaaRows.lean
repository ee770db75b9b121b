/-
  No cell of these rows narrows 'for every input' (looked for: loops, veiled, ifaces, maps, wideKeys, modest, calm, conditions, laid).
  DERIVED. THE GIVEN ROWS OF THIS SEAT. 8 by the template 'for every input the law returns true; each argument reads behind the call as it read before'; 0 by the template 'total and deterministic' (their statements: YtobokgdmokpboaaTotals.lean).
  GIVEN WITH THE SEED: the statements are not yours to turn. If you find one false, say at which input.
  Laid BY PROGRAM, IN A SANDBOX (cutbox-rows.mjs): the forced cells as the released guide's own fill.sh prints them over the translation 2fc97b2f8b0b84cb… (all of the seat's roots in one cut). By AI agents, Wed Nov 11 2026. No macro, syntax, notation, axiom, sorry.
-/
import Derived.Test.YtobokgdmokpboaaChecked
import GoSem.Claim
import GoSem.ClaimJoined
import GoSem.ClaimMapViews
import Derived.JoinedTies
import Derived.KernelRfl
namespace Go.Proofs.Ytobokgdmokpboaa
/- THE CELL 'sum', in the pinned program and in every row, IS THE sha256 OF THE DUMP (.gsa) THAT YtobokgdmokpboaaProg.lean LOADS. Nothing in Lean hashes anything: it is a label: what it is worth is what the hold of that sum in a sandbox is worth. -/
noncomputable def Try.pinned : Pinned := { name := "ytobokgdmokpboaa", sum := "2fc97b2f8b0b84cb8a82f5fbe9620a1222c67e43803c377d98712aafba4b448a", checked := Try.checked }
namespace Rows
def none {H : Type} : Left H := { results := [], args := [] }

/-- 'laws.FnExactAtomRight': WHATEVER THE INPUT: true; the input reads as it did. -/
def fnExactAtomRightSpec : ChangeSpec := { name := "fnExactAtomRight", fn := fun _ => fun
  | [d] => { results := [.lit (.bool true)], args := [d] }
  | _ => none }
def fnExactAtomRightRow : OpenClaim := { program := "ytobokgdmokpboaa", sum := "2fc97b2f8b0b84cb8a82f5fbe9620a1222c67e43803c377d98712aafba4b448a", func := "loop.example/g00784/laws.FnExactAtomRight", spec := "fnExactAtomRight", apart := false }
def FnExactAtomRightSaid : Prop := fnExactAtomRightRow.holds Try.pinned (OpenSpec.ofChange fnExactAtomRightSpec)

/-- ITS FALSE NEIGHBOUR: 'it returns false'. Refute it at one input. -/
def fnExactAtomRightWrong : ChangeSpec := { name := "fnExactAtomRight", fn := fun _ => fun
  | [d] => { results := [.lit (.bool false)], args := [d] }
  | _ => none }
def FnExactAtomRightWrongFalsely : Prop := fnExactAtomRightRow.holds Try.pinned (OpenSpec.ofChange fnExactAtomRightWrong)

/-- 'laws.FnExactTermRight': WHATEVER THE INPUT: true; the input reads as it did. -/
def fnExactTermRightSpec : ChangeSpec := { name := "fnExactTermRight", fn := fun _ => fun
  | [d] => { results := [.lit (.bool true)], args := [d] }
  | _ => none }
def fnExactTermRightRow : OpenClaim := { program := "ytobokgdmokpboaa", sum := "2fc97b2f8b0b84cb8a82f5fbe9620a1222c67e43803c377d98712aafba4b448a", func := "loop.example/g00784/laws.FnExactTermRight", spec := "fnExactTermRight", unfollowed := true, recurses := true, apart := false }
def FnExactTermRightSaid : Prop := fnExactTermRightRow.holds Try.pinned (OpenSpec.ofChange fnExactTermRightSpec)

/-- ITS FALSE NEIGHBOUR: 'it returns false'. Refute it at one input. -/
def fnExactTermRightWrong : ChangeSpec := { name := "fnExactTermRight", fn := fun _ => fun
  | [d] => { results := [.lit (.bool false)], args := [d] }
  | _ => none }
def FnExactTermRightWrongFalsely : Prop := fnExactTermRightRow.holds Try.pinned (OpenSpec.ofChange fnExactTermRightWrong)

/-- 'laws.FnExactNodeOf': WHATEVER THE INPUT: true; the input reads as it did. -/
def fnExactNodeOfSpec : ChangeSpec := { name := "fnExactNodeOf", fn := fun _ => fun
  | [d] => { results := [.lit (.bool true)], args := [d] }
  | _ => none }
def fnExactNodeOfRow : OpenClaim := { program := "ytobokgdmokpboaa", sum := "2fc97b2f8b0b84cb8a82f5fbe9620a1222c67e43803c377d98712aafba4b448a", func := "loop.example/g00784/laws.FnExactNodeOf", spec := "fnExactNodeOf", inPlace := ["internal/abi.NoEscape", "internal/bytealg.MakeNoZero"], unfollowed := true, recurses := true, apart := false }
def FnExactNodeOfSaid : Prop := fnExactNodeOfRow.holds Try.pinned (OpenSpec.ofChange fnExactNodeOfSpec)

/-- ITS FALSE NEIGHBOUR: 'it returns false'. Refute it at one input. -/
def fnExactNodeOfWrong : ChangeSpec := { name := "fnExactNodeOf", fn := fun _ => fun
  | [d] => { results := [.lit (.bool false)], args := [d] }
  | _ => none }
def FnExactNodeOfWrongFalsely : Prop := fnExactNodeOfRow.holds Try.pinned (OpenSpec.ofChange fnExactNodeOfWrong)

/-- 'laws.FnExactMake': WHATEVER THE INPUT: true; the input reads as it did. -/
def fnExactMakeSpec : ChangeSpec := { name := "fnExactMake", fn := fun _ => fun
  | [d1, d2] => { results := [.lit (.bool true)], args := [d1, d2] }
  | _ => none }
def fnExactMakeRow : OpenClaim := { program := "ytobokgdmokpboaa", sum := "2fc97b2f8b0b84cb8a82f5fbe9620a1222c67e43803c377d98712aafba4b448a", func := "loop.example/g00784/laws.FnExactMake", spec := "fnExactMake", inPlace := ["internal/abi.NoEscape", "internal/bytealg.MakeNoZero"], unfollowed := true, recurses := true, apart := false }
def FnExactMakeSaid : Prop := fnExactMakeRow.holds Try.pinned (OpenSpec.ofChange fnExactMakeSpec)

/-- ITS FALSE NEIGHBOUR: 'it returns false'. Refute it at one input. -/
def fnExactMakeWrong : ChangeSpec := { name := "fnExactMake", fn := fun _ => fun
  | [d1, d2] => { results := [.lit (.bool false)], args := [d1, d2] }
  | _ => none }
def FnExactMakeWrongFalsely : Prop := fnExactMakeRow.holds Try.pinned (OpenSpec.ofChange fnExactMakeWrong)

/-- 'laws.FnExactDh': WHATEVER THE INPUT: true; the input reads as it did. -/
def fnExactDhSpec : ChangeSpec := { name := "fnExactDh", fn := fun _ => fun
  | [d1, d2] => { results := [.lit (.bool true)], args := [d1, d2] }
  | _ => none }
def fnExactDhRow : OpenClaim := { program := "ytobokgdmokpboaa", sum := "2fc97b2f8b0b84cb8a82f5fbe9620a1222c67e43803c377d98712aafba4b448a", func := "loop.example/g00784/laws.FnExactDh", spec := "fnExactDh", inPlace := ["internal/abi.NoEscape", "internal/bytealg.MakeNoZero"], unfollowed := true, recurses := true, apart := false }
def FnExactDhSaid : Prop := fnExactDhRow.holds Try.pinned (OpenSpec.ofChange fnExactDhSpec)

/-- ITS FALSE NEIGHBOUR: 'it returns false'. Refute it at one input. -/
def fnExactDhWrong : ChangeSpec := { name := "fnExactDh", fn := fun _ => fun
  | [d1, d2] => { results := [.lit (.bool false)], args := [d1, d2] }
  | _ => none }
def FnExactDhWrongFalsely : Prop := fnExactDhRow.holds Try.pinned (OpenSpec.ofChange fnExactDhWrong)

/-- 'laws.FnExactOpen': WHATEVER THE INPUT: true; the input reads as it did. -/
def fnExactOpenSpec : ChangeSpec := { name := "fnExactOpen", fn := fun _ => fun
  | [d1, d2] => { results := [.lit (.bool true)], args := [d1, d2] }
  | _ => none }
def fnExactOpenRow : OpenClaim := { program := "ytobokgdmokpboaa", sum := "2fc97b2f8b0b84cb8a82f5fbe9620a1222c67e43803c377d98712aafba4b448a", func := "loop.example/g00784/laws.FnExactOpen", spec := "fnExactOpen", inPlace := ["internal/abi.NoEscape", "internal/bytealg.MakeNoZero"], unfollowed := true, recurses := true, apart := false }
def FnExactOpenSaid : Prop := fnExactOpenRow.holds Try.pinned (OpenSpec.ofChange fnExactOpenSpec)

/-- ITS FALSE NEIGHBOUR: 'it returns false'. Refute it at one input. -/
def fnExactOpenWrong : ChangeSpec := { name := "fnExactOpen", fn := fun _ => fun
  | [d1, d2] => { results := [.lit (.bool false)], args := [d1, d2] }
  | _ => none }
def FnExactOpenWrongFalsely : Prop := fnExactOpenRow.holds Try.pinned (OpenSpec.ofChange fnExactOpenWrong)

/-- 'laws.FnExactDeepOf': WHATEVER THE INPUT: true; the input reads as it did. -/
def fnExactDeepOfSpec : ChangeSpec := { name := "fnExactDeepOf", fn := fun _ => fun
  | [d] => { results := [.lit (.bool true)], args := [d] }
  | _ => none }
def fnExactDeepOfRow : OpenClaim := { program := "ytobokgdmokpboaa", sum := "2fc97b2f8b0b84cb8a82f5fbe9620a1222c67e43803c377d98712aafba4b448a", func := "loop.example/g00784/laws.FnExactDeepOf", spec := "fnExactDeepOf", unfollowed := true, recurses := true, apart := false }
def FnExactDeepOfSaid : Prop := fnExactDeepOfRow.holds Try.pinned (OpenSpec.ofChange fnExactDeepOfSpec)

/-- ITS FALSE NEIGHBOUR: 'it returns false'. Refute it at one input. -/
def fnExactDeepOfWrong : ChangeSpec := { name := "fnExactDeepOf", fn := fun _ => fun
  | [d] => { results := [.lit (.bool false)], args := [d] }
  | _ => none }
def FnExactDeepOfWrongFalsely : Prop := fnExactDeepOfRow.holds Try.pinned (OpenSpec.ofChange fnExactDeepOfWrong)

/-- 'laws.FnExactAtomsOf': WHATEVER THE INPUT: true; the input reads as it did. -/
def fnExactAtomsOfSpec : ChangeSpec := { name := "fnExactAtomsOf", fn := fun _ => fun
  | [d] => { results := [.lit (.bool true)], args := [d] }
  | _ => none }
def fnExactAtomsOfRow : OpenClaim := { program := "ytobokgdmokpboaa", sum := "2fc97b2f8b0b84cb8a82f5fbe9620a1222c67e43803c377d98712aafba4b448a", func := "loop.example/g00784/laws.FnExactAtomsOf", spec := "fnExactAtomsOf", unfollowed := true, recurses := true, apart := false }
def FnExactAtomsOfSaid : Prop := fnExactAtomsOfRow.holds Try.pinned (OpenSpec.ofChange fnExactAtomsOfSpec)

/-- ITS FALSE NEIGHBOUR: 'it returns false'. Refute it at one input. -/
def fnExactAtomsOfWrong : ChangeSpec := { name := "fnExactAtomsOf", fn := fun _ => fun
  | [d] => { results := [.lit (.bool false)], args := [d] }
  | _ => none }
def FnExactAtomsOfWrongFalsely : Prop := fnExactAtomsOfRow.holds Try.pinned (OpenSpec.ofChange fnExactAtomsOfWrong)

/- THE SECOND FORM. 'bulk': how many values and letters a reading holds, each counted each time it is reached (what is shared counts as often as it is met; a slice's spare places count too). A statement '..UptoSaid' is the law's where the arguments, and the package variables that the reading takes, are together of bulk at most 1048576: NARROWER than '..Said'. Prove '..Said' where nothing that the law and all that it calls make is longer than what came in: it says more and counts as full. Else prove '..UptoSaid'. A law counts once. -/
mutual
def uptoBulk {H : Type} : DataW H → Nat
  | .lit (.string bytes) => bytes.length + 1
  | .lit _ => 1
  | .nil => 1
  | .ptr d => uptoBulk d + 1
  | .slice elems spare => uptoBulkAll elems + uptoBulkAll spare + 1
  | .agg parts => uptoBulkAll parts + 1
  | .iface _ d => uptoBulk d + 1
  | .map entries => uptoBulkEntries entries + 1
  | .held _ => 1
def uptoBulkAll {H : Type} : List (DataW H) → Nat
  | [] => 0
  | d :: r => uptoBulk d + uptoBulkAll r
def uptoBulkEntries {H : Type} : List (Lit × DataW H) → Nat
  | [] => 0
  | x :: r => uptoBulkEntry x + uptoBulkEntries r
def uptoBulkEntry {H : Type} : Lit × DataW H → Nat
  | (.string bytes, d) => bytes.length + uptoBulk d + 1
  | (_, d) => uptoBulk d + 1
 end
def uptoSmall : (H : Type) → List (DataW H) → Bool := fun _ ds => decide (uptoBulkAll ds ≤ 1048576)
def OpenSpec.upto (s : _root_.Go.ChangeSpec) : _root_.Go.OpenSpec := { _root_.Go.OpenSpec.ofChange s with cond := some uptoSmall }

/-- 'laws.FnExactAtomRight', WHERE WHAT IT READS IS OF BULK AT MOST 1048576: true; the input reads as it did. -/
def fnExactAtomRightUptoRow : OpenClaim := { program := "ytobokgdmokpboaa", sum := "2fc97b2f8b0b84cb8a82f5fbe9620a1222c67e43803c377d98712aafba4b448a", func := "loop.example/g00784/laws.FnExactAtomRight", spec := "fnExactAtomRight", apart := false, narrowed := true }
def FnExactAtomRightUptoSaid : Prop := fnExactAtomRightUptoRow.holds Try.pinned (OpenSpec.upto fnExactAtomRightSpec)

/-- 'laws.FnExactTermRight', WHERE WHAT IT READS IS OF BULK AT MOST 1048576: true; the input reads as it did. -/
def fnExactTermRightUptoRow : OpenClaim := { program := "ytobokgdmokpboaa", sum := "2fc97b2f8b0b84cb8a82f5fbe9620a1222c67e43803c377d98712aafba4b448a", func := "loop.example/g00784/laws.FnExactTermRight", spec := "fnExactTermRight", unfollowed := true, recurses := true, apart := false, narrowed := true }
def FnExactTermRightUptoSaid : Prop := fnExactTermRightUptoRow.holds Try.pinned (OpenSpec.upto fnExactTermRightSpec)

/-- 'laws.FnExactNodeOf', WHERE WHAT IT READS IS OF BULK AT MOST 1048576: true; the input reads as it did. -/
def fnExactNodeOfUptoRow : OpenClaim := { program := "ytobokgdmokpboaa", sum := "2fc97b2f8b0b84cb8a82f5fbe9620a1222c67e43803c377d98712aafba4b448a", func := "loop.example/g00784/laws.FnExactNodeOf", spec := "fnExactNodeOf", inPlace := ["internal/abi.NoEscape", "internal/bytealg.MakeNoZero"], unfollowed := true, recurses := true, apart := false, narrowed := true }
def FnExactNodeOfUptoSaid : Prop := fnExactNodeOfUptoRow.holds Try.pinned (OpenSpec.upto fnExactNodeOfSpec)

/-- 'laws.FnExactMake', WHERE WHAT IT READS IS OF BULK AT MOST 1048576: true; the input reads as it did. -/
def fnExactMakeUptoRow : OpenClaim := { program := "ytobokgdmokpboaa", sum := "2fc97b2f8b0b84cb8a82f5fbe9620a1222c67e43803c377d98712aafba4b448a", func := "loop.example/g00784/laws.FnExactMake", spec := "fnExactMake", inPlace := ["internal/abi.NoEscape", "internal/bytealg.MakeNoZero"], unfollowed := true, recurses := true, apart := false, narrowed := true }
def FnExactMakeUptoSaid : Prop := fnExactMakeUptoRow.holds Try.pinned (OpenSpec.upto fnExactMakeSpec)

/-- 'laws.FnExactDh', WHERE WHAT IT READS IS OF BULK AT MOST 1048576: true; the input reads as it did. -/
def fnExactDhUptoRow : OpenClaim := { program := "ytobokgdmokpboaa", sum := "2fc97b2f8b0b84cb8a82f5fbe9620a1222c67e43803c377d98712aafba4b448a", func := "loop.example/g00784/laws.FnExactDh", spec := "fnExactDh", inPlace := ["internal/abi.NoEscape", "internal/bytealg.MakeNoZero"], unfollowed := true, recurses := true, apart := false, narrowed := true }
def FnExactDhUptoSaid : Prop := fnExactDhUptoRow.holds Try.pinned (OpenSpec.upto fnExactDhSpec)

/-- 'laws.FnExactOpen', WHERE WHAT IT READS IS OF BULK AT MOST 1048576: true; the input reads as it did. -/
def fnExactOpenUptoRow : OpenClaim := { program := "ytobokgdmokpboaa", sum := "2fc97b2f8b0b84cb8a82f5fbe9620a1222c67e43803c377d98712aafba4b448a", func := "loop.example/g00784/laws.FnExactOpen", spec := "fnExactOpen", inPlace := ["internal/abi.NoEscape", "internal/bytealg.MakeNoZero"], unfollowed := true, recurses := true, apart := false, narrowed := true }
def FnExactOpenUptoSaid : Prop := fnExactOpenUptoRow.holds Try.pinned (OpenSpec.upto fnExactOpenSpec)

/-- 'laws.FnExactDeepOf', WHERE WHAT IT READS IS OF BULK AT MOST 1048576: true; the input reads as it did. -/
def fnExactDeepOfUptoRow : OpenClaim := { program := "ytobokgdmokpboaa", sum := "2fc97b2f8b0b84cb8a82f5fbe9620a1222c67e43803c377d98712aafba4b448a", func := "loop.example/g00784/laws.FnExactDeepOf", spec := "fnExactDeepOf", unfollowed := true, recurses := true, apart := false, narrowed := true }
def FnExactDeepOfUptoSaid : Prop := fnExactDeepOfUptoRow.holds Try.pinned (OpenSpec.upto fnExactDeepOfSpec)

/-- 'laws.FnExactAtomsOf', WHERE WHAT IT READS IS OF BULK AT MOST 1048576: true; the input reads as it did. -/
def fnExactAtomsOfUptoRow : OpenClaim := { program := "ytobokgdmokpboaa", sum := "2fc97b2f8b0b84cb8a82f5fbe9620a1222c67e43803c377d98712aafba4b448a", func := "loop.example/g00784/laws.FnExactAtomsOf", spec := "fnExactAtomsOf", unfollowed := true, recurses := true, apart := false, narrowed := true }
def FnExactAtomsOfUptoSaid : Prop := fnExactAtomsOfUptoRow.holds Try.pinned (OpenSpec.upto fnExactAtomsOfSpec)

end Rows
end Go.Proofs.Ytobokgdmokpboaa
