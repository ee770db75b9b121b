/-
  No cell of these rows narrows 'for every input' (looked for: loops, veiled, ifaces, maps, wideKeys, modest, calm, conditions, laid).
  DERIVED. THE GIVEN ROWS OF THIS SEAT. 7 by the template 'for every input the law returns true; each argument reads behind the call as it read before'; 0 by the template 'total and deterministic' (their statements: YtdikjmhnjlalbaaTotals.lean).
  GIVEN WITH THE SEED: the statements are not yours to turn. If you find one false, say at which input.
  Laid BY PROGRAM, IN A SANDBOX (cutbox-rows.mjs): the forced cells as the released guide's own fill.sh prints them over the translation 44bed83b1bc3652b… (all of the seat's roots in one cut). By AI agents, Wed Nov 11 2026. No macro, syntax, notation, axiom, sorry.
-/
import Derived.Test.YtdikjmhnjlalbaaChecked
import GoSem.Claim
import GoSem.ClaimJoined
import GoSem.ClaimMapViews
import Derived.JoinedTies
import Derived.KernelRfl
namespace Go.Proofs.Ytdikjmhnjlalbaa
/- THE CELL 'sum', in the pinned program and in every row, IS THE sha256 OF THE DUMP (.gsa) THAT YtdikjmhnjlalbaaProg.lean LOADS. Nothing in Lean hashes anything: it is a label: what it is worth is what the hold of that sum in a sandbox is worth. -/
noncomputable def Try.pinned : Pinned := { name := "ytdikjmhnjlalbaa", sum := "44bed83b1bc3652b542c0fcc63d7e3f28202d2709ac51ea2295c289ab8d85942", checked := Try.checked }
namespace Rows
def none {H : Type} : Left H := { results := [], args := [] }

/-- 'laws.FnExactAddrRight': WHATEVER THE INPUT: true; the input reads as it did. -/
def fnExactAddrRightSpec : ChangeSpec := { name := "fnExactAddrRight", fn := fun _ => fun
  | [d] => { results := [.lit (.bool true)], args := [d] }
  | _ => none }
def fnExactAddrRightRow : OpenClaim := { program := "ytdikjmhnjlalbaa", sum := "44bed83b1bc3652b542c0fcc63d7e3f28202d2709ac51ea2295c289ab8d85942", func := "loop.example/g00784/laws.FnExactAddrRight", spec := "fnExactAddrRight", apart := false }
def FnExactAddrRightSaid : Prop := fnExactAddrRightRow.holds Try.pinned (OpenSpec.ofChange fnExactAddrRightSpec)

/-- ITS FALSE NEIGHBOUR: 'it returns false'. Refute it at one input. -/
def fnExactAddrRightWrong : ChangeSpec := { name := "fnExactAddrRight", fn := fun _ => fun
  | [d] => { results := [.lit (.bool false)], args := [d] }
  | _ => none }
def FnExactAddrRightWrongFalsely : Prop := fnExactAddrRightRow.holds Try.pinned (OpenSpec.ofChange fnExactAddrRightWrong)

/-- 'laws.FnExactLimitRight': WHATEVER THE INPUT: true; the input reads as it did. -/
def fnExactLimitRightSpec : ChangeSpec := { name := "fnExactLimitRight", fn := fun _ => fun
  | [d] => { results := [.lit (.bool true)], args := [d] }
  | _ => none }
def fnExactLimitRightRow : OpenClaim := { program := "ytdikjmhnjlalbaa", sum := "44bed83b1bc3652b542c0fcc63d7e3f28202d2709ac51ea2295c289ab8d85942", func := "loop.example/g00784/laws.FnExactLimitRight", spec := "fnExactLimitRight", apart := false }
def FnExactLimitRightSaid : Prop := fnExactLimitRightRow.holds Try.pinned (OpenSpec.ofChange fnExactLimitRightSpec)

/-- ITS FALSE NEIGHBOUR: 'it returns false'. Refute it at one input. -/
def fnExactLimitRightWrong : ChangeSpec := { name := "fnExactLimitRight", fn := fun _ => fun
  | [d] => { results := [.lit (.bool false)], args := [d] }
  | _ => none }
def FnExactLimitRightWrongFalsely : Prop := fnExactLimitRightRow.holds Try.pinned (OpenSpec.ofChange fnExactLimitRightWrong)

/-- 'laws.FnExactLimitAsk': WHATEVER THE INPUT: true; the input reads as it did. -/
def fnExactLimitAskSpec : ChangeSpec := { name := "fnExactLimitAsk", fn := fun _ => fun
  | [d1, d2, d3] => { results := [.lit (.bool true)], args := [d1, d2, d3] }
  | _ => none }
def fnExactLimitAskRow : OpenClaim := { program := "ytdikjmhnjlalbaa", sum := "44bed83b1bc3652b542c0fcc63d7e3f28202d2709ac51ea2295c289ab8d85942", func := "loop.example/g00784/laws.FnExactLimitAsk", spec := "fnExactLimitAsk", unfollowed := true, recurses := true, apart := false }
def FnExactLimitAskSaid : Prop := fnExactLimitAskRow.holds Try.pinned (OpenSpec.ofChange fnExactLimitAskSpec)

/-- ITS FALSE NEIGHBOUR: 'it returns false'. Refute it at one input. -/
def fnExactLimitAskWrong : ChangeSpec := { name := "fnExactLimitAsk", fn := fun _ => fun
  | [d1, d2, d3] => { results := [.lit (.bool false)], args := [d1, d2, d3] }
  | _ => none }
def FnExactLimitAskWrongFalsely : Prop := fnExactLimitAskRow.holds Try.pinned (OpenSpec.ofChange fnExactLimitAskWrong)

/-- 'laws.FnExactLimitClean': WHATEVER THE INPUT: true; the input reads as it did. -/
def fnExactLimitCleanSpec : ChangeSpec := { name := "fnExactLimitClean", fn := fun _ => fun
  | [d1, d2] => { results := [.lit (.bool true)], args := [d1, d2] }
  | _ => none }
def fnExactLimitCleanRow : OpenClaim := { program := "ytdikjmhnjlalbaa", sum := "44bed83b1bc3652b542c0fcc63d7e3f28202d2709ac51ea2295c289ab8d85942", func := "loop.example/g00784/laws.FnExactLimitClean", spec := "fnExactLimitClean", unfollowed := true, recurses := true, apart := false }
def FnExactLimitCleanSaid : Prop := fnExactLimitCleanRow.holds Try.pinned (OpenSpec.ofChange fnExactLimitCleanSpec)

/-- ITS FALSE NEIGHBOUR: 'it returns false'. Refute it at one input. -/
def fnExactLimitCleanWrong : ChangeSpec := { name := "fnExactLimitClean", fn := fun _ => fun
  | [d1, d2] => { results := [.lit (.bool false)], args := [d1, d2] }
  | _ => none }
def FnExactLimitCleanWrongFalsely : Prop := fnExactLimitCleanRow.holds Try.pinned (OpenSpec.ofChange fnExactLimitCleanWrong)

/-- 'laws.FnExactJarRight': WHATEVER THE INPUT: true; the input reads as it did. -/
def fnExactJarRightSpec : ChangeSpec := { name := "fnExactJarRight", fn := fun _ => fun
  | [d] => { results := [.lit (.bool true)], args := [d] }
  | _ => none }
def fnExactJarRightRow : OpenClaim := { program := "ytdikjmhnjlalbaa", sum := "44bed83b1bc3652b542c0fcc63d7e3f28202d2709ac51ea2295c289ab8d85942", func := "loop.example/g00784/laws.FnExactJarRight", spec := "fnExactJarRight", apart := false }
def FnExactJarRightSaid : Prop := fnExactJarRightRow.holds Try.pinned (OpenSpec.ofChange fnExactJarRightSpec)

/-- ITS FALSE NEIGHBOUR: 'it returns false'. Refute it at one input. -/
def fnExactJarRightWrong : ChangeSpec := { name := "fnExactJarRight", fn := fun _ => fun
  | [d] => { results := [.lit (.bool false)], args := [d] }
  | _ => none }
def FnExactJarRightWrongFalsely : Prop := fnExactJarRightRow.holds Try.pinned (OpenSpec.ofChange fnExactJarRightWrong)

/-- 'laws.FnExactCookieOf': WHATEVER THE INPUT: true; the input reads as it did. -/
def fnExactCookieOfSpec : ChangeSpec := { name := "fnExactCookieOf", fn := fun _ => fun
  | [d1, d2] => { results := [.lit (.bool true)], args := [d1, d2] }
  | _ => none }
def fnExactCookieOfRow : OpenClaim := { program := "ytdikjmhnjlalbaa", sum := "44bed83b1bc3652b542c0fcc63d7e3f28202d2709ac51ea2295c289ab8d85942", func := "loop.example/g00784/laws.FnExactCookieOf", spec := "fnExactCookieOf", inPlace := ["internal/abi.NoEscape", "internal/bytealg.MakeNoZero"], unfollowed := true, recurses := true, apart := false }
def FnExactCookieOfSaid : Prop := fnExactCookieOfRow.holds Try.pinned (OpenSpec.ofChange fnExactCookieOfSpec)

/-- ITS FALSE NEIGHBOUR: 'it returns false'. Refute it at one input. -/
def fnExactCookieOfWrong : ChangeSpec := { name := "fnExactCookieOf", fn := fun _ => fun
  | [d1, d2] => { results := [.lit (.bool false)], args := [d1, d2] }
  | _ => none }
def FnExactCookieOfWrongFalsely : Prop := fnExactCookieOfRow.holds Try.pinned (OpenSpec.ofChange fnExactCookieOfWrong)

/-- 'laws.FnLimit': WHATEVER THE INPUT: true; the input reads as it did. -/
def fnLimitSpec : ChangeSpec := { name := "fnLimit", fn := fun _ => fun
  | [d1, d2] => { results := [.lit (.bool true)], args := [d1, d2] }
  | _ => none }
def fnLimitRow : OpenClaim := { program := "ytdikjmhnjlalbaa", sum := "44bed83b1bc3652b542c0fcc63d7e3f28202d2709ac51ea2295c289ab8d85942", func := "loop.example/g00784/laws.FnLimit", spec := "fnLimit", unfollowed := true, recurses := true, apart := false }
def FnLimitSaid : Prop := fnLimitRow.holds Try.pinned (OpenSpec.ofChange fnLimitSpec)

/-- ITS FALSE NEIGHBOUR: 'it returns false'. Refute it at one input. -/
def fnLimitWrong : ChangeSpec := { name := "fnLimit", fn := fun _ => fun
  | [d1, d2] => { results := [.lit (.bool false)], args := [d1, d2] }
  | _ => none }
def FnLimitWrongFalsely : Prop := fnLimitRow.holds Try.pinned (OpenSpec.ofChange fnLimitWrong)

/- THE SECOND FORM. 'bulk': how many values and letters a reading holds, each counted each time it is reached (what is shared counts as often as it is met; a slice's spare places count too). A statement '..UptoSaid' is the law's where the arguments, and the package variables that the reading takes, are together of bulk at most 1048576: NARROWER than '..Said'. Prove '..Said' where nothing that the law and all that it calls make is longer than what came in: it says more and counts as full. Else prove '..UptoSaid'. A law counts once. -/
mutual
def uptoBulk {H : Type} : DataW H → Nat
  | .lit (.string bytes) => bytes.length + 1
  | .lit _ => 1
  | .nil => 1
  | .ptr d => uptoBulk d + 1
  | .slice elems spare => uptoBulkAll elems + uptoBulkAll spare + 1
  | .agg parts => uptoBulkAll parts + 1
  | .iface _ d => uptoBulk d + 1
  | .map entries => uptoBulkEntries entries + 1
  | .held _ => 1
def uptoBulkAll {H : Type} : List (DataW H) → Nat
  | [] => 0
  | d :: r => uptoBulk d + uptoBulkAll r
def uptoBulkEntries {H : Type} : List (Lit × DataW H) → Nat
  | [] => 0
  | x :: r => uptoBulkEntry x + uptoBulkEntries r
def uptoBulkEntry {H : Type} : Lit × DataW H → Nat
  | (.string bytes, d) => bytes.length + uptoBulk d + 1
  | (_, d) => uptoBulk d + 1
 end
def uptoSmall : (H : Type) → List (DataW H) → Bool := fun _ ds => decide (uptoBulkAll ds ≤ 1048576)
def OpenSpec.upto (s : _root_.Go.ChangeSpec) : _root_.Go.OpenSpec := { _root_.Go.OpenSpec.ofChange s with cond := some uptoSmall }

/-- 'laws.FnExactAddrRight', WHERE WHAT IT READS IS OF BULK AT MOST 1048576: true; the input reads as it did. -/
def fnExactAddrRightUptoRow : OpenClaim := { program := "ytdikjmhnjlalbaa", sum := "44bed83b1bc3652b542c0fcc63d7e3f28202d2709ac51ea2295c289ab8d85942", func := "loop.example/g00784/laws.FnExactAddrRight", spec := "fnExactAddrRight", apart := false, narrowed := true }
def FnExactAddrRightUptoSaid : Prop := fnExactAddrRightUptoRow.holds Try.pinned (OpenSpec.upto fnExactAddrRightSpec)

/-- 'laws.FnExactLimitRight', WHERE WHAT IT READS IS OF BULK AT MOST 1048576: true; the input reads as it did. -/
def fnExactLimitRightUptoRow : OpenClaim := { program := "ytdikjmhnjlalbaa", sum := "44bed83b1bc3652b542c0fcc63d7e3f28202d2709ac51ea2295c289ab8d85942", func := "loop.example/g00784/laws.FnExactLimitRight", spec := "fnExactLimitRight", apart := false, narrowed := true }
def FnExactLimitRightUptoSaid : Prop := fnExactLimitRightUptoRow.holds Try.pinned (OpenSpec.upto fnExactLimitRightSpec)

/-- 'laws.FnExactLimitAsk', WHERE WHAT IT READS IS OF BULK AT MOST 1048576: true; the input reads as it did. -/
def fnExactLimitAskUptoRow : OpenClaim := { program := "ytdikjmhnjlalbaa", sum := "44bed83b1bc3652b542c0fcc63d7e3f28202d2709ac51ea2295c289ab8d85942", func := "loop.example/g00784/laws.FnExactLimitAsk", spec := "fnExactLimitAsk", unfollowed := true, recurses := true, apart := false, narrowed := true }
def FnExactLimitAskUptoSaid : Prop := fnExactLimitAskUptoRow.holds Try.pinned (OpenSpec.upto fnExactLimitAskSpec)

/-- 'laws.FnExactLimitClean', WHERE WHAT IT READS IS OF BULK AT MOST 1048576: true; the input reads as it did. -/
def fnExactLimitCleanUptoRow : OpenClaim := { program := "ytdikjmhnjlalbaa", sum := "44bed83b1bc3652b542c0fcc63d7e3f28202d2709ac51ea2295c289ab8d85942", func := "loop.example/g00784/laws.FnExactLimitClean", spec := "fnExactLimitClean", unfollowed := true, recurses := true, apart := false, narrowed := true }
def FnExactLimitCleanUptoSaid : Prop := fnExactLimitCleanUptoRow.holds Try.pinned (OpenSpec.upto fnExactLimitCleanSpec)

/-- 'laws.FnExactJarRight', WHERE WHAT IT READS IS OF BULK AT MOST 1048576: true; the input reads as it did. -/
def fnExactJarRightUptoRow : OpenClaim := { program := "ytdikjmhnjlalbaa", sum := "44bed83b1bc3652b542c0fcc63d7e3f28202d2709ac51ea2295c289ab8d85942", func := "loop.example/g00784/laws.FnExactJarRight", spec := "fnExactJarRight", apart := false, narrowed := true }
def FnExactJarRightUptoSaid : Prop := fnExactJarRightUptoRow.holds Try.pinned (OpenSpec.upto fnExactJarRightSpec)

/-- 'laws.FnExactCookieOf', WHERE WHAT IT READS IS OF BULK AT MOST 1048576: true; the input reads as it did. -/
def fnExactCookieOfUptoRow : OpenClaim := { program := "ytdikjmhnjlalbaa", sum := "44bed83b1bc3652b542c0fcc63d7e3f28202d2709ac51ea2295c289ab8d85942", func := "loop.example/g00784/laws.FnExactCookieOf", spec := "fnExactCookieOf", inPlace := ["internal/abi.NoEscape", "internal/bytealg.MakeNoZero"], unfollowed := true, recurses := true, apart := false, narrowed := true }
def FnExactCookieOfUptoSaid : Prop := fnExactCookieOfUptoRow.holds Try.pinned (OpenSpec.upto fnExactCookieOfSpec)

/-- 'laws.FnLimit', WHERE WHAT IT READS IS OF BULK AT MOST 1048576: true; the input reads as it did. -/
def fnLimitUptoRow : OpenClaim := { program := "ytdikjmhnjlalbaa", sum := "44bed83b1bc3652b542c0fcc63d7e3f28202d2709ac51ea2295c289ab8d85942", func := "loop.example/g00784/laws.FnLimit", spec := "fnLimit", unfollowed := true, recurses := true, apart := false, narrowed := true }
def FnLimitUptoSaid : Prop := fnLimitUptoRow.holds Try.pinned (OpenSpec.upto fnLimitSpec)

end Rows
end Go.Proofs.Ytdikjmhnjlalbaa
