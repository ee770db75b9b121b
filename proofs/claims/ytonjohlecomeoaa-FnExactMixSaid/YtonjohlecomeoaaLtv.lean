/- Letters as plain data (Lt), and as values. -/
import Derived.Test.YtonjohlecomeoaaRds
namespace Go.Proofs.Ytonjohlecomeoaa.ltv
open Go.RowKit Go.Proofs.Ytonjohlecomeoaa.tm Go.Proofs.Ytonjohlecomeoaa.bld
set_option linter.unusedVariables false

/-- A letter: kind, from, to, count, parts, macs. -/
structure Lt where
  k : Int
  f : Int
  t : Int
  c : Int
  ps : List Bs
  a : Bs
  b : Bs

def letA (m : Lt) (v : Value) : Array Value := #[.int .i64 m.k, .int .i64 m.f, .int .i64 m.t, .int .i64 m.c, v, str m.a, str m.b]
end Go.Proofs.Ytonjohlecomeoaa.ltv
