/- Small laws about worlds that only grew since some base: what the walks of chapter 7 lean on. -/
import Derived.Test.YtonjohlecomeoaaLib
namespace Go.Proofs.Ytonjohlecomeoaa.blw
open Go.RowKit
set_option linter.unusedVariables false

theorem al0 {w : World} (o : Obj) : Below w.heap.size w (w.alloc o) := (Below.refl _ _).alloc (Nat.le_refl _) o
theorem al1 {w W : World} (h : Below w.heap.size w W) (o : Obj) : Below w.heap.size w (W.alloc o) := h.alloc h.size o
theorem al2 {w W : World} (h : Below w.heap.size w W) (o p : Obj) : Below w.heap.size w ((W.alloc o).alloc p) := al1 (al1 h o) p
theorem al3 {w W : World} (h : Below w.heap.size w W) (o p q : Obj) : Below w.heap.size w (((W.alloc o).alloc p).alloc q) := al1 (al2 h o p) q
theorem al4 {w W : World} (h : Below w.heap.size w W) (o p q r : Obj) : Below w.heap.size w ((((W.alloc o).alloc p).alloc q).alloc r) := al1 (al3 h o p q) r
theorem on {F : FuncId} {args : Array Value} {w W : World} {v : Value} (k : Below w.heap.size w W) (h : Calls Try.prog F args W fun e w' => e = .returned v ∧ Below W.heap.size W w') :
    Calls Try.prog F args W fun e w' => e = .returned v ∧ Below w.heap.size w w' :=
  h.mono (by rintro e w' ⟨rfl, hb⟩; exact ⟨rfl, k.trans (hb.mono k.size)⟩)
theorem still {F : FuncId} {args : Array Value} {w W : World} {v : Value} (k : Below w.heap.size w W) (h : Calls Try.prog F args W fun e w' => e = .returned v ∧ W = w') :
    Calls Try.prog F args W fun e w' => e = .returned v ∧ Below w.heap.size w w' :=
  h.mono (by rintro e w' ⟨rfl, rfl⟩; exact ⟨rfl, k⟩)
/-- .. back to an older base. -/
theorem base {w w0 W : World} (k : Below w.heap.size w w0) (h : Below w0.heap.size w0 W) : Below w.heap.size w W := k.trans (h.mono k.size)
theorem keptB {W W' : World} {b : Nat} {o : Obj} (h : W.heap[b]? = some o) (k : Below W.heap.size W W') : W'.heap[b]? = some o :=
  (k.block b (Array.getElem?_eq_some_iff.1 h).1).trans h
theorem keptA {W : World} {b : Nat} {o : Obj} (h : W.heap[b]? = some o) (p : Obj) : (W.alloc p).heap[b]? = some o := keptB h (al0 p)
theorem cellB {W W' : World} {b i : Nat} {v : Value} (h : W.cell? ⟨b, i, none⟩ = some v) (k : Below W.heap.size W W') (hb : b < W.heap.size) : W'.cell? ⟨b, i, none⟩ = some v := (k.cell (p := ⟨b, i, none⟩) hb).trans h
end Go.Proofs.Ytonjohlecomeoaa.blw
