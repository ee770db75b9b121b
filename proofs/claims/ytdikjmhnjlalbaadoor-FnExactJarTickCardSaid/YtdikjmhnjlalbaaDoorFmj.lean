/- A jar that came in by value, read: for the frames of laws. -/
import Derived.Test.YtdikjmhnjlalbaaDoorFm0
namespace Go.Proofs.YtdikjmhnjlalbaaDoor.fmg
open Go.ChangeShapes Go.WideShapes Go.ChangeAt Go.RowKit
open Go.Proofs.YtdikjmhnjlalbaaDoor.tm Go.Proofs.YtdikjmhnjlalbaaDoor.bld Go.Proofs.YtdikjmhnjlalbaaDoor.gdp Go.Proofs.YtdikjmhnjlalbaaDoor.rbk
set_option linter.unusedVariables false

theorem cellsJ : Tryd.prog.cellsOf 23 = 4 := by kernel_rfl
structure JrIn (j : Jr) : Prop where
  now : j.now.length ≤ maxLen
  was : j.was.length ≤ maxLen
  a1 : -9223372036854775808 ≤ j.at_
  a2 : j.at_ ≤ 9223372036854775807
  n1 : -9223372036854775808 ≤ j.next
  n2 : j.next ≤ 9223372036854775807
set_option maxRecDepth 100000 in
theorem open_jar {H : Type} {enc : TypeId × Value → H} {W : World} {base : Nat} {v : Value} {d : DataW H} {p : List MemPlace}
    (hv : Value.okWide Tryd.prog W .any base 23 v) (h : DataW.Trod enc Tryd.prog W 0 (fun _ => true) true 23 v d p) :
    ∃ j : Jr, v = .agg (jrA j) ∧ JrIn j := by
  obtain ⟨cs, rfl, hsz⟩ := okWide_struct Tryd.underlying23 hv
  obtain ⟨l⟩ := cs
  have hl : l.length = 4 := hsz.trans cellsJ
  obtain ⟨fuel, hf⟩ := h
  obtain ⟨xs, n, _, hx, _, hlen, hg⟩ := DataW.trod_struct Tryd.underlying23 hf
  match l, hl with
  | [c0, c1, c2, c3], _ =>
    match xs, hlen with
    | [y0, y1, y2, y3], _ =>
      have h0 : DataW.trod enc Tryd.prog W 0 (fun _ => true) true n 9 [c0] = some y0 := by simpa [Value.cells, frm.cellsS] using hg 0 _ rfl
      have h1 : DataW.trod enc Tryd.prog W 0 (fun _ => true) true n 9 [c1] = some y1 := by simpa [Value.cells, frm.cellsS] using hg 1 _ rfl
      have h2 : DataW.trod enc Tryd.prog W 0 (fun _ => true) true n 2 [c2] = some y2 := by simpa [Value.cells, cellsI] using hg 2 _ rfl
      have h3 : DataW.trod enc Tryd.prog W 0 (fun _ => true) true n 2 [c3] = some y3 := by simpa [Value.cells, cellsI] using hg 3 _ rfl
      obtain ⟨s0, e0, _, w0⟩ := DataW.trod_string Tryd.underlying9 h0
      obtain ⟨s1, e1, _, w1⟩ := DataW.trod_string Tryd.underlying9 h1
      obtain ⟨n2, e2, _, i2⟩ := DataW.trod_int Tryd.underlying2 h2
      obtain ⟨n3, e3, _, i3⟩ := DataW.trod_int Tryd.underlying2 h3
      simp only [List.cons.injEq, and_true] at e0 e1 e2 e3
      have j2 := bounds i2
      have j3 := bounds i3
      refine ⟨⟨s0.data.toList, s1.data.toList, n2, n3⟩, ?_, w0, w1, j2.1, j2.2, j3.1, j3.2⟩
      rw [e0, e1, e2, e3, bs_of s0, bs_of s1]
      rfl
end Go.Proofs.YtdikjmhnjlalbaaDoor.fmg
