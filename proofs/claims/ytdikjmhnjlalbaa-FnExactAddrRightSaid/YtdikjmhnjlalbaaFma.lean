/- An address that came in by value, read: for the frames of laws. -/
import Derived.Test.YtdikjmhnjlalbaaFm0
namespace Go.Proofs.Ytdikjmhnjlalbaa.fmg
open Go.ChangeShapes Go.WideShapes Go.ChangeAt Go.RowKit
open Go.Proofs.Ytdikjmhnjlalbaa.tm Go.Proofs.Ytdikjmhnjlalbaa.bld Go.Proofs.Ytdikjmhnjlalbaa.gdp Go.Proofs.Ytdikjmhnjlalbaa.rbk
set_option linter.unusedVariables false

theorem cellsA : Try.prog.cellsOf 23 = 2 := by kernel_rfl
structure AdIn (a : Ad) : Prop where
  st : a.st.length ≤ maxLen
  hs : a.hs.length ≤ maxLen
set_option maxRecDepth 100000 in
theorem open_addr {H : Type} {enc : TypeId × Value → H} {W : World} {base : Nat} {v : Value} {d : DataW H} {p : List MemPlace}
    (hv : Value.okWide Try.prog W .any base 23 v) (h : DataW.Trod enc Try.prog W 0 (fun _ => true) true 23 v d p) :
    ∃ a : Ad, v = .agg (adA a) ∧ AdIn a := by
  obtain ⟨cs, rfl, hsz⟩ := okWide_struct Try.underlying23 hv
  obtain ⟨l⟩ := cs
  have hl : l.length = 2 := hsz.trans cellsA
  obtain ⟨fuel, hf⟩ := h
  obtain ⟨xs, n, _, hx, _, hlen, hg⟩ := DataW.trod_struct Try.underlying23 hf
  match l, hl with
  | [c0, c1], _ =>
    match xs, hlen with
    | [y0, y1], _ =>
      have h0 : DataW.trod enc Try.prog W 0 (fun _ => true) true n 9 [c0] = some y0 := by simpa [Value.cells, frm.cellsS] using hg 0 _ rfl
      have h1 : DataW.trod enc Try.prog W 0 (fun _ => true) true n 9 [c1] = some y1 := by simpa [Value.cells, frm.cellsS] using hg 1 _ rfl
      obtain ⟨s0, e0, _, w0⟩ := DataW.trod_string Try.underlying9 h0
      obtain ⟨s1, e1, _, w1⟩ := DataW.trod_string Try.underlying9 h1
      simp only [List.cons.injEq, and_true] at e0 e1
      refine ⟨⟨s0.data.toList, s1.data.toList⟩, ?_, w0, w1⟩
      rw [e0, e1, bs_of s0, bs_of s1]
      rfl
end Go.Proofs.Ytdikjmhnjlalbaa.fmg
