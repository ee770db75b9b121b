/- A letter that came in by value, read: for the frames of laws. -/
import Derived.Test.YtnlinlodgpbnlaaFrm
import Derived.Test.YtnlinlodgpbnlaaLtv
import Derived.Deep.Fields
namespace Go.Proofs.Ytnlinlodgpbnlaa.fml
open Go.ChangeShapes Go.WideShapes Go.ChangeAt Go.RowKit
open Go.Proofs.Ytnlinlodgpbnlaa.tm Go.Proofs.Ytnlinlodgpbnlaa.bld Go.Proofs.Ytnlinlodgpbnlaa.mrk Go.Proofs.Ytnlinlodgpbnlaa.ltv
set_option linter.unusedVariables false

theorem cellsL : Try.prog.cellsOf 24 = 7 := by kernel_rfl

/-- What is told of a letter that came in. -/
structure LtIn (w : World) (m : Lt) (v : Value) : Prop where
  rds : Rds w v m.ps
  len : m.ps.length ≤ maxLen
  each : ∀ x ∈ m.ps, x.length ≤ maxLen
  a : m.a.length ≤ maxLen
  b : m.b.length ≤ maxLen

theorem LtIn.below {w w' : World} {m : Lt} {v : Value} (h : LtIn w m v) (k : Below w.heap.size w w') : LtIn w' m v := ⟨Rds.below h.rds k, h.len, h.each, h.a, h.b⟩

theorem bs_of (s : ByteArray) : Value.string s = str s.data.toList := by simp [str]

set_option maxRecDepth 100000 in
theorem open_letter {H : Type} {enc : TypeId × Value → H} {W : World} {base : Nat} {v : Value} {d : DataW H} {p : List MemPlace}
    (hv : Value.okWide Try.prog W .any base 24 v) (h : DataW.Trod enc Try.prog W 0 (fun _ => true) true 24 v d p) :
    ∃ (m : Lt) (sv : Value), v = .agg (letA m sv) ∧ LtIn W m sv := by
  obtain ⟨cs, rfl, hsz⟩ := okWide_struct Try.underlying24 hv
  obtain ⟨l⟩ := cs
  have hl : l.length = 7 := hsz.trans cellsL
  obtain ⟨fuel, hf⟩ := h
  obtain ⟨xs, n, _, hx, _, hlen, hg⟩ := DataW.trod_struct Try.underlying24 hf
  match l, hl with
  | [c0, c1, c2, c3, c4, c5, c6], _ =>
    match xs, hlen with
    | [y0, y1, y2, y3, y4, y5, y6], _ =>
      have k2 : Try.prog.cellsOf 2 = 1 := by kernel_rfl
      have k22 : Try.prog.cellsOf 22 = 1 := by kernel_rfl
      have h0 : DataW.trod enc Try.prog W 0 (fun _ => true) true n 2 [c0] = some y0 := by simpa [Value.cells, k2] using hg 0 _ rfl
      have h1 : DataW.trod enc Try.prog W 0 (fun _ => true) true n 2 [c1] = some y1 := by simpa [Value.cells, k2] using hg 1 _ rfl
      have h2 : DataW.trod enc Try.prog W 0 (fun _ => true) true n 2 [c2] = some y2 := by simpa [Value.cells, k2] using hg 2 _ rfl
      have h3 : DataW.trod enc Try.prog W 0 (fun _ => true) true n 2 [c3] = some y3 := by simpa [Value.cells, k2] using hg 3 _ rfl
      have h4 : DataW.trod enc Try.prog W 0 (fun _ => true) true n 22 [c4] = some y4 := by simpa [Value.cells, k22] using hg 4 _ rfl
      have h5 : DataW.trod enc Try.prog W 0 (fun _ => true) true n 9 [c5] = some y5 := by simpa [Value.cells, frm.cellsS] using hg 5 _ rfl
      have h6 : DataW.trod enc Try.prog W 0 (fun _ => true) true n 9 [c6] = some y6 := by simpa [Value.cells, frm.cellsS] using hg 6 _ rfl
      obtain ⟨n0, e0, _, _⟩ := DataW.trod_int Try.underlying2 h0
      obtain ⟨n1, e1, _, _⟩ := DataW.trod_int Try.underlying2 h1
      obtain ⟨n2, e2, _, _⟩ := DataW.trod_int Try.underlying2 h2
      obtain ⟨n3, e3, _, _⟩ := DataW.trod_int Try.underlying2 h3
      obtain ⟨s5, e5, _, w5⟩ := DataW.trod_string Try.underlying9 h5
      obtain ⟨s6, e6, _, w6⟩ := DataW.trod_string Try.underlying9 h6
      simp only [List.cons.injEq, and_true] at e0 e1 e2 e3 e5 e6
      have h4' : ∃ ad len cap, c4 = .slice ad len cap := by
        rcases open_strings Try.underlying22 Try.underlying9 frm.cellsS h4 with ⟨e, _⟩ | ⟨a, len, cap, ss, e, _⟩
        · simp only [List.cons.injEq, and_true] at e; exact ⟨_, _, _, e⟩
        · simp only [List.cons.injEq, and_true] at e; exact ⟨_, _, _, e⟩
      obtain ⟨ad, len, cap, e4⟩ := h4'
      subst e4
      obtain ⟨ls, hn, hr, hm, hw⟩ := frm.open_rds (W := W) (d := y4.1) (p := y4.2) ⟨n, by simpa [Value.cells] using h4⟩
      subst hn
      refine ⟨⟨n0, n1, n2, n3, ls, s5.data.toList, s6.data.toList⟩, .slice ad ls.length cap, ?_, hr, hm, hw, w5, w6⟩
      rw [e0, e1, e2, e3, e5, e6, bs_of s5, bs_of s6]
      rfl
end Go.Proofs.Ytnlinlodgpbnlaa.fml
