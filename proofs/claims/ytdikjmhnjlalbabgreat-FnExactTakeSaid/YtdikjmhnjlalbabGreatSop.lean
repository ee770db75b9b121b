/- What Open answers, and what leans on it; TermRight and l02Node of the model at texts. -/
import Derived.Test.YtdikjmhnjlalbabGreatSnd
import Derived.Test.YtdikjmhnjlalbabGreatSob
namespace Go.Proofs.YtdikjmhnjlalbabGreat.sop
open Go.RowKit Go.Proofs.YtdikjmhnjlalbabGreat.tm Go.Proofs.YtdikjmhnjlalbabGreat.lib Go.Proofs.YtdikjmhnjlalbabGreat.rdr Go.Proofs.YtdikjmhnjlalbabGreat.bld Go.Proofs.YtdikjmhnjlalbabGreat.app Go.Proofs.YtdikjmhnjlalbabGreat.snd
set_option linter.unusedVariables false

/-- What Open answers: the text, and the code. -/
inductive OpenR (key t : Bs) : Bs → Int → Prop
  | size (h : 8000 < key.length ∨ 8000 < t.length) : OpenR key t [] 2
  | form (h1 : key.length ≤ 8000) (h2 : t.length ≤ 8000) (h : term key = none ∨ term t = none) : OpenR key t [] 1
  | other (h1 : key.length ≤ 8000) (h2 : t.length ≤ 8000) (K T : Tm) (hK : term key = some K) (hT : term t = some T) (h : T.op ≠ oShut) : OpenR key t [] 6
  | none (h1 : key.length ≤ 8000) (h2 : t.length ≤ 8000) (K k x : Tm) (hK : term key = some K) (hT : term t = some (.shut k x)) (h : k.tx ≠ key) : OpenR key t [] 6
  | some (h1 : key.length ≤ 8000) (h2 : t.length ≤ 8000) (K k x : Tm) (hK : term key = some K) (hT : term t = some (.shut k x)) (h : k.tx = key) : OpenR key t x.tx 0

theorem open_total (key t : Bs) : ∃ r c, OpenR key t r c := by
  by_cases hs : 8000 < key.length ∨ 8000 < t.length
  · exact ⟨_, _, .size hs⟩
  have h1 : key.length ≤ 8000 := by omega
  have h2 : t.length ≤ 8000 := by omega
  cases hK : term key with
  | none => exact ⟨_, _, .form h1 h2 (.inl hK)⟩
  | some K =>
    cases hT : term t with
    | none => exact ⟨_, _, .form h1 h2 (.inr hT)⟩
    | some T =>
      by_cases ho : T.op = oShut
      · cases T with
        | shut k x =>
          by_cases hk : k.tx = key
          · exact ⟨_, _, .some h1 h2 K k x hK hT hk⟩
          · exact ⟨_, _, .none h1 h2 K k x hK hT hk⟩
        | _ => simp [Tm.op, oShut, oPair, oHash, oMac, oPub, oDh] at ho
      · exact ⟨_, _, .other h1 h2 K T hK hT ho⟩

theorem node_at (l : Bs) (T : Tm) (h : term l = some T) (w : World) :
    Calls Tryz.prog 53 #[str l] w fun e w' => ∃ v, e = .returned (.agg #[str T.op, v]) ∧ Below w.heap.size w w' ∧ Txs w' w.heap.size v (nodeArgs T) := by
  obtain ⟨a, b, c, d⟩ := term_some.1 h
  exact node_calls ⟨l.toArray⟩ T b (by show l.toArray.size ≤ 3000; simpa using a) d w

theorem Txs.two {w : World} {B : Nat} {v : Value} {a b : Bs} (h : Txs w B v [a, b]) :
    ∃ g off cap, v = .slice (some ⟨g, off, none⟩) 2 cap ∧ B ≤ g ∧ g < w.heap.size ∧ w.cell? ⟨g, off, none⟩ = some (str a) ∧ w.cell? ⟨g, off + 1, none⟩ = some (str b) := by
  obtain ⟨g, off, cap, e, h1, h2, h3, h4⟩ := h
  exact ⟨g, off, cap, e, h1, h2, h4 0 a rfl, h4 1 b rfl⟩

end Go.Proofs.YtdikjmhnjlalbabGreat.sop
