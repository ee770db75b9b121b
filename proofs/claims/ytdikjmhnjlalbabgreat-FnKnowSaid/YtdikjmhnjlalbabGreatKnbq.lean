/- What FnKnow asks, as fixed answers: right, known, built; and what holds between them. -/
import Derived.Test.YtdikjmhnjlalbabGreatQb
import Derived.Test.YtdikjmhnjlalbabGreatQr
import Derived.Test.YtdikjmhnjlalbabGreatQq
import Derived.Test.YtdikjmhnjlalbabGreatSkrq
import Derived.Test.YtdikjmhnjlalbabGreatLrnq
namespace Go.Proofs.YtdikjmhnjlalbabGreat.knb
open Go Go.RowKit Go.Proofs.YtdikjmhnjlalbabGreat.tm Go.Proofs.YtdikjmhnjlalbabGreat.lib Go.Proofs.YtdikjmhnjlalbabGreat.rdr Go.Proofs.YtdikjmhnjlalbabGreat.bld Go.Proofs.YtdikjmhnjlalbabGreat.app Go.Proofs.YtdikjmhnjlalbabGreat.mrk Go.Proofs.YtdikjmhnjlalbabGreat.mrs Go.Proofs.YtdikjmhnjlalbabGreat.ato Go.Proofs.YtdikjmhnjlalbabGreat.kmp Go.Proofs.YtdikjmhnjlalbabGreat.pso Go.Proofs.YtdikjmhnjlalbabGreat.skr Go.Proofs.YtdikjmhnjlalbabGreat.bui Go.Proofs.YtdikjmhnjlalbabGreat.kws Go.Proofs.YtdikjmhnjlalbabGreat.tak
set_option linter.unusedVariables false

open Classical in
noncomputable def KR (ls : List Bs) : Bool := decide (∃ Ts, Kn ls Ts)
open Classical in
noncomputable def KW (ls : List Bs) (t : Bs) : Bool := decide (∃ Ts R, Kn ls Ts ∧ Least ls R ∧ asks R t = true)
open Classical in
noncomputable def BW (ls : List Bs) (t : Bs) : Bool := @decide ((∃ Ts, Kn ls Ts) ∧ asks ls t = true) (Classical.propDecidable _)

/-- There is all that can be taken, or they are not right. -/
def Has (ls : List Bs) : Prop := (∃ Ts R, Kn ls Ts ∧ Least ls R) ∨ ∀ Ts, ¬ Kn ls Ts

theorem KR_iff {ls : List Bs} : KR ls = true ↔ ∃ Ts, Kn ls Ts := by
  unfold KR; exact @decide_eq_true_iff _ (Classical.propDecidable _)
theorem KR_no {ls : List Bs} (h : ∀ Ts, ¬ Kn ls Ts) : KR ls = false := by
  cases e : KR ls with
  | false => rfl
  | true => obtain ⟨Ts, hk⟩ := KR_iff.1 e; exact absurd hk (h Ts)
theorem KW_iff {ls : List Bs} {t : Bs} : KW ls t = true ↔ ∃ Ts R, Kn ls Ts ∧ Least ls R ∧ asks R t = true := by
  unfold KW; exact @decide_eq_true_iff _ (Classical.propDecidable _)
theorem KW_of {ls : List Bs} {Ts : List Tm} {R : List Bs} (h1 : Kn ls Ts) (h2 : Least ls R) (t : Bs) : KW ls t = asks R t := by
  cases e : asks R t with
  | true => exact KW_iff.2 ⟨Ts, R, h1, h2, e⟩
  | false =>
    cases e2 : KW ls t with
    | false => rfl
    | true =>
      obtain ⟨Us, R', _, h3, h4⟩ := KW_iff.1 e2
      rw [least_asks h3 h2 t, e] at h4
      cases h4
theorem KW_no {ls : List Bs} (h : ∀ Ts, ¬ Kn ls Ts) (t : Bs) : KW ls t = false := by
  cases e : KW ls t with
  | false => rfl
  | true => obtain ⟨Ts, _, hk, _⟩ := KW_iff.1 e; exact absurd hk (h Ts)
theorem BW_iff {ls : List Bs} {t : Bs} : BW ls t = true ↔ (∃ Ts, Kn ls Ts) ∧ asks ls t = true := by
  unfold BW; exact @decide_eq_true_iff _ (Classical.propDecidable _)
theorem BW_of {ls : List Bs} (h : ∃ Ts, Kn ls Ts) (t : Bs) : BW ls t = asks ls t := by
  rw [Bool.eq_iff_iff, BW_iff]
  exact ⟨fun k => k.2, fun k => ⟨h, k⟩⟩
theorem BW_no {ls : List Bs} (h : ∀ Ts, ¬ Kn ls Ts) (t : Bs) : BW ls t = false := by
  cases e : BW ls t with
  | false => rfl
  | true => obtain ⟨⟨Ts, hk⟩, _⟩ := BW_iff.1 e; exact absurd hk (h Ts)
theorem Has.least {ls : List Bs} (h : Has ls) (k : KR ls = true) : ∃ Ts R, Kn ls Ts ∧ Least ls R := by
  rcases h with h | h
  · exact h
  · obtain ⟨Ts, hk⟩ := KR_iff.1 k; exact absurd hk (h Ts)
theorem KW_KR {ls : List Bs} {t : Bs} (h : KW ls t = true) : KR ls = true := by
  obtain ⟨Ts, _, hk, _⟩ := KW_iff.1 h; exact KR_iff.2 ⟨Ts, hk⟩

/-- What is built from some is known to who knows them. -/
theorem built_known {ls : List Bs} {t : Bs} (hh : Has ls) (h : BW ls t = true) : KW ls t = true := by
  rcases hh with ⟨Ts, R, h1, h2⟩ | hn
  · rw [BW_of ⟨Ts, h1⟩] at h
    rw [KW_of h1 h2]
    unfold asks at h ⊢
    cases e : term t with
    | none => rw [e] at h; cases h
    | some T =>
      rw [e] at h
      exact bld_mono (fun x hx => inn_iff.2 (h2.has x (inn_iff.1 hx))) T h
  · rw [BW_no hn] at h; cases h

theorem kn_right {ls : List Bs} {Ts : List Tm} (h : Kn ls Ts) {x : Bs} (hx : x ∈ ls) : ∃ T, term x = some T := by
  rw [h.txs] at hx
  obtain ⟨T, hT, rfl⟩ := List.mem_map.1 hx
  exact ⟨T, h.right T hT⟩

theorem asks_in {R : List Bs} {x : Bs} {T : Tm} (hx : x ∈ R) (hT : term x = some T) : asks R x = true := by
  unfold asks
  rw [hT]
  refine bld_here (inn_iff.2 ?_)
  rw [(term_some.1 hT).2.2.2]
  exact hx

/-- All that is taken of right ones, if it is not too much, is right, and nothing more is taken of it. -/
theorem taken_right {a u : List Bs} (hk : KR a = true) (h : TR a u) (hu : u.length ≤ 60) : ∃ Ts Us, Kn a Ts ∧ Kn u Us ∧ Least a u ∧ Least u u ∧ Rise u := by
  obtain ⟨Ts0, hk0⟩ := KR_iff.1 hk
  cases h with
  | no hn => exact absurd hk0 (hn Ts0)
  | yes Ts R h1 h2 h3 =>
    have hr : ∀ x ∈ u, ∃ T, term x = some T := fun x hx => by
      have := h2.min (fun x => (term x).isSome) (fun y hy => by obtain ⟨T, hT⟩ := kn_right h1 hy; rw [hT]; rfl) closed_right x hx
      exact Option.isSome_iff_exists.1 this
    obtain ⟨Us, hU⟩ := kn_of hu hr h3
    exact ⟨Ts, Us, h1, hU, h2, knm.least_idem h2, h3⟩
theorem loop_one {a u : List Bs} (hk : KR a = true) (h : TR a u) (hu : u.length ≤ 60) {x : Bs} (hx : x ∈ a) : KW u x = true := by
  obtain ⟨Ts, Us, h1, h2, h3, h4, _⟩ := taken_right hk h hu
  obtain ⟨T, hT⟩ := kn_right h1 hx
  rw [KW_of h2 h4]
  exact asks_in (h3.has x hx) hT
theorem loop_two {a u : List Bs} (hk : KR a = true) (h : TR a u) (hu : u.length ≤ 60) {x : Bs} (hx : x ∈ u) : KW a x = true := by
  obtain ⟨Ts, Us, h1, h2, h3, h4, _⟩ := taken_right hk h hu
  obtain ⟨T, hT⟩ := kn_right h2 hx
  rw [KW_of h1 h3]
  exact asks_in hx hT
theorem taken_again {a u o : List Bs} (hk : KR a = true) (h : TR a u) (hu : u.length ≤ 60) (k : TR u o) : o = u := by
  obtain ⟨Ts, Us, h1, h2, h3, h4, h5⟩ := taken_right hk h hu
  exact TR.one k (.yes Us u h2 h4 h5)

/-- One more that is right. -/
theorem kn_put {l : List Bs} {x : Bs} (hk : KR l = true) (hl : l.length < 60) (hx : ∃ T, term x = some T) : ∃ Ts, Kn (put l x) Ts := by
  obtain ⟨Ts, h⟩ := KR_iff.1 hk
  obtain ⟨r1, r2⟩ := put_rise l x h.rise
  refine kn_of ?_ (fun y hy => ?_) r1
  · rcases put_len2 (t := x) h.rise with ⟨e, _⟩ | ⟨e, _⟩ <;> omega
  · rcases (r2 y).1 hy with hy | rfl
    · exact kn_right h hy
    · exact hx
theorem wide_knows {l : List Bs} {x t : Bs} (hk : KR l = true) (hl : l.length < 60) (hx : ∃ T, term x = some T) (hh : Has (put l x)) (h : KW l t = true) : KW (put l x) t = true := by
  obtain ⟨Us, hU⟩ := kn_put hk hl hx
  obtain ⟨Ts, R, h1, h2, h3⟩ := KW_iff.1 h
  rcases hh with ⟨Vs, R', h4, h5⟩ | hn
  · rw [KW_of h4 h5]
    unfold asks at h3 ⊢
    cases e : term t with
    | none => rw [e] at h3; cases h3
    | some T =>
      rw [e] at h3
      exact knm.more h2 h5 (fun y hy => ((put_rise l x h1.rise).2 y).2 (.inl hy)) T h3
  · exact absurd hU (hn Us)
theorem adds_nothing {l : List Bs} {t x : Bs} (hk : KR l = true) (hl : l.length < 60) (ht : ∃ T, term t = some T) (hl2 : Has l) (hh : Has (put l t)) (h : KW l t = true) : KW (put l t) x = KW l x := by
  obtain ⟨Us, hU⟩ := kn_put hk hl ht
  obtain ⟨Ts, R, h1, h2, h3⟩ := KW_iff.1 h
  rcases hh with ⟨Vs, R', h4, h5⟩ | hn
  · rw [KW_of h4 h5, KW_of h1 h2]
    obtain ⟨T, hT⟩ := ht
    obtain ⟨_, hTok, _, hTx⟩ := term_some.1 hT
    unfold asks at h3 ⊢
    rw [hT] at h3
    cases e : term x with
    | none => rfl
    | some X =>
      obtain ⟨_, hX, _, _⟩ := term_some.1 e
      simp only
      rw [Bool.eq_iff_iff]
      constructor
      · intro hb
        refine knm.adds_none h2 h5 hTok h3 (fun y hy => ?_) (fun y hy => ?_) X hX hb
        · obtain ⟨V, hV⟩ := kn_right h1 hy
          obtain ⟨_, hVok, _, hVx⟩ := term_some.1 hV
          exact ⟨V, hVok, hVx⟩
        · rw [hTx]; exact ((put_rise l t h1.rise).2 y).1 hy
      · exact knm.more h2 h5 (fun y hy => ((put_rise l t h1.rise).2 y).2 (.inl hy)) X
  · exact absurd hU (hn Us)

/-! ### the calls, with fixed answers -/
theorem rds_form {w : World} {v : Value} {ls : List Bs} (h : Rds w v ls) : ∃ ad cap, v = .slice ad ls.length cap := by
  rcases h with ⟨rfl, ad, cap, e⟩ | ⟨g, off, cap, e, _⟩ <;> exact ⟨_, _, e⟩

structure In (w : World) (v : Value) (ls : List Bs) : Prop where
  rds : Rds w v ls
  len : ls.length ≤ maxLen
  each : ∀ x ∈ ls, x.length ≤ maxLen
theorem In.below {w w' : World} {v : Value} {ls : List Bs} (h : In w v ls) (k : Below w.heap.size w w') : In w' v ls := ⟨Rds.below h.rds k, h.len, h.each⟩

theorem knowsI (v : Value) (ls : List Bs) (t : Bs) (ht : t.length ≤ maxLen) (w : World) (h : In w v ls) :
    Calls Tryz.prog 6 #[v, str t] w fun e w' => e = .returned (.bool (KW ls t)) ∧ Has ls ∧ Below w.heap.size w w' := by
  obtain ⟨ad, cap, rfl⟩ := rds_form h.rds
  refine (implKnows_calls ad _ cap ls t ht w rfl h.rds h.len h.each).mono ?_
  rintro e w' ⟨hb, ⟨Ts, R, h1, h2, rfl⟩ | ⟨hn, rfl⟩⟩
  · exact ⟨by rw [KW_of h1 h2], .inl ⟨Ts, R, h1, h2⟩, hb⟩
  · exact ⟨by rw [KW_no hn], .inr hn, hb⟩
theorem knowsS (v : Value) (ls : List Bs) (t : Bs) (ht : t.length ≤ maxLen) (hh : Has ls) (w : World) (h : In w v ls) :
    Calls Tryz.prog 9 #[v, str t] w fun e w' => e = .returned (.bool (KW ls t)) ∧ Below w.heap.size w w' := by
  obtain ⟨ad, cap, rfl⟩ := rds_form h.rds
  refine (specKnows_calls ad _ cap ls t ht w rfl h.rds h.len h.each).mono ?_
  rintro e w' ⟨hb, ⟨⟨Ts, h1⟩, b, rfl, h3⟩ | ⟨hn, rfl⟩⟩
  · rcases hh with ⟨Us, R, h4, h5⟩ | hn
    · exact ⟨by rw [KW_of h4 h5, h3 R h5], hb⟩
    · exact absurd h1 (hn Ts)
  · exact ⟨by rw [KW_no hn], hb⟩
theorem buildsI (v : Value) (ls : List Bs) (t : Bs) (ht : t.length ≤ maxLen) (w : World) (h : In w v ls) :
    Calls Tryz.prog 10 #[v, str t] w fun e w' => e = .returned (.bool (BW ls t)) ∧ Below w.heap.size w w' := by
  obtain ⟨ad, cap, rfl⟩ := rds_form h.rds
  refine (implBuilds_calls ad _ cap ls t ht w rfl h.rds h.len h.each).mono ?_
  rintro e w' ⟨hb, ⟨h1, rfl⟩ | ⟨hn, rfl⟩⟩
  · exact ⟨by rw [BW_of h1], hb⟩
  · exact ⟨by rw [BW_no hn], hb⟩
theorem buildsS (v : Value) (ls : List Bs) (t : Bs) (ht : t.length ≤ maxLen) (w : World) (h : In w v ls) :
    Calls Tryz.prog 11 #[v, str t] w fun e w' => e = .returned (.bool (BW ls t)) ∧ Below w.heap.size w w' := by
  obtain ⟨ad, cap, rfl⟩ := rds_form h.rds
  refine (specBuilds_calls ad _ cap ls t ht w rfl h.rds h.len h.each).mono ?_
  rintro e w' ⟨hb, ⟨h1, rfl⟩ | ⟨hn, rfl⟩⟩
  · exact ⟨by rw [BW_of h1], hb⟩
  · exact ⟨by rw [BW_no hn], hb⟩
theorem rightI (v : Value) (ls : List Bs) (w : World) (h : In w v ls) :
    Calls Tryz.prog 16 #[v] w fun e w' => e = .returned (.bool (KR ls)) ∧ Below w.heap.size w w' := by
  obtain ⟨ad, cap, rfl⟩ := rds_form h.rds
  refine (knownRight_calls ad _ cap ls w rfl h.rds h.len h.each).mono ?_
  rintro e w' ⟨hb, ⟨h1, rfl⟩ | ⟨hn, rfl⟩⟩
  · exact ⟨by rw [KR_iff.2 h1], hb⟩
  · exact ⟨by rw [KR_no hn], hb⟩
theorem rightS (v : Value) (ls : List Bs) (w : World) (h : In w v ls) :
    Calls Tryz.prog 17 #[v] w fun e w' => e = .returned (.bool (KR ls)) ∧ Below w.heap.size w w' := by
  obtain ⟨ad, cap, rfl⟩ := rds_form h.rds
  refine (specKnownRight_calls ad _ cap ls w rfl h.rds h.len h.each).mono ?_
  rintro e w' ⟨hb, ⟨h1, rfl⟩ | ⟨hn, rfl⟩⟩
  · exact ⟨by rw [KR_iff.2 h1], hb⟩
  · exact ⟨by rw [KR_no hn], hb⟩
end Go.Proofs.YtdikjmhnjlalbabGreat.knb
