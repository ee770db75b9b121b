/- Knows and Learned of the program and of the model. -/
import Derived.Test.YtdikjmhnjlalbabGreatTkf
import Derived.Test.YtdikjmhnjlalbabGreatStk
import Derived.Test.YtdikjmhnjlalbabGreatBui
namespace Go.Proofs.YtdikjmhnjlalbabGreat.kws
open Go.RowKit Go.Proofs.YtdikjmhnjlalbabGreat.tm Go.Proofs.YtdikjmhnjlalbabGreat.lib Go.Proofs.YtdikjmhnjlalbabGreat.rdr Go.Proofs.YtdikjmhnjlalbabGreat.bld Go.Proofs.YtdikjmhnjlalbabGreat.app Go.Proofs.YtdikjmhnjlalbabGreat.mrk Go.Proofs.YtdikjmhnjlalbabGreat.mrs Go.Proofs.YtdikjmhnjlalbabGreat.kmp Go.Proofs.YtdikjmhnjlalbabGreat.kst Go.Proofs.YtdikjmhnjlalbabGreat.prt Go.Proofs.YtdikjmhnjlalbabGreat.pso Go.Proofs.YtdikjmhnjlalbabGreat.skr Go.Proofs.YtdikjmhnjlalbabGreat.ato Go.Proofs.YtdikjmhnjlalbabGreat.bui
set_option linter.unusedVariables false

/-- What is known by what is taken: whatever least closed set is asked. -/
theorem least_bld {l R R' : List Bs} (h : Least l R) (h' : Least l R') (T : Tm) : kmp.bld (inn R) T = kmp.bld (inn R') T :=
  bld_ext (fun x => by
    cases hx : inn R' x with
    | true => exact inn_iff.2 ((least_ext h h' x).2 (inn_iff.1 hx))
    | false => exact inn_no.2 fun hm => inn_no.1 hx ((least_ext h h' x).1 hm)) T

theorem least_asks {l R R' : List Bs} (h : Least l R) (h' : Least l R') (t : Bs) : asks R t = asks R' t := by
  unfold asks
  cases term t with
  | none => rfl
  | some T => exact least_bld h h' T

def KwEnd (ls : List Bs) (t : Bs) (w : World) (e : Ending) (w' : World) : Prop :=
  Below w.heap.size w w' ∧ ((∃ Ts R, Kn ls Ts ∧ Least ls R ∧ e = .returned (.bool (asks R t))) ∨ (∀ Ts, ¬ Kn ls Ts) ∧ e = .returned (.bool false))

set_option maxHeartbeats 1000000 in
set_option maxRecDepth 100000 in
theorem implKnows_calls (ad : Option Addr) (n cap : Nat) (ls : List Bs) (t : Bs) (ht : t.length ≤ maxLen) (w : World) (hn : n = ls.length) (h : Rds w (.slice ad n cap) ls) (hm : n ≤ maxLen) (hs : ∀ x ∈ ls, x.length ≤ maxLen) :
    Calls Tryz.prog 6 #[.slice ad n cap, str t] w (KwEnd ls t w) := by
  have h1 := partsOf_calls ad n cap ls w hn h hm hs
  have hmf : ∀ (fn : Fn) (first cap : Array Value) (w : World), (Instr.makeFunc fn first cap).run Tryz.prog w = .ok (.func fn first cap) w := fun _ _ _ _ => rfl
  have H1 := Lib.hid h1
  clear h1 hn h hm hs
  go_enter Tryz.func6, Tryz.ntmps6
  go_wp2_with fail
  refine H1.out.mono ?_
  rintro e w1 ⟨hb, hk⟩
  have HB := Lib.hid hb
  clear hb
  rcases hk with ⟨Ts, v, es, hkn, rfl, hpt⟩ | ⟨hno, rfl⟩
  · have HK := Lib.hid hkn
    have KO := Lib.hid (tkf.taken_calls v _ ls Ts es w1 hpt hkn)
    clear hkn hpt
    go_wp2_with fail
    refine KO.out.mono ?_
    rintro e w2 ⟨bm, L, rfl, hb2, hs2, hbm, hle⟩
    have HB2 := Lib.hid (HB.out.trans (hb2.mono HB.out.size))
    have BC := Lib.hid (built_calls t ht bm L w2 hs2)
    have HLE := Lib.hid hle
    clear hb2 hs2 hbm hle
    go_wp2_with fail
    refine BC.out.mono ?_
    rintro e w3 ⟨rfl, hb3⟩
    have HB3 := Lib.hid (HB2.out.trans (hb3.mono HB2.out.size))
    clear hb3
    go_wp2_with fail
    go_ret
    exact ⟨HB3.out, .inl ⟨Ts, L, HK.out, HLE.out, rfl⟩⟩
  · have HK := Lib.hid hno
    clear hno
    go_wp2_with fail
    go_ret
    exact ⟨HB.out, .inr ⟨HK.out, rfl⟩⟩

def KsEnd (ls : List Bs) (t : Bs) (w : World) (e : Ending) (w' : World) : Prop :=
  Below w.heap.size w w' ∧ (((∃ Ts, Kn ls Ts) ∧ ∃ b, e = .returned (.bool b) ∧ ∀ R, Least ls R → b = asks R t) ∨ (∀ Ts, ¬ Kn ls Ts) ∧ e = .returned (.bool false))

set_option maxHeartbeats 1000000 in
set_option maxRecDepth 100000 in
theorem specKnows_calls (ad : Option Addr) (n cap : Nat) (ls : List Bs) (t : Bs) (ht : t.length ≤ maxLen) (w : World) (hn : n = ls.length) (h : Rds w (.slice ad n cap) ls) (hm : n ≤ maxLen) (hs : ∀ x ∈ ls, x.length ≤ maxLen) :
    Calls Tryz.prog 9 #[.slice ad n cap, str t] w (KsEnd ls t w) := by
  have h1 := specKnownRight_calls ad n cap ls w hn h hm hs
  have h2 := fun w => srt.specTermRight_calls ⟨t.toArray⟩ (by show t.toArray.size ≤ maxLen; simpa using ht) w
  have H := Lib.hid h
  have H1 := Lib.hid h1
  have H2 := Lib.hid h2
  clear h1 h2 hn h hm hs
  go_enter Tryz.func9, Tryz.ntmps9
  go_wp2_with fail
  refine H1.out.mono ?_
  rintro e w1 ⟨hb, hk⟩
  have HB := Lib.hid hb
  clear hb
  rcases hk with ⟨hkn, rfl⟩ | ⟨hno, rfl⟩
  · obtain ⟨Ts, hkn⟩ := hkn
    have HK := Lib.hid hkn
    clear hkn
    go_wp2_with fail
    refine (H2.out _).mono ?_
    rintro e w2 ⟨rfl, hb2⟩
    have HB2 := Lib.hid (HB.out.trans (hb2.mono HB.out.size))
    clear hb2
    rcases hT : term t with _ | T
    · simp only [Option.isSome_none]
      have HN := Lib.hid (show ∀ R, asks R t = false from fun R => asks_none hT)
      clear hT
      go_wp2_with fail
      go_ret
      exact ⟨HB2.out, .inl ⟨⟨Ts, HK.out⟩, false, rfl, fun R _ => (HN.out R).symm⟩⟩
    · simp only [Option.isSome_some]
      have HN := Lib.hid (show ∀ R, asks R t = kmp.bld (inn R) T from fun R => asks_some hT)
      have TK := Lib.hid (stk.take_calls _ ls Ts w2 (Rds.below H.out HB2.out) HK.out)
      have HTM := Lib.hid hT
      clear hT
      go_wp2_with fail
      refine TK.out.mono ?_
      rintro e w3 ⟨v, out, rfl, hb3, hr3, hle, hri⟩
      have HB3 := Lib.hid (HB2.out.trans (hb3.mono HB2.out.size))
      have hob := bound HK.out.txs HK.out.right (rise_nodup hri) hle.min
      have SB := Lib.hid (sin.specBuilds_in T (term_some.1 HTM.out).2.1 (by have := (term_some.1 HTM.out).1; rw [(term_some.1 HTM.out).2.2.2]; exact this) w3 v out (stk.Txs.rds2 hr3) (by have h1 := HK.out.few; rw [HK.out.txs] at h1; simp at h1; omega))
      rw [(term_some.1 HTM.out).2.2.2] at SB
      have HLE := Lib.hid hle
      clear hb3 hr3 hob hle hri
      go_wp2_with fail
      refine SB.out.mono ?_
      rintro e w4 ⟨rfl, hb4⟩
      have HB4 := Lib.hid (HB3.out.trans (hb4.mono HB3.out.size))
      clear hb4
      go_wp2_with fail
      go_ret
      exact ⟨HB4.out, .inl ⟨⟨Ts, HK.out⟩, _, rfl, fun R hR => by rw [HN.out]; exact least_bld HLE.out hR T⟩⟩
  · have HK := Lib.hid hno
    clear hno
    go_wp2_with fail
    go_ret
    exact ⟨HB.out, .inr ⟨HK.out, rfl⟩⟩
end Go.Proofs.YtdikjmhnjlalbabGreat.kws
