/- The walk of FnKnow. Written by wip/gen_knw.py. -/
import Derived.Test.YtdikjmhnjlalbabGreatKnbq
import Derived.Test.YtdikjmhnjlalbabGreatQp
import Derived.Test.YtdikjmhnjlalbabGreatQm
import Derived.RegionTactic
import Derived.BigQuiet
import Derived.BigRegion
import Derived.Deep.RegionWith
import Derived.Deep.DeepCutAuto
namespace Go.Proofs.YtdikjmhnjlalbabGreat.knw
open Go.RowKit Go.Proofs.YtdikjmhnjlalbabGreat.tm Go.Proofs.YtdikjmhnjlalbabGreat.lib Go.Proofs.YtdikjmhnjlalbabGreat.rdr Go.Proofs.YtdikjmhnjlalbabGreat.bld Go.Proofs.YtdikjmhnjlalbabGreat.app Go.Proofs.YtdikjmhnjlalbabGreat.mrk Go.Proofs.YtdikjmhnjlalbabGreat.mrs Go.Proofs.YtdikjmhnjlalbabGreat.ato Go.Proofs.YtdikjmhnjlalbabGreat.kmp Go.Proofs.YtdikjmhnjlalbabGreat.pso Go.Proofs.YtdikjmhnjlalbabGreat.kws Go.Proofs.YtdikjmhnjlalbabGreat.tak Go.Proofs.YtdikjmhnjlalbabGreat.lrn Go.Proofs.YtdikjmhnjlalbabGreat.knb Go.Proofs.YtdikjmhnjlalbabGreat.dkk Go.Proofs.YtdikjmhnjlalbabGreat.snd Go.Proofs.YtdikjmhnjlalbabGreat.drw
set_option linter.unusedVariables false

theorem TR.small {l a : List Bs} (h : TR l a) : ∀ x ∈ a, x.length ≤ 3000 := by
  cases h with
  | no => intro x hx; simp at hx
  | yes Ts R h1 h2 h3 =>
    intro x hx
    have := h2.min (fun x => (term x).isSome) (fun y hy => by obtain ⟨T, hT⟩ := kn_right h1 hy; rw [hT]; rfl) closed_right x hx
    obtain ⟨T, hT⟩ := Option.isSome_iff_exists.1 this
    exact (term_some.1 hT).1
theorem _root_.Go.Proofs.YtdikjmhnjlalbabGreat.dkk.Dl.inn {w : World} {v : Value} {ls : List Bs} (h : Dl w v ls) : In w v ls :=
  ⟨h.rds, by have := h.len; unfold maxLen; omega, fun x hx => by have := h.each x hx; unfold maxLen; omega⟩

theorem takeI (v : Value) (ls : List Bs) (w : World) (h : In w v ls) :
    Calls Tryz.prog 8 #[v] w fun e w' => ∃ u o, e = .returned u ∧ TR ls o ∧ In w' u o ∧ Below w.heap.size w w' := by
  obtain ⟨ad, cap, rfl⟩ := knb.rds_form h.rds
  refine (implTake_calls ad _ cap ls w rfl h.rds h.len h.each).mono ?_
  rintro e w' ⟨u, o, rfl, hb, hs, ht⟩
  exact ⟨u, o, rfl, ht, ⟨(Strs.wrs hs).rds, by have := TR.len ht; unfold maxLen; omega, fun x hx => by have := TR.small ht x hx; unfold maxLen; omega⟩, hb⟩
theorem takeS (v : Value) (ls : List Bs) (w : World) (h : In w v ls) :
    Calls Tryz.prog 13 #[v] w fun e w' => ∃ u o, e = .returned u ∧ TR ls o ∧ In w' u o ∧ Below w.heap.size w w' := by
  obtain ⟨ad, cap, rfl⟩ := knb.rds_form h.rds
  refine (specTake_calls ad _ cap ls w rfl h.rds h.len h.each).mono ?_
  rintro e w' ⟨u, o, rfl, hb, hs, ht⟩
  exact ⟨u, o, rfl, ht, ⟨hs.rds, by have := TR.len ht; unfold maxLen; omega, fun x hx => by have := TR.small ht x hx; unfold maxLen; omega⟩, hb⟩
theorem learnedI (v v' : Value) (l m : List Bs) (w : World) (h : In w v l) (h' : In w v' m) (hm : m.length ≤ 100) :
    Calls Tryz.prog 14 #[v, v'] w fun e w' => ∃ u o, e = .returned u ∧ LR l m o ∧ Rds w' u o ∧ o.length ≤ 100000000 ∧ Below w.heap.size w w' := by
  obtain ⟨ad, cap, rfl⟩ := knb.rds_form h.rds
  obtain ⟨ad', cap', rfl⟩ := knb.rds_form h'.rds
  refine (implLearned_calls ad _ cap ad' _ cap' l m w rfl h.rds h.len h.each rfl h'.rds h'.len h'.each).mono ?_
  rintro e w' ⟨u, o, rfl, hb, hs, ht⟩
  exact ⟨u, o, rfl, ht, (Strs.wrs hs).rds, by have := LR.len ht; omega, hb⟩
theorem learnedS (v v' : Value) (l m : List Bs) (w : World) (h : In w v l) (h' : In w v' m) (hm : m.length ≤ 100) :
    Calls Tryz.prog 15 #[v, v'] w fun e w' => ∃ u o, e = .returned u ∧ LR l m o ∧ Rds w' u o ∧ o.length ≤ 100000000 ∧ Below w.heap.size w w' := by
  obtain ⟨ad, cap, rfl⟩ := knb.rds_form h.rds
  obtain ⟨ad', cap', rfl⟩ := knb.rds_form h'.rds
  refine (specLearned_calls ad _ cap ad' _ cap' l m w rfl h.rds h.len h.each rfl h'.rds h'.len h'.each).mono ?_
  rintro e w' ⟨u, o, rfl, hb, hs, ht⟩
  exact ⟨u, o, rfl, ht, (Strs.wrs hs).rds, by have := LR.len ht; omega, hb⟩
theorem termS (t : Bs) (ht : t.length ≤ 3000) (w : World) :
    Calls Tryz.prog 18 #[str t] w fun e w' => e = .returned (.bool (term t).isSome) ∧ Below w.heap.size w w' :=
  srt.specTermRight_calls ⟨t.toArray⟩ (by unfold maxLen; show t.toArray.size ≤ _; simp; omega) w

theorem knowsT (v : Value) (ls : List Bs) (t : Bs) (ht : t.length ≤ maxLen) (hk : KW ls t = true) (w : World) (h : In w v ls) :
    Calls Tryz.prog 6 #[v, str t] w fun e w' => e = .returned (.bool true) ∧ Below w.heap.size w w' :=
  (knowsI v ls t ht w h).mono fun e w' ⟨h1, _, h2⟩ => ⟨by rw [h1, hk], h2⟩
theorem put_few {l : List Bs} {x y : Bs} (h : y ∈ put l x) : y ∈ l ∨ y = x := by
  unfold Go.Proofs.YtdikjmhnjlalbabGreat.ato.put at h
  split at h
  · exact .inl h
  · simp only [List.mem_append, List.mem_cons] at h
    rcases h with h | h | h
    · exact .inl (List.mem_of_mem_take h)
    · exact .inr h
    · exact .inl (List.mem_of_mem_drop h)

/-- What lies there. -/
structure St (w wr : World) (vl : Value) (l : List Bs) (va : Value) (a : List Bs) (vb : Value) (b : List Bs) (vu : Value) (u : List Bs) : Prop where
  bel : Below w.heap.size w wr
  l : Dl wr vl l
  a : Dl wr va a
  b : Dl wr vb b
  u : In wr vu u
theorem St.step {w wr w1 : World} {vl : Value} {l : List Bs} {va : Value} {a : List Bs} {vb : Value} {b : List Bs} {vu : Value} {u : List Bs} (h : St w wr vl l va a vb b vu u) (k : Below wr.heap.size wr w1) : St w w1 vl l va a vb b vu u :=
  ⟨h.bel.trans (k.mono h.bel.size), h.l.below k, h.a.below k, h.b.below k, h.u.below k⟩

/-- A cell of a list. -/
theorem at_ {w : World} {ad : Option Addr} {n cap : Nat} {ls : List Bs} (h : Rds w (.slice ad n cap) ls) {i : Nat} {x : Bs} (hx : ls[i]? = some x) : ∃ g off, ad = some ⟨g, off, none⟩ ∧ w.cell? ⟨g, off + i, none⟩ = some (str x) := by
  rcases h with ⟨rfl, _⟩ | ⟨g, off, cap', e, hg, hc⟩
  · simp at hx
  · cases e
    exact ⟨g, off, rfl, hc i x hx⟩

set_option maxHeartbeats 16000000 in
set_option maxRecDepth 100000 in
theorem fnKnow_calls (a0 : Option Addr) (len0 cap0 : Nat) (a1 : Option Addr) (len1 cap1 : Nat) (w : World) (r0 : len0 ≤ 9223372036854775807 → Rd w w.heap.size a0 len0) (r1 : len1 ≤ 9223372036854775807 → Rd w w.heap.size a1 len1) :
    Calls Tryz.prog 3 #[.slice a0 len0 cap0, .slice a1 len1 cap1] w fun e w' => e = .returned (.bool true) ∧ Below w.heap.size w w' := by
  by_cases hc0 : 1048576 < len0
  · have d0 : decide ((1048576 : Int) < len0) = true := by simp; omega
    go_enter Tryz.func3, Tryz.ntmps3
    go_wp2_with fail
    all_goals go_ret
    all_goals exact ⟨rfl, Below.refl _ _⟩
  by_cases hc1 : 1048576 < len1
  · have d0 : decide ((1048576 : Int) < len0) = false := by simp; omega
    have d1 : decide ((1048576 : Int) < len1) = true := by simp; omega
    go_enter Tryz.func3, Tryz.ntmps3
    go_wp2_with fail
    all_goals go_ret
    all_goals exact ⟨rfl, Below.refl _ _⟩
  have d0 : decide ((1048576 : Int) < len0) = false := by simp; omega
  have d1 : decide ((1048576 : Int) < len1) = false := by simp; omega
  have R0 := Lib.hid (r0 (by omega))
  have R1 := Lib.hid (r1 (by omega))
  clear r0 r1
  go_enter Tryz.func3, Tryz.ntmps3
  go_wp2_with fail
  refine (drawKnows a0 len0 cap0 _ R0.out).mono ?_
  rintro e wA ⟨vl, l, t, rfl, ht, hd, hb⟩
  obtain ⟨al, cl, rfl⟩ := knb.rds_form hd.rds
  have BA := Lib.hid hb
  have LA := Lib.hid hd
  have HT := Lib.hid ht
  have HTM := Lib.hid (show t.length ≤ maxLen by unfold maxLen; omega)
  clear ht hd hb
  go_wp2_with fail
  refine (knowsI _ l t HTM.out _ LA.out.inn).mono ?_
  rintro e wB ⟨rfl, hh, hb⟩
  have HL := Lib.hid hh
  have BB := Lib.hid (BA.out.trans (hb.mono BA.out.size))
  have LB := Lib.hid (LA.out.below hb)
  clear hh hb
  go_wp2_with fail
  refine (drawLearned a1 len1 cap1 _ ((R1.out.below BB.out).mono BB.out.size)).mono ?_
  rintro e wC ⟨va, a, vb, b, rfl, hda, hdb, hb⟩
  obtain ⟨aa, ca, rfl⟩ := knb.rds_form hda.rds
  obtain ⟨ab, cb, rfl⟩ := knb.rds_form hdb.rds
  have BC := Lib.hid (BB.out.trans (hb.mono BB.out.size))
  have LC := Lib.hid (LB.out.below hb)
  have AC := Lib.hid hda
  have BbC := Lib.hid hdb
  clear hda hdb hb BA LA
  go_wp2_with fail
  refine (takeI _ a _ AC.out.inn).mono ?_
  rintro e wD ⟨vu, u, rfl, htr, hin, hb⟩
  obtain ⟨au, cu, rfl⟩ := knb.rds_form hin.rds
  have HTR := Lib.hid htr
  have HUL := Lib.hid (show u.length ≤ 100000000 by have := TR.len htr; omega)
  have S0 := Lib.hid (show St w wD (.slice al l.length cl) l (.slice aa a.length ca) a (.slice ab b.length cb) b (.slice au u.length cu) u from ⟨BC.out.trans (hb.mono BC.out.size), LC.out.below hb, AC.out.below hb, BbC.out.below hb, hin⟩)
  clear htr hin hb BB LB BC LC AC BbC R0 R1 d0 d1 hc0 hc1
  obtain ⟨kk, hkk⟩ : ∃ k, k = KW l t := ⟨_, rfl⟩
  obtain ⟨bw, hbw⟩ : ∃ k, k = BW l t := ⟨_, rfl⟩
  obtain ⟨kr, hkr⟩ : ∃ k, k = KR l := ⟨_, rfl⟩
  have HBK := Lib.hid (show bw = true → kk = true from fun e => by rw [hkk]; rw [hbw] at e; exact built_known HL.out e)
  have ks := fun w' h => knowsS (.slice al l.length cl) l t HTM.out HL.out w' h
  have bi := fun w' h => buildsI (.slice al l.length cl) l t HTM.out w' h
  have bs := fun w' h => buildsS (.slice al l.length cl) l t HTM.out w' h
  have ri := fun w' h => rightI (.slice al l.length cl) l w' h
  have rs := fun w' h => rightS (.slice al l.length cl) l w' h
  rw [← hkk] at ks ⊢
  simp only [← hbw] at bi bs
  simp only [← hkr] at ri rs
  have KS := Lib.hid ks
  have BI := Lib.hid bi
  have BS := Lib.hid bs
  have RI := Lib.hid ri
  have RS := Lib.hid rs
  have TS := Lib.hid (fun w' h => takeS (.slice aa a.length ca) a w' h)
  have LI := Lib.hid (fun w' h h' hm => learnedI (.slice aa a.length ca) (.slice ab b.length cb) a b w' h h' hm)
  have LS := Lib.hid (fun w' h h' hm => learnedS (.slice aa a.length ca) (.slice ab b.length cb) a b w' h h' hm)
  have HKK := Lib.hid hkk
  have HKR := Lib.hid hkr
  clear ks bi bs ri rs hkk hbw hkr
  have dk : (kk != kk) = false := by simp
  have db : (bw != bw) = false := by simp
  have dr : (kr != kr) = false := by simp
  go_upto_region 7 with fail
  go_cut [83] (fun s83 wx => s83 = .bool false ∧ St w wx (.slice al l.length cl) l (.slice aa a.length ca) a (.slice ab b.length cb) b (.slice au u.length cu) u)
  case first =>
    cases bw with
    | true =>
      obtain rfl := HBK.out rfl
      go_wp2_with fail
      refine (KS.out _ S0.out.l.inn).mono ?_
      rintro e x11 ⟨rfl, hb⟩
      have S11 := Lib.hid (S0.out.step hb)
      clear hb S0
      go_wp2_with fail
      refine (BI.out _ S11.out.l.inn).mono ?_
      rintro e x12 ⟨rfl, hb⟩
      have S12 := Lib.hid (S11.out.step hb)
      clear hb S11
      go_wp2_with fail
      refine (BS.out _ S12.out.l.inn).mono ?_
      rintro e x13 ⟨rfl, hb⟩
      have S13 := Lib.hid (S12.out.step hb)
      clear hb S12
      go_wp2_with fail
      refine (TS.out _ S13.out.a.inn).mono ?_
      rintro e x14 ⟨v14, o14, rfl, htr, hin, hb⟩
      rw [TR.one htr HTR.out] at hin
      have T14 := Lib.hid hin.rds
      have S14 := Lib.hid (S13.out.step hb)
      clear hb hin htr S13
      go_wp2_with fail
      refine (lwt.lwTexts_calls _ _ u _ S14.out.u.rds T14.out HUL.out).mono ?_
      rintro e y14 ⟨rfl, hst⟩
      have R14 := Lib.hid (S14.out.step (hst.below _))
      clear hst S14 T14
      go_wp2_with fail
      refine (LI.out _ R14.out.a.inn R14.out.b.inn R14.out.b.len).mono ?_
      rintro e z14 ⟨v14', o14', rfl, hlr, hrd, hln, hb⟩
      have Q14 := Lib.hid (R14.out.step hb)
      have LR14 := Lib.hid hlr
      have LD14 := Lib.hid hrd
      have LN14 := Lib.hid hln
      clear hlr hrd hln hb R14
      go_wp2_with fail
      refine (LS.out _ Q14.out.a.inn Q14.out.b.inn Q14.out.b.len).mono ?_
      rintro e q14 ⟨v14'', o14'', rfl, hlr, hrd, hln, hb⟩
      rw [LR.one hlr LR14.out] at hrd
      have P14 := Lib.hid (Q14.out.step hb)
      have LE14 := Lib.hid (Rds.below LD14.out hb)
      have LF14 := Lib.hid hrd
      clear hlr hrd hln hb Q14 LD14
      go_wp2_with fail
      refine (lwt.lwTexts_calls _ _ o14' _ LE14.out LF14.out LN14.out).mono ?_
      rintro e r14 ⟨rfl, hst⟩
      have O14 := Lib.hid (P14.out.step (hst.below _))
      clear hst P14 LE14 LF14 LR14 LN14
      go_wp2_with fail
      refine (RI.out _ O14.out.l.inn).mono ?_
      rintro e x15 ⟨rfl, hb⟩
      have S15 := Lib.hid (O14.out.step hb)
      clear hb O14
      go_wp2_with fail
      refine (RS.out _ S15.out.l.inn).mono ?_
      rintro e x16 ⟨rfl, hb⟩
      have S16 := Lib.hid (S15.out.step hb)
      clear hb S15
      go_wp2_with fail
      refine (BI.out _ S16.out.l.inn).mono ?_
      rintro e x17 ⟨rfl, hb⟩
      have S17 := Lib.hid (S16.out.step hb)
      clear hb S16
      go_wp2_with fail
      go_meet
      exact ⟨rfl, S17.out⟩
    | false =>
      go_wp2_with fail
      refine (KS.out _ S0.out.l.inn).mono ?_
      rintro e x41 ⟨rfl, hb⟩
      have S41 := Lib.hid (S0.out.step hb)
      clear hb S0
      go_wp2_with fail
      refine (BI.out _ S41.out.l.inn).mono ?_
      rintro e x42 ⟨rfl, hb⟩
      have S42 := Lib.hid (S41.out.step hb)
      clear hb S41
      go_wp2_with fail
      refine (BS.out _ S42.out.l.inn).mono ?_
      rintro e x43 ⟨rfl, hb⟩
      have S43 := Lib.hid (S42.out.step hb)
      clear hb S42
      go_wp2_with fail
      refine (TS.out _ S43.out.a.inn).mono ?_
      rintro e x44 ⟨v44, o44, rfl, htr, hin, hb⟩
      rw [TR.one htr HTR.out] at hin
      have T44 := Lib.hid hin.rds
      have S44 := Lib.hid (S43.out.step hb)
      clear hb hin htr S43
      go_wp2_with fail
      refine (lwt.lwTexts_calls _ _ u _ S44.out.u.rds T44.out HUL.out).mono ?_
      rintro e y44 ⟨rfl, hst⟩
      have R44 := Lib.hid (S44.out.step (hst.below _))
      clear hst S44 T44
      go_wp2_with fail
      refine (LI.out _ R44.out.a.inn R44.out.b.inn R44.out.b.len).mono ?_
      rintro e z44 ⟨v44', o44', rfl, hlr, hrd, hln, hb⟩
      have Q44 := Lib.hid (R44.out.step hb)
      have LR44 := Lib.hid hlr
      have LD44 := Lib.hid hrd
      have LN44 := Lib.hid hln
      clear hlr hrd hln hb R44
      go_wp2_with fail
      refine (LS.out _ Q44.out.a.inn Q44.out.b.inn Q44.out.b.len).mono ?_
      rintro e q44 ⟨v44'', o44'', rfl, hlr, hrd, hln, hb⟩
      rw [LR.one hlr LR44.out] at hrd
      have P44 := Lib.hid (Q44.out.step hb)
      have LE44 := Lib.hid (Rds.below LD44.out hb)
      have LF44 := Lib.hid hrd
      clear hlr hrd hln hb Q44 LD44
      go_wp2_with fail
      refine (lwt.lwTexts_calls _ _ o44' _ LE44.out LF44.out LN44.out).mono ?_
      rintro e r44 ⟨rfl, hst⟩
      have O44 := Lib.hid (P44.out.step (hst.below _))
      clear hst P44 LE44 LF44 LR44 LN44
      go_wp2_with fail
      refine (RI.out _ O44.out.l.inn).mono ?_
      rintro e x45 ⟨rfl, hb⟩
      have S45 := Lib.hid (O44.out.step hb)
      clear hb O44
      go_wp2_with fail
      refine (RS.out _ S45.out.l.inn).mono ?_
      rintro e x46 ⟨rfl, hb⟩
      have S46 := Lib.hid (S45.out.step hb)
      clear hb S45
      go_wp2_with fail
      refine (BI.out _ S46.out.l.inn).mono ?_
      rintro e x47 ⟨rfl, hb⟩
      have S47 := Lib.hid (S46.out.step hb)
      clear hb S46
      go_wp2_with fail
      go_meet
      exact ⟨rfl, S47.out⟩
  case rest =>
  obtain ⟨rfl, hS⟩ := hcut
  rename World => wE
  have SE := Lib.hid hS
  clear hS S0 KS BI BS RI TS LI LS HBK db dk dr
  have rsa := fun w' h => rightS (.slice aa a.length ca) a w' h
  have rb := fun w' h => rightS (.slice ab b.length cb) b w' h
  have tt := fun w' => termS t HT.out w'
  have TU := Lib.hid (fun w' h => takeI (.slice au u.length cu) u w' h)
  cases hka : KR a with
  | false =>
    simp only [hka] at rsa
    have RSA := Lib.hid rsa
    clear rsa hka
    go_wp2_with fail
    refine (RSA.out _ SE.out.a.inn).mono ?_
    rintro e wF ⟨rfl, hb⟩
    have SF := Lib.hid (SE.out.step hb)
    clear hb
    go_wp2_with fail
    go_ret
    exact ⟨rfl, SF.out.bel⟩
  | true =>
  have HKA := Lib.hid hka
  simp only [hka] at rsa
  have RSA := Lib.hid rsa
  clear rsa hka
  by_cases hu : 60 < u.length
  · have du : decide ((60 : Int) < u.length) = true := decide_eq_true (by omega)
    go_wp2_with fail
    refine (RSA.out _ SE.out.a.inn).mono ?_
    rintro e wF ⟨rfl, hb⟩
    have SF := Lib.hid (SE.out.step hb)
    clear hb
    go_wp2_with fail
    go_ret
    exact ⟨rfl, SF.out.bel⟩
  have du : decide ((60 : Int) < u.length) = false := decide_eq_false (by omega)
  go_wp2_with fail
  refine (RSA.out _ SE.out.a.inn).mono ?_
  rintro e wF ⟨rfl, hb⟩
  have SF := Lib.hid (SE.out.step hb)
  clear hb SE RSA
  go_wp2_with fail
  go_loopw [11, 92, 93, 94, 95, 96, 97, 98, 99, 100, 101, 102, 103, 104] (fun vi _ _ _ _ _ _ _ _ _ _ _ _ _ wr => ∃ k : Nat, vi = .int .i64 (k : Nat) ∧ k ≤ a.length ∧ St w wr (.slice al l.length cl) l (.slice aa a.length ca) a (.slice ab b.length cb) b (.slice au u.length cu) u) (fun vi _ _ _ _ _ _ _ _ _ _ _ _ _ _ => a.length - (intOf vi).toNat)
  case atStart => exact ⟨0, rfl, Nat.zero_le _, SF.out⟩
  case round =>
    obtain ⟨k, rfl, hk, hS⟩ := hrel
    have SG := Lib.hid hS
    clear hS SF
    have hal : a.length ≤ 100 := SG.out.a.len
    have hwk : IntKind.i64.wrap ((k : Int) + 1) = (k : Int) + 1 := by rw [IntKind.wrap_i64]; omega
    by_cases hlt : k < a.length
    · obtain ⟨x, hx⟩ : ∃ x, a[k]? = some x := ⟨_, List.getElem?_eq_getElem hlt⟩
      obtain ⟨gx, ox, rfl, cx⟩ := at_ SG.out.a.rds hx
      have KX := Lib.hid (fun w' h => knowsT (.slice au u.length cu) u x (SG.out.a.inn.each x (List.mem_of_getElem? hx)) (loop_one HKA.out HTR.out (by omega) (List.mem_of_getElem? hx)) w' h)
      clear hx
      go_wp2_with fail
      refine (KX.out _ SG.out.u).mono ?_
      rintro e wH ⟨rfl, hb⟩
      have SH := Lib.hid (SG.out.step hb)
      clear hb cx
      go_wp2_with fail
      go_roundw
      case rel => exact ⟨k + 1, by go_num, by omega, SH.out⟩
      case measure => simp [intOf]; omega
    · have dlt : decide ((k : Int) < a.length) = false := decide_eq_false (by omega)
      have SF := SG
      clear SG hk
      go_wp2_with fail
      go_loopw [12, 105, 106, 107, 108, 109, 110, 111, 112, 113, 114, 115, 116, 117] (fun vi _ _ _ _ _ _ _ _ _ _ _ _ _ wr => ∃ k : Nat, vi = .int .i64 (k : Nat) ∧ k ≤ u.length ∧ St w wr (.slice al l.length cl) l (.slice aa a.length ca) a (.slice ab b.length cb) b (.slice au u.length cu) u) (fun vi _ _ _ _ _ _ _ _ _ _ _ _ _ _ => u.length - (intOf vi).toNat)
      case atStart => exact ⟨0, rfl, Nat.zero_le _, SF.out⟩
      case round =>
        obtain ⟨k, rfl, hk, hS⟩ := hrel
        have SG := Lib.hid hS
        clear hS SF
        have hal : u.length ≤ 100 := by omega
        have hwk : IntKind.i64.wrap ((k : Int) + 1) = (k : Int) + 1 := by rw [IntKind.wrap_i64]; omega
        by_cases hlt : k < u.length
        · obtain ⟨x, hx⟩ : ∃ x, u[k]? = some x := ⟨_, List.getElem?_eq_getElem hlt⟩
          obtain ⟨gx, ox, rfl, cx⟩ := at_ SG.out.u.rds hx
          have KX := Lib.hid (fun w' h => knowsT (.slice aa a.length ca) a x (SG.out.u.each x (List.mem_of_getElem? hx)) (loop_two HKA.out HTR.out (by omega) (List.mem_of_getElem? hx)) w' h)
          clear hx
          go_wp2_with fail
          refine (KX.out _ SG.out.a.inn).mono ?_
          rintro e wH ⟨rfl, hb⟩
          have SH := Lib.hid (SG.out.step hb)
          clear hb cx
          go_wp2_with fail
          go_roundw
          case rel => exact ⟨k + 1, by go_num, by omega, SH.out⟩
          case measure => simp [intOf]; omega
        · have dlt : decide ((k : Int) < u.length) = false := decide_eq_false (by omega)
          have SF := SG
          clear SG hk
          go_wp2_with fail
          refine (TU.out _ SF.out.u).mono ?_
          rintro e wH ⟨vh, o, rfl, htr, hin, hb⟩
          rw [taken_again HKA.out HTR.out (by omega) htr] at hin
          have SH := Lib.hid (SF.out.step hb)
          have TH := Lib.hid hin.rds
          clear hb hin htr SF
          go_wp2_with fail
          refine (lwt.lwTexts_calls _ _ u _ TH.out SH.out.u.rds HUL.out).mono ?_
          rintro e wI ⟨rfl, hst⟩
          have SI := Lib.hid (SH.out.step (hst.below _))
          clear hst SH TH
          have HLE := Lib.hid SI.out.l.each
          have hl100 := SI.out.l.len
          cases kr with
          | false =>
            go_wp2_with fail
            refine (RS.out _ SI.out.l.inn).mono ?_
            rintro e wSJ ⟨rfl, hb⟩
            have SJ := Lib.hid (SI.out.step hb)
            clear hb SI
            go_wp2_with fail
            go_ret
            exact ⟨rfl, SJ.out.bel⟩
          | true =>
          cases hT : term t with
          | none =>
            rw [hT] at tt
            have TT := Lib.hid tt
            clear tt hT
            have e1 : (none : Option Tm).isSome = false := rfl
            go_wp2_with fail
            refine (RS.out _ SI.out.l.inn).mono ?_
            rintro e wSJ ⟨rfl, hb⟩
            have SJ := Lib.hid (SI.out.step hb)
            clear hb SI
            go_wp2_with fail
            refine (TT.out _).mono ?_
            rintro e wSK ⟨rfl, hb⟩
            have SK := Lib.hid (SJ.out.step hb)
            clear hb SJ
            go_wp2_with fail
            go_ret
            exact ⟨rfl, SK.out.bel⟩
          | some T =>
          have HTY := Lib.hid (⟨T, hT⟩ : ∃ T, term t = some T)
          rw [hT] at tt
          have TT := Lib.hid tt
          have e1 : (some T).isSome = true := rfl
          clear tt hT
          by_cases hl60 : 60 ≤ l.length
          · have dl : decide ((60 : Int) ≤ l.length) = true := decide_eq_true (by omega)
            go_wp2_with fail
            refine (RS.out _ SI.out.l.inn).mono ?_
            rintro e wSJ ⟨rfl, hb⟩
            have SJ := Lib.hid (SI.out.step hb)
            clear hb SI
            go_wp2_with fail
            refine (TT.out _).mono ?_
            rintro e wSK ⟨rfl, hb⟩
            have SK := Lib.hid (SJ.out.step hb)
            clear hb SJ
            go_wp2_with fail
            go_ret
            exact ⟨rfl, SK.out.bel⟩
          have dl : decide ((60 : Int) ≤ l.length) = false := decide_eq_false (by omega)
          by_cases hb0 : b.length = 0
          · have eb : ((b.length : Int) == 0) = true := by rw [hb0]; rfl
            go_wp2_with fail
            refine (RS.out _ SI.out.l.inn).mono ?_
            rintro e wSJ ⟨rfl, hb⟩
            have SJ := Lib.hid (SI.out.step hb)
            clear hb SI
            go_wp2_with fail
            refine (TT.out _).mono ?_
            rintro e wSK ⟨rfl, hb⟩
            have SK := Lib.hid (SJ.out.step hb)
            clear hb SJ
            go_wp2_with fail
            go_ret
            exact ⟨rfl, SK.out.bel⟩
          have eb : ((b.length : Int) == 0) = false := by simpa using hb0
          cases hkb : KR b with
          | false =>
            simp only [hkb] at rb
            have RB := Lib.hid rb
            clear rb hkb
            go_wp2_with fail
            refine (RS.out _ SI.out.l.inn).mono ?_
            rintro e wSJ ⟨rfl, hb⟩
            have SJ := Lib.hid (SI.out.step hb)
            clear hb SI
            go_wp2_with fail
            refine (TT.out _).mono ?_
            rintro e wSK ⟨rfl, hb⟩
            have SK := Lib.hid (SJ.out.step hb)
            clear hb SJ
            go_wp2_with fail
            refine (RB.out _ SK.out.b.inn).mono ?_
            rintro e wSL ⟨rfl, hb⟩
            have SL := Lib.hid (SK.out.step hb)
            clear hb SK
            go_wp2_with fail
            go_ret
            exact ⟨rfl, SL.out.bel⟩
          | true =>
          have HKB := Lib.hid hkb
          simp only [hkb] at rb
          have RB := Lib.hid rb
          clear rb hkb
          go_wp2_with fail
          refine (RS.out _ SI.out.l.inn).mono ?_
          rintro e wSJ ⟨rfl, hb⟩
          have SJ := Lib.hid (SI.out.step hb)
          clear hb SI
          go_wp2_with fail
          refine (TT.out _).mono ?_
          rintro e wSK ⟨rfl, hb⟩
          have SK := Lib.hid (SJ.out.step hb)
          clear hb SJ
          go_wp2_with fail
          refine (RB.out _ SK.out.b.inn).mono ?_
          rintro e wSL ⟨rfl, hb⟩
          have SL := Lib.hid (SK.out.step hb)
          clear hb SK
          obtain ⟨y, hy⟩ : ∃ y, b[0]? = some y := ⟨_, List.getElem?_eq_getElem (by omega)⟩
          obtain ⟨gy, oy, eab, cy⟩ := at_ SL.out.b.rds hy
          subst eab
          rw [Nat.add_zero] at cy
          have hyl : y.length ≤ 1000 := SL.out.b.each y (List.mem_of_getElem? hy)
          have HYM := Lib.hid (show y.length ≤ maxLen by unfold maxLen; omega)
          have HY := Lib.hid (by obtain ⟨Ts, hk⟩ := KR_iff.1 HKB.out; exact kn_right hk (List.mem_of_getElem? hy) : ∃ T, term y = some T)
          have HB0 := Lib.hid hy
          have hbp : (0 : Int) < b.length := by omega
          have WY := Lib.hid (fun w' h => spt.with_calls (.slice al l.length cl) l y 0 w' h (Nat.zero_le _) (by omega))
          have WT := Lib.hid (fun w' h => spt.with_calls (.slice al l.length cl) l t 0 w' h (Nat.zero_le _) (by omega))
          clear hy
          go_wp2_with fail
          refine (WY.out _ SL.out.l.txs).mono ?_
          rintro e wM ⟨vw, rfl, htx, -, hb⟩
          have SM := Lib.hid (SL.out.step hb)
          have IM := Lib.hid (show In wM vw (put l y) from ⟨txs_rds htx, by have := spt.put_len l y; unfold maxLen; omega, fun z hz => by have := put_few hz; rcases this with h | h; (have := HLE.out z h; unfold maxLen; omega); (rw [h]; unfold maxLen; omega)⟩)
          clear hb htx SL cy
          cases kk with
          | false =>
            go_upto_region 28 with fail
            go_quiet (fail)
            go_wp2_with fail
            go_ret
            exact ⟨rfl, (SM.out.step ((Still.drewN wM _).below _)).bel⟩
          | true =>
            have hkw := HKK.out.symm
            have HW := Lib.hid (fun hh => wide_knows (t := t) HKR.out.symm (by omega) HY.out hh hkw)
            have HZ := Lib.hid (fun hh => adds_nothing (x := y) HKR.out.symm (by omega) HTY.out HL.out hh hkw)
            go_wp2_with fail
            refine (knowsI vw (put l y) t HTM.out _ IM.out).mono ?_
            rintro e wN ⟨rfl, hh, hb⟩
            rw [HW.out hh]
            have SN := Lib.hid (SM.out.step hb)
            clear hb hh hkw
            go_upto_region 28 with fail
            have SO := Lib.hid (SN.out.step ((Still.drewN wN 1).below _))
            obtain ⟨gy, oy, eab, cy⟩ := at_ SN.out.b.rds HB0.out
            cases eab
            rw [Nat.add_zero] at cy
            obtain ⟨z, hz⟩ : ∃ z, z = KW l y := ⟨_, rfl⟩
            rw [← hz] at HZ
            have dz : (z == z) = true := by simp
            have KL := Lib.hid (fun w' h => knowsI (.slice al l.length cl) l y HYM.out w' h)
            have HZ2 := Lib.hid hz
            clear hz
            have hbn : 0 < b.length := by omega
            refine wp_region_any (by kernel_rfl) ?_
            change wpAny _ _ _ _ _ _ _ (World.drew _)
            refine wpAny_take (i := 0) (v := ?_) rfl (by kernel_rfl) (by kernel_rfl) (by kernel_rfl) (fun _ _ _ h => h) (Or.inl ⟨by kernel_rfl, ?_⟩) ?_
            rotate_left
            · intro w; go_simp; first | done | with_reducible rfl
            refine wpAny_take (i := 1) (v := ?_) rfl (by kernel_rfl) (by kernel_rfl) (by kernel_rfl) (fun _ _ _ h => h) (Or.inl ⟨by kernel_rfl, ?_⟩) ?_
            rotate_left
            · intro w; go_simp; first | done | with_reducible rfl
            refine wpAny_take (i := 2) (v := ?_) rfl (by kernel_rfl) (by kernel_rfl) (by kernel_rfl) (fun _ _ _ h => h) (Or.inl ⟨by kernel_rfl, ?_⟩) ?_
            rotate_left
            · intro w; go_simp; first | done | with_reducible rfl
            refine wpAny_take (i := 3) (v := ?_) rfl (by kernel_rfl) (by kernel_rfl) (by kernel_rfl) (fun _ _ _ h => h) (Or.inl ⟨by kernel_rfl, ?_⟩) ?_
            rotate_left
            · intro w; go_simp; first | done | with_reducible rfl
            refine wpAny_take (i := 4) (v := ?_) rfl (by kernel_rfl) (by kernel_rfl) (by kernel_rfl) (fun _ _ _ h => h) (Or.inl ⟨by kernel_rfl, ?_⟩) ?_
            rotate_left
            · intro w; go_simp; first | done | with_reducible rfl
            refine wpAny_take (i := 6) (v := ?_) rfl (by kernel_rfl) (by kernel_rfl) (by kernel_rfl) (fun _ _ _ h => h) (Or.inl ⟨by kernel_rfl, ?_⟩) ?_
            rotate_left
            · intro w; go_simp; first | done | with_reducible rfl
            refine wpAny_take (i := 7) (v := .pointer (some ⟨gy, oy, none⟩)) rfl (by kernel_rfl) (by kernel_rfl) (by kernel_rfl) (fun _ _ _ h => h) (Or.inl ⟨by kernel_rfl, ?_⟩) ?_
            · intro w; go_simp
            refine wpAny_take (i := 10) (v := ?_) rfl (by kernel_rfl) (by kernel_rfl) (by kernel_rfl) (fun _ _ _ h => h) (Or.inl ⟨by kernel_rfl, ?_⟩) ?_
            rotate_left
            · intro w; go_simp; first | done | with_reducible rfl
            refine wpAny_take (i := 11) (v := ?_) rfl (by kernel_rfl) (by kernel_rfl) (by kernel_rfl) (fun _ _ _ h => h) (Or.inl ⟨by kernel_rfl, ?_⟩) ?_
            rotate_left
            · intro w; go_simp; first | done | with_reducible rfl
            refine wpAny_take (i := 12) (v := .pointer (some ⟨gy, oy, none⟩)) rfl (by kernel_rfl) (by kernel_rfl) (by kernel_rfl) (fun _ _ _ h => h) (Or.inl ⟨by kernel_rfl, ?_⟩) ?_
            · intro w; go_simp
            refine wpAny_ready (rs := [5, 8, 13]) (by kernel_rfl) (by simp) ?_
            refine AllReady.cons rfl (fun K hK => ?_) (AllReady.cons rfl (fun K hK => ?_) (AllReady.cons rfl (fun K hK => ?_) AllReady.nil))
            · go_simp
              refine (WT.out _ SO.out.l.txs).mono ?_
              rintro e wp ⟨v2, rfl, htx, -, hb⟩
              refine hK _ _ ?_
              clear hK K
              have P1 := Lib.hid (SO.out.step hb)
              have IP := Lib.hid (show In wp v2 (put l t) from ⟨txs_rds htx, by have := spt.put_len l t; unfold maxLen; omega, fun z hz => by have := put_few hz; rcases this with h | h; (have := HLE.out z h; unfold maxLen; omega); (rw [h]; exact HTM.out)⟩)
              obtain ⟨gz, oz, eaz, cy⟩ := at_ P1.out.b.rds HB0.out
              cases eaz
              rw [Nat.add_zero] at cy
              clear hb htx SO
              refine wpAny_ready (rs := [8, 13]) (by kernel_rfl) (by simp) ?_
              refine AllReady.cons rfl (fun K hK => ?_) (AllReady.cons rfl (fun K hK => ?_) AllReady.nil)
              · go_simp
                refine hK _ _ ?_
                clear hK K
                refine wpAny_ready (rs := [9, 13]) (by kernel_rfl) (by simp) ?_
                refine AllReady.cons rfl (fun K hK => ?_) (AllReady.cons rfl (fun K hK => ?_) AllReady.nil)
                · go_simp
                  refine (knowsI v2 (put l t) y HYM.out _ IP.out).mono ?_
                  rintro e wq ⟨rfl, hh, hb⟩
                  rw [HZ.out hh]
                  refine hK _ _ ?_
                  clear hK K
                  have P2 := Lib.hid (P1.out.step hb)
                  obtain ⟨gz, oz, eaz, cy⟩ := at_ P2.out.b.rds HB0.out
                  cases eaz
                  rw [Nat.add_zero] at cy
                  clear hb hh P1
                  refine wpAny_ready (rs := [13]) (by kernel_rfl) (by simp) ?_
                  refine AllReady.cons rfl (fun K hK => ?_) AllReady.nil
                  go_simp
                  refine hK _ _ ?_
                  clear hK K
                  refine wpAny_ready (rs := [14]) (by kernel_rfl) (by simp) ?_
                  refine AllReady.cons rfl (fun K hK => ?_) AllReady.nil
                  go_simp
                  refine (KL.out _ P2.out.l.inn).mono ?_
                  rintro e wr ⟨rfl, hh, hb⟩
                  rw [← HZ2.out]
                  refine hK _ _ ?_
                  clear hK K
                  have P3 := Lib.hid (P2.out.step hb)
                  clear hb hh P2
                  refine wpAny_take (i := 15) (v := ?_) rfl (by kernel_rfl) (by kernel_rfl) (by kernel_rfl) (fun _ _ _ h => h) (Or.inl ⟨by kernel_rfl, ?_⟩) ?_
                  rotate_left
                  · intro w; go_simp; first | done | with_reducible rfl
                  refine wpAny_take (i := 16) (v := ?_) rfl (by kernel_rfl) (by kernel_rfl) (by kernel_rfl) (fun _ _ _ h => h) (Or.inl ⟨by kernel_rfl, ?_⟩) ?_
                  rotate_left
                  · intro w; go_simp; first | done | with_reducible rfl
                  refine wpAny_take (i := 17) (v := ?_) rfl (by kernel_rfl) (by kernel_rfl) (by kernel_rfl) (fun _ _ _ h => h) (Or.inl ⟨by kernel_rfl, ?_⟩) ?_
                  rotate_left
                  · intro w; go_simp; first | done | with_reducible rfl
                  refine wpAny_done (by kernel_rfl) ?_ _
                  go_wp2_with fail
                  go_ret
                  exact ⟨rfl, P3.out.bel⟩
                · go_simp
                  refine hK _ _ ?_
                  clear hK K
                  refine wpAny_ready (rs := [9]) (by kernel_rfl) (by simp) ?_
                  refine AllReady.cons rfl (fun K hK => ?_) AllReady.nil
                  go_simp
                  refine (knowsI v2 (put l t) y HYM.out _ IP.out).mono ?_
                  rintro e wq ⟨rfl, hh, hb⟩
                  rw [HZ.out hh]
                  refine hK _ _ ?_
                  clear hK K
                  have P4 := Lib.hid (P1.out.step hb)
                  obtain ⟨gz, oz, eaz, cy⟩ := at_ P4.out.b.rds HB0.out
                  cases eaz
                  rw [Nat.add_zero] at cy
                  clear hb hh P1
                  refine wpAny_ready (rs := [14]) (by kernel_rfl) (by simp) ?_
                  refine AllReady.cons rfl (fun K hK => ?_) AllReady.nil
                  go_simp
                  refine (KL.out _ P4.out.l.inn).mono ?_
                  rintro e wr ⟨rfl, hh, hb⟩
                  rw [← HZ2.out]
                  refine hK _ _ ?_
                  clear hK K
                  have P5 := Lib.hid (P4.out.step hb)
                  clear hb hh P4
                  refine wpAny_take (i := 15) (v := ?_) rfl (by kernel_rfl) (by kernel_rfl) (by kernel_rfl) (fun _ _ _ h => h) (Or.inl ⟨by kernel_rfl, ?_⟩) ?_
                  rotate_left
                  · intro w; go_simp; first | done | with_reducible rfl
                  refine wpAny_take (i := 16) (v := ?_) rfl (by kernel_rfl) (by kernel_rfl) (by kernel_rfl) (fun _ _ _ h => h) (Or.inl ⟨by kernel_rfl, ?_⟩) ?_
                  rotate_left
                  · intro w; go_simp; first | done | with_reducible rfl
                  refine wpAny_take (i := 17) (v := ?_) rfl (by kernel_rfl) (by kernel_rfl) (by kernel_rfl) (fun _ _ _ h => h) (Or.inl ⟨by kernel_rfl, ?_⟩) ?_
                  rotate_left
                  · intro w; go_simp; first | done | with_reducible rfl
                  refine wpAny_done (by kernel_rfl) ?_ _
                  go_wp2_with fail
                  go_ret
                  exact ⟨rfl, P5.out.bel⟩
              · go_simp
                refine hK _ _ ?_
                clear hK K
                refine wpAny_ready (rs := [8]) (by kernel_rfl) (by simp) ?_
                refine AllReady.cons rfl (fun K hK => ?_) AllReady.nil
                go_simp
                refine hK _ _ ?_
                clear hK K
                refine wpAny_ready (rs := [9]) (by kernel_rfl) (by simp) ?_
                refine AllReady.cons rfl (fun K hK => ?_) AllReady.nil
                go_simp
                refine (knowsI v2 (put l t) y HYM.out _ IP.out).mono ?_
                rintro e wq ⟨rfl, hh, hb⟩
                rw [HZ.out hh]
                refine hK _ _ ?_
                clear hK K
                have P6 := Lib.hid (P1.out.step hb)
                obtain ⟨gz, oz, eaz, cy⟩ := at_ P6.out.b.rds HB0.out
                cases eaz
                rw [Nat.add_zero] at cy
                clear hb hh P1
                refine wpAny_ready (rs := [14]) (by kernel_rfl) (by simp) ?_
                refine AllReady.cons rfl (fun K hK => ?_) AllReady.nil
                go_simp
                refine (KL.out _ P6.out.l.inn).mono ?_
                rintro e wr ⟨rfl, hh, hb⟩
                rw [← HZ2.out]
                refine hK _ _ ?_
                clear hK K
                have P7 := Lib.hid (P6.out.step hb)
                clear hb hh P6
                refine wpAny_take (i := 15) (v := ?_) rfl (by kernel_rfl) (by kernel_rfl) (by kernel_rfl) (fun _ _ _ h => h) (Or.inl ⟨by kernel_rfl, ?_⟩) ?_
                rotate_left
                · intro w; go_simp; first | done | with_reducible rfl
                refine wpAny_take (i := 16) (v := ?_) rfl (by kernel_rfl) (by kernel_rfl) (by kernel_rfl) (fun _ _ _ h => h) (Or.inl ⟨by kernel_rfl, ?_⟩) ?_
                rotate_left
                · intro w; go_simp; first | done | with_reducible rfl
                refine wpAny_take (i := 17) (v := ?_) rfl (by kernel_rfl) (by kernel_rfl) (by kernel_rfl) (fun _ _ _ h => h) (Or.inl ⟨by kernel_rfl, ?_⟩) ?_
                rotate_left
                · intro w; go_simp; first | done | with_reducible rfl
                refine wpAny_done (by kernel_rfl) ?_ _
                go_wp2_with fail
                go_ret
                exact ⟨rfl, P7.out.bel⟩
            · go_simp
              refine hK _ _ ?_
              clear hK K
              refine wpAny_ready (rs := [5, 13]) (by kernel_rfl) (by simp) ?_
              refine AllReady.cons rfl (fun K hK => ?_) (AllReady.cons rfl (fun K hK => ?_) AllReady.nil)
              · go_simp
                refine (WT.out _ SO.out.l.txs).mono ?_
                rintro e wp ⟨v2, rfl, htx, -, hb⟩
                refine hK _ _ ?_
                clear hK K
                have P8 := Lib.hid (SO.out.step hb)
                have IP := Lib.hid (show In wp v2 (put l t) from ⟨txs_rds htx, by have := spt.put_len l t; unfold maxLen; omega, fun z hz => by have := put_few hz; rcases this with h | h; (have := HLE.out z h; unfold maxLen; omega); (rw [h]; exact HTM.out)⟩)
                obtain ⟨gz, oz, eaz, cy⟩ := at_ P8.out.b.rds HB0.out
                cases eaz
                rw [Nat.add_zero] at cy
                clear hb htx SO
                refine wpAny_ready (rs := [9, 13]) (by kernel_rfl) (by simp) ?_
                refine AllReady.cons rfl (fun K hK => ?_) (AllReady.cons rfl (fun K hK => ?_) AllReady.nil)
                · go_simp
                  refine (knowsI v2 (put l t) y HYM.out _ IP.out).mono ?_
                  rintro e wq ⟨rfl, hh, hb⟩
                  rw [HZ.out hh]
                  refine hK _ _ ?_
                  clear hK K
                  have P9 := Lib.hid (P8.out.step hb)
                  obtain ⟨gz, oz, eaz, cy⟩ := at_ P9.out.b.rds HB0.out
                  cases eaz
                  rw [Nat.add_zero] at cy
                  clear hb hh P8
                  refine wpAny_ready (rs := [13]) (by kernel_rfl) (by simp) ?_
                  refine AllReady.cons rfl (fun K hK => ?_) AllReady.nil
                  go_simp
                  refine hK _ _ ?_
                  clear hK K
                  refine wpAny_ready (rs := [14]) (by kernel_rfl) (by simp) ?_
                  refine AllReady.cons rfl (fun K hK => ?_) AllReady.nil
                  go_simp
                  refine (KL.out _ P9.out.l.inn).mono ?_
                  rintro e wr ⟨rfl, hh, hb⟩
                  rw [← HZ2.out]
                  refine hK _ _ ?_
                  clear hK K
                  have P10 := Lib.hid (P9.out.step hb)
                  clear hb hh P9
                  refine wpAny_take (i := 15) (v := ?_) rfl (by kernel_rfl) (by kernel_rfl) (by kernel_rfl) (fun _ _ _ h => h) (Or.inl ⟨by kernel_rfl, ?_⟩) ?_
                  rotate_left
                  · intro w; go_simp; first | done | with_reducible rfl
                  refine wpAny_take (i := 16) (v := ?_) rfl (by kernel_rfl) (by kernel_rfl) (by kernel_rfl) (fun _ _ _ h => h) (Or.inl ⟨by kernel_rfl, ?_⟩) ?_
                  rotate_left
                  · intro w; go_simp; first | done | with_reducible rfl
                  refine wpAny_take (i := 17) (v := ?_) rfl (by kernel_rfl) (by kernel_rfl) (by kernel_rfl) (fun _ _ _ h => h) (Or.inl ⟨by kernel_rfl, ?_⟩) ?_
                  rotate_left
                  · intro w; go_simp; first | done | with_reducible rfl
                  refine wpAny_done (by kernel_rfl) ?_ _
                  go_wp2_with fail
                  go_ret
                  exact ⟨rfl, P10.out.bel⟩
                · go_simp
                  refine hK _ _ ?_
                  clear hK K
                  refine wpAny_ready (rs := [9]) (by kernel_rfl) (by simp) ?_
                  refine AllReady.cons rfl (fun K hK => ?_) AllReady.nil
                  go_simp
                  refine (knowsI v2 (put l t) y HYM.out _ IP.out).mono ?_
                  rintro e wq ⟨rfl, hh, hb⟩
                  rw [HZ.out hh]
                  refine hK _ _ ?_
                  clear hK K
                  have P11 := Lib.hid (P8.out.step hb)
                  obtain ⟨gz, oz, eaz, cy⟩ := at_ P11.out.b.rds HB0.out
                  cases eaz
                  rw [Nat.add_zero] at cy
                  clear hb hh P8
                  refine wpAny_ready (rs := [14]) (by kernel_rfl) (by simp) ?_
                  refine AllReady.cons rfl (fun K hK => ?_) AllReady.nil
                  go_simp
                  refine (KL.out _ P11.out.l.inn).mono ?_
                  rintro e wr ⟨rfl, hh, hb⟩
                  rw [← HZ2.out]
                  refine hK _ _ ?_
                  clear hK K
                  have P12 := Lib.hid (P11.out.step hb)
                  clear hb hh P11
                  refine wpAny_take (i := 15) (v := ?_) rfl (by kernel_rfl) (by kernel_rfl) (by kernel_rfl) (fun _ _ _ h => h) (Or.inl ⟨by kernel_rfl, ?_⟩) ?_
                  rotate_left
                  · intro w; go_simp; first | done | with_reducible rfl
                  refine wpAny_take (i := 16) (v := ?_) rfl (by kernel_rfl) (by kernel_rfl) (by kernel_rfl) (fun _ _ _ h => h) (Or.inl ⟨by kernel_rfl, ?_⟩) ?_
                  rotate_left
                  · intro w; go_simp; first | done | with_reducible rfl
                  refine wpAny_take (i := 17) (v := ?_) rfl (by kernel_rfl) (by kernel_rfl) (by kernel_rfl) (fun _ _ _ h => h) (Or.inl ⟨by kernel_rfl, ?_⟩) ?_
                  rotate_left
                  · intro w; go_simp; first | done | with_reducible rfl
                  refine wpAny_done (by kernel_rfl) ?_ _
                  go_wp2_with fail
                  go_ret
                  exact ⟨rfl, P12.out.bel⟩
              · go_simp
                refine hK _ _ ?_
                clear hK K
                refine wpAny_ready (rs := [5]) (by kernel_rfl) (by simp) ?_
                refine AllReady.cons rfl (fun K hK => ?_) AllReady.nil
                go_simp
                refine (WT.out _ SO.out.l.txs).mono ?_
                rintro e wp ⟨v2, rfl, htx, -, hb⟩
                refine hK _ _ ?_
                clear hK K
                have P13 := Lib.hid (SO.out.step hb)
                have IP := Lib.hid (show In wp v2 (put l t) from ⟨txs_rds htx, by have := spt.put_len l t; unfold maxLen; omega, fun z hz => by have := put_few hz; rcases this with h | h; (have := HLE.out z h; unfold maxLen; omega); (rw [h]; exact HTM.out)⟩)
                obtain ⟨gz, oz, eaz, cy⟩ := at_ P13.out.b.rds HB0.out
                cases eaz
                rw [Nat.add_zero] at cy
                clear hb htx SO
                refine wpAny_ready (rs := [9]) (by kernel_rfl) (by simp) ?_
                refine AllReady.cons rfl (fun K hK => ?_) AllReady.nil
                go_simp
                refine (knowsI v2 (put l t) y HYM.out _ IP.out).mono ?_
                rintro e wq ⟨rfl, hh, hb⟩
                rw [HZ.out hh]
                refine hK _ _ ?_
                clear hK K
                have P14 := Lib.hid (P13.out.step hb)
                obtain ⟨gz, oz, eaz, cy⟩ := at_ P14.out.b.rds HB0.out
                cases eaz
                rw [Nat.add_zero] at cy
                clear hb hh P13
                refine wpAny_ready (rs := [14]) (by kernel_rfl) (by simp) ?_
                refine AllReady.cons rfl (fun K hK => ?_) AllReady.nil
                go_simp
                refine (KL.out _ P14.out.l.inn).mono ?_
                rintro e wr ⟨rfl, hh, hb⟩
                rw [← HZ2.out]
                refine hK _ _ ?_
                clear hK K
                have P15 := Lib.hid (P14.out.step hb)
                clear hb hh P14
                refine wpAny_take (i := 15) (v := ?_) rfl (by kernel_rfl) (by kernel_rfl) (by kernel_rfl) (fun _ _ _ h => h) (Or.inl ⟨by kernel_rfl, ?_⟩) ?_
                rotate_left
                · intro w; go_simp; first | done | with_reducible rfl
                refine wpAny_take (i := 16) (v := ?_) rfl (by kernel_rfl) (by kernel_rfl) (by kernel_rfl) (fun _ _ _ h => h) (Or.inl ⟨by kernel_rfl, ?_⟩) ?_
                rotate_left
                · intro w; go_simp; first | done | with_reducible rfl
                refine wpAny_take (i := 17) (v := ?_) rfl (by kernel_rfl) (by kernel_rfl) (by kernel_rfl) (fun _ _ _ h => h) (Or.inl ⟨by kernel_rfl, ?_⟩) ?_
                rotate_left
                · intro w; go_simp; first | done | with_reducible rfl
                refine wpAny_done (by kernel_rfl) ?_ _
                go_wp2_with fail
                go_ret
                exact ⟨rfl, P15.out.bel⟩
            · go_simp
              refine hK _ _ ?_
              clear hK K
              refine wpAny_ready (rs := [5, 8]) (by kernel_rfl) (by simp) ?_
              refine AllReady.cons rfl (fun K hK => ?_) (AllReady.cons rfl (fun K hK => ?_) AllReady.nil)
              · go_simp
                refine (WT.out _ SO.out.l.txs).mono ?_
                rintro e wp ⟨v2, rfl, htx, -, hb⟩
                refine hK _ _ ?_
                clear hK K
                have P16 := Lib.hid (SO.out.step hb)
                have IP := Lib.hid (show In wp v2 (put l t) from ⟨txs_rds htx, by have := spt.put_len l t; unfold maxLen; omega, fun z hz => by have := put_few hz; rcases this with h | h; (have := HLE.out z h; unfold maxLen; omega); (rw [h]; exact HTM.out)⟩)
                obtain ⟨gz, oz, eaz, cy⟩ := at_ P16.out.b.rds HB0.out
                cases eaz
                rw [Nat.add_zero] at cy
                clear hb htx SO
                refine wpAny_ready (rs := [8]) (by kernel_rfl) (by simp) ?_
                refine AllReady.cons rfl (fun K hK => ?_) AllReady.nil
                go_simp
                refine hK _ _ ?_
                clear hK K
                refine wpAny_ready (rs := [9]) (by kernel_rfl) (by simp) ?_
                refine AllReady.cons rfl (fun K hK => ?_) AllReady.nil
                go_simp
                refine (knowsI v2 (put l t) y HYM.out _ IP.out).mono ?_
                rintro e wq ⟨rfl, hh, hb⟩
                rw [HZ.out hh]
                refine hK _ _ ?_
                clear hK K
                have P17 := Lib.hid (P16.out.step hb)
                obtain ⟨gz, oz, eaz, cy⟩ := at_ P17.out.b.rds HB0.out
                cases eaz
                rw [Nat.add_zero] at cy
                clear hb hh P16
                refine wpAny_ready (rs := [14]) (by kernel_rfl) (by simp) ?_
                refine AllReady.cons rfl (fun K hK => ?_) AllReady.nil
                go_simp
                refine (KL.out _ P17.out.l.inn).mono ?_
                rintro e wr ⟨rfl, hh, hb⟩
                rw [← HZ2.out]
                refine hK _ _ ?_
                clear hK K
                have P18 := Lib.hid (P17.out.step hb)
                clear hb hh P17
                refine wpAny_take (i := 15) (v := ?_) rfl (by kernel_rfl) (by kernel_rfl) (by kernel_rfl) (fun _ _ _ h => h) (Or.inl ⟨by kernel_rfl, ?_⟩) ?_
                rotate_left
                · intro w; go_simp; first | done | with_reducible rfl
                refine wpAny_take (i := 16) (v := ?_) rfl (by kernel_rfl) (by kernel_rfl) (by kernel_rfl) (fun _ _ _ h => h) (Or.inl ⟨by kernel_rfl, ?_⟩) ?_
                rotate_left
                · intro w; go_simp; first | done | with_reducible rfl
                refine wpAny_take (i := 17) (v := ?_) rfl (by kernel_rfl) (by kernel_rfl) (by kernel_rfl) (fun _ _ _ h => h) (Or.inl ⟨by kernel_rfl, ?_⟩) ?_
                rotate_left
                · intro w; go_simp; first | done | with_reducible rfl
                refine wpAny_done (by kernel_rfl) ?_ _
                go_wp2_with fail
                go_ret
                exact ⟨rfl, P18.out.bel⟩
              · go_simp
                refine hK _ _ ?_
                clear hK K
                refine wpAny_ready (rs := [5]) (by kernel_rfl) (by simp) ?_
                refine AllReady.cons rfl (fun K hK => ?_) AllReady.nil
                go_simp
                refine (WT.out _ SO.out.l.txs).mono ?_
                rintro e wp ⟨v2, rfl, htx, -, hb⟩
                refine hK _ _ ?_
                clear hK K
                have P19 := Lib.hid (SO.out.step hb)
                have IP := Lib.hid (show In wp v2 (put l t) from ⟨txs_rds htx, by have := spt.put_len l t; unfold maxLen; omega, fun z hz => by have := put_few hz; rcases this with h | h; (have := HLE.out z h; unfold maxLen; omega); (rw [h]; exact HTM.out)⟩)
                obtain ⟨gz, oz, eaz, cy⟩ := at_ P19.out.b.rds HB0.out
                cases eaz
                rw [Nat.add_zero] at cy
                clear hb htx SO
                refine wpAny_ready (rs := [9]) (by kernel_rfl) (by simp) ?_
                refine AllReady.cons rfl (fun K hK => ?_) AllReady.nil
                go_simp
                refine (knowsI v2 (put l t) y HYM.out _ IP.out).mono ?_
                rintro e wq ⟨rfl, hh, hb⟩
                rw [HZ.out hh]
                refine hK _ _ ?_
                clear hK K
                have P20 := Lib.hid (P19.out.step hb)
                obtain ⟨gz, oz, eaz, cy⟩ := at_ P20.out.b.rds HB0.out
                cases eaz
                rw [Nat.add_zero] at cy
                clear hb hh P19
                refine wpAny_ready (rs := [14]) (by kernel_rfl) (by simp) ?_
                refine AllReady.cons rfl (fun K hK => ?_) AllReady.nil
                go_simp
                refine (KL.out _ P20.out.l.inn).mono ?_
                rintro e wr ⟨rfl, hh, hb⟩
                rw [← HZ2.out]
                refine hK _ _ ?_
                clear hK K
                have P21 := Lib.hid (P20.out.step hb)
                clear hb hh P20
                refine wpAny_take (i := 15) (v := ?_) rfl (by kernel_rfl) (by kernel_rfl) (by kernel_rfl) (fun _ _ _ h => h) (Or.inl ⟨by kernel_rfl, ?_⟩) ?_
                rotate_left
                · intro w; go_simp; first | done | with_reducible rfl
                refine wpAny_take (i := 16) (v := ?_) rfl (by kernel_rfl) (by kernel_rfl) (by kernel_rfl) (fun _ _ _ h => h) (Or.inl ⟨by kernel_rfl, ?_⟩) ?_
                rotate_left
                · intro w; go_simp; first | done | with_reducible rfl
                refine wpAny_take (i := 17) (v := ?_) rfl (by kernel_rfl) (by kernel_rfl) (by kernel_rfl) (fun _ _ _ h => h) (Or.inl ⟨by kernel_rfl, ?_⟩) ?_
                rotate_left
                · intro w; go_simp; first | done | with_reducible rfl
                refine wpAny_done (by kernel_rfl) ?_ _
                go_wp2_with fail
                go_ret
                exact ⟨rfl, P21.out.bel⟩
end Go.Proofs.YtdikjmhnjlalbabGreat.knw
