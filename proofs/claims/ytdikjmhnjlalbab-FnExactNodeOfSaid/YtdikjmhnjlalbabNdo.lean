/- Contracts of NodeOf, of the program and of the model. -/
import Derived.Test.YtdikjmhnjlalbabTxo
import Derived.Test.YtdikjmhnjlalbabGrd
import Derived.Test.YtdikjmhnjlalbabSop
import Derived.Test.YtdikjmhnjlalbabRds
namespace Go.Proofs.Ytdikjmhnjlalbab.ndo
open Go.RowKit Go.Proofs.Ytdikjmhnjlalbab.tm Go.Proofs.Ytdikjmhnjlalbab.lib Go.Proofs.Ytdikjmhnjlalbab.rdr Go.Proofs.Ytdikjmhnjlalbab.bld Go.Proofs.Ytdikjmhnjlalbab.app Go.Proofs.Ytdikjmhnjlalbab.arg Go.Proofs.Ytdikjmhnjlalbab.grd Go.Proofs.Ytdikjmhnjlalbab.txo Go.Proofs.Ytdikjmhnjlalbab.snd Go.Proofs.Ytdikjmhnjlalbab.sop Go.Proofs.Ytdikjmhnjlalbab.mrk Go.Proofs.Ytdikjmhnjlalbab.mrs
set_option linter.unusedVariables false

def opR (l : Bs) : Bs := match term l with | some T => T.op | none => []
def argsR (l : Bs) : List Bs := match term l with | some T => nodeArgs T | none => []

theorem opR_none {l : Bs} (h : term l = none) : opR l = [] := by unfold opR; rw [h]
theorem argsR_none {l : Bs} (h : term l = none) : argsR l = [] := by unfold argsR; rw [h]
theorem opR_some {l : Bs} {T : Tm} (h : term l = some T) : opR l = T.op := by unfold opR; rw [h]
theorem argsR_some {l : Bs} {T : Tm} (h : term l = some T) : argsR l = nodeArgs T := by unfold argsR; rw [h]

theorem Txs.rds {w : World} {B : Nat} {v : Value} {ls : List Bs} (h : Txs w B v ls) : Rds w v ls := by
  obtain ⟨g, off, cap, e, _, hg, _, hc⟩ := h
  exact .inr ⟨g, off, cap, e, hg, hc⟩

set_option maxHeartbeats 1000000 in
set_option maxRecDepth 100000 in
theorem specNodeOf_calls (s : ByteArray) (hs : s.size ≤ maxLen) (w : World) :
    Calls Try.prog 24 #[.string s] w fun e w' => ∃ v, e = .returned (.agg #[str (opR s.data.toList), v]) ∧ Below w.heap.size w w' ∧ Rds w' v (argsR s.data.toList) := by
  have a1 := srt.specTermRight_calls s hs
  rcases h : term s.data.toList with _ | T
  · rw [opR_none h, argsR_none h]
    rw [h] at a1
    simp only [Option.isSome] at a1
    clear h
    go_enter Try.func24, Try.ntmps24
    go_wp2_with fail
    refine (a1 _).mono ?_
    rintro e w1 ⟨rfl, hb⟩
    obtain ⟨c0, c1, f0, f1, hz⟩ := two (clo.new_kept hb)
    have HB := Lib.hid hb
    clear hb
    go_wp2_with fail
    exact bodyPost_ret (v := .agg #[.string ⟨#[]⟩, .slice none 0 0]) (by simp [results, Try.results24, go_sem, c0, c1]) rfl ⟨_, rfl, fin3 HB.out _ _, .inl ⟨rfl, _, _, rfl⟩⟩
  · rw [opR_some h, argsR_some h]
    rw [h] at a1
    simp only [Option.isSome] at a1
    have a2 := node_at s.data.toList T h
    obtain ⟨O, hO⟩ : ∃ O, O = T.op := ⟨_, rfl⟩
    simp only [← hO] at a2 ⊢
    change ∀ w, Calls _ _ #[.string s] w _ at a2
    clear h hO
    go_enter Try.func24, Try.ntmps24
    go_wp2_with fail
    refine (a1 _).mono ?_
    rintro e w1 ⟨rfl, hb⟩
    have HB := Lib.hid hb
    clear hb
    go_wp2_with fail
    refine (a2 _).mono ?_
    rintro e w2 ⟨v, rfl, hb2, hx⟩
    have HB2 := Lib.hid (HB.out.trans (hb2.mono HB.out.size))
    obtain ⟨c0, c1, f0, f1, hz⟩ := two (clo.new_kept HB2.out)
    obtain ⟨g, off, cap, rfl, hg, hg2, _, hc⟩ := hx
    have hgn : g ≠ w.heap.size := by have := HB.out.size; simp at this; omega
    have HC := Lib.hid hc
    clear hb2 hc
    go_wp2_with fail
    refine bodyPost_ret (v := .agg #[str O, .slice (some ⟨g, off, none⟩) (nodeArgs T).length cap]) (by simp [results, Try.results24, go_sem, c0, c1]) rfl ⟨_, rfl, fin3 HB2.out _ _, .inr ⟨g, off, cap, rfl, by simpa [World.setCell] using hg2, fun j l hj => ?_⟩⟩
    rw [World.cell?_setCell_other _ _ _ _ (fun e' => hgn (congrArg Addr.block e').symm), World.cell?_setCell_other _ _ _ _ (fun e' => hgn (congrArg Addr.block e').symm)]
    exact HC.out j l hj

set_option maxHeartbeats 1000000 in
set_option maxRecDepth 100000 in
theorem implNodeOf_calls (s : ByteArray) (hs : s.size ≤ maxLen) (w : World) :
    Calls Try.prog 25 #[.string s] w fun e w' => ∃ v, e = .returned (.agg #[str (opR s.data.toList), v]) ∧ Below w.heap.size w w' ∧ Wrs w' w.heap.size v (argsR s.data.toList) := by
  rcases h : term s.data.toList with _ | T
  · rw [opR_none h, argsR_none h]
    have a1 := termOf_no s hs h
    clear h
    go_enter Try.func25, Try.ntmps25
    go_wp2_with fail
    refine (a1 _).mono ?_
    rintro e w1 ⟨rfl, hb⟩
    obtain ⟨c0, c1, f0, f1, hz⟩ := two (clo.new_kept hb)
    have HB := Lib.hid hb
    clear hb
    go_wp2_with fail
    exact bodyPost_ret (v := .agg #[.string ⟨#[]⟩, .slice none 0 0]) (by simp [results, Try.results25, go_sem, c0, c1]) rfl ⟨_, rfl, fin3 HB.out _ _, .inl ⟨rfl, _, _, rfl⟩⟩
  · have a1 := termOf_yes s hs T h
    have hl : T.tx.length ≤ 1000000 := by have := (term_some.1 h).1; rw [(term_some.1 h).2.2.2]; omega
    rcases isAtom_cases T with hn | ⟨a, rfl⟩
    · rw [opR_some h, argsR_some h]
      have a2 := as_atom_no T hn
      have a3 := argTexts_calls T hn hl
      have hna : nodeArgs T = T.kids.map Tm.tx := by unfold nodeArgs; rw [hn]; rfl
      rw [hna]
      obtain ⟨ks, hks⟩ : ∃ ks, ks = T.kids.map Tm.tx := ⟨_, rfl⟩
      rw [← hks]
      simp only [← hks] at a3
      have m1 := met_op T
      have m2 := inv_op T
      have m3 := op_calls T
      obtain ⟨O, hO⟩ : ∃ O, O = T.op := ⟨_, rfl⟩
      rw [← hO]
      simp only [← hO] at m3
      rw [val_eq] at a1 a2 a3
      clear h hl hn hna hks hO
      go_enter Try.func25, Try.ntmps25
      go_wp2_with fail
      refine (a1 _).mono ?_
      rintro e w1 ⟨rfl, hb⟩
      have HB := Lib.hid hb
      clear hb
      go_wp2_with fail
      refine (m3 _).mono ?_
      rintro e w2 ⟨rfl, hb2⟩
      have HB2 := Lib.hid (HB.out.trans (hb2.mono HB.out.size))
      clear hb2
      go_wp2_with fail
      refine (a3 _).mono ?_
      rintro e w3 ⟨v, rfl, hb3, hx⟩
      have HB3 := Lib.hid (HB2.out.trans (hb3.mono HB2.out.size))
      obtain ⟨c0, c1, f0, f1, hz⟩ := two (clo.new_kept HB3.out)
      clear hb3
      rcases Strs.wrs hx with ⟨h0, ad, cap, rfl⟩ | ⟨g, off, cap, rfl, hBg, hg, hc, hf⟩
      · have H0 := Lib.hid h0
        clear h0 hx
        go_wp2_with fail
        exact bodyPost_ret (v := .agg #[str O, .slice ad 0 cap]) (by simp [results, Try.results25, go_sem, c0, c1]) rfl ⟨_, rfl, fin3 HB3.out _ _, .inl ⟨H0.out, _, _, rfl⟩⟩
      · have hgn : g ≠ w.heap.size := by have := HB2.out.size; simp at this; omega
        have hgw : w.heap.size ≤ g := by have := HB2.out.size; simp at this; omega
        have HC := Lib.hid hc
        have HF := Lib.hid hf
        clear hc hf hx
        go_wp2_with fail
        refine bodyPost_ret (v := .agg #[str O, .slice (some ⟨g, off, none⟩) ks.length cap]) (by simp [results, Try.results25, go_sem, c0, c1]) rfl ⟨_, rfl, fin3 HB3.out _ _, .inr ⟨g, off, cap, rfl, hgw, by simpa [World.setCell] using hg, fun j l hj => ?_, fun j hj => ?_⟩⟩
        · rw [World.cell?_setCell_other _ _ _ _ (fun e' => hgn (congrArg Addr.block e').symm), World.cell?_setCell_other _ _ _ _ (fun e' => hgn (congrArg Addr.block e').symm)]
          exact HC.out j l hj
        · rw [World.frozen?_setCell, World.frozen?_setCell]
          exact HF.out j hj
    · rw [opR_some h, argsR_some h]
      have a2 := as_atom a
      have hna : nodeArgs (.atom a) = [a] := rfl
      rw [hna]
      simp only [Tm.op]
      rw [val_eq] at a1 a2
      simp only [ty, inner] at a1 a2
      clear h hl hna
      go_enter Try.func25, Try.ntmps25
      go_wp2_with fail
      refine (a1 _).mono ?_
      rintro e w1 ⟨rfl, hb⟩
      have HB := Lib.hid hb
      obtain ⟨c0, c1, f0, f1, hz⟩ := two (clo.new_kept hb)
      clear hb
      go_wp2_with fail
      refine bodyPost_ret (v := .agg #[.string ⟨#[]⟩, .slice (some ⟨w1.heap.size, 0, none⟩) 1 1]) (by simp [results, Try.results25, go_sem, c0, c1, hz]) rfl ⟨_, rfl, fin2 HB.out _ _ _, .inr ⟨w1.heap.size, 0, 1, rfl, by omega, by simp [World.setCell], fun j l hj => ?_, fun j hj => ?_⟩⟩
      · match j, hj with
        | 0, hj => simp at hj; subst hj; simp [go_sem]
        | j + 1, hj => simp at hj
      · simp at hj
        subst hj
        simp [go_sem]
end Go.Proofs.Ytdikjmhnjlalbab.ndo
