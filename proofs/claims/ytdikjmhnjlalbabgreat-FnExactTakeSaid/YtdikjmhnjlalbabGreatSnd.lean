/- Contract of the model's l02Node. -/
import Derived.Test.YtdikjmhnjlalbabGreatSrt
import Derived.Test.YtdikjmhnjlalbabGreatClo
import Derived.BigRegion
import Derived.RegionTactic
namespace Go.Proofs.YtdikjmhnjlalbabGreat.snd
open Go.RowKit Go.Proofs.YtdikjmhnjlalbabGreat.tm Go.Proofs.YtdikjmhnjlalbabGreat.lib Go.Proofs.YtdikjmhnjlalbabGreat.rdr Go.Proofs.YtdikjmhnjlalbabGreat.bld Go.Proofs.YtdikjmhnjlalbabGreat.app Go.Proofs.YtdikjmhnjlalbabGreat.spm Go.Proofs.YtdikjmhnjlalbabGreat.sar Go.Proofs.YtdikjmhnjlalbabGreat.sdp
set_option linter.unusedVariables false

/-- A slice of texts, somewhere from block B on. -/
def Txs (w : World) (B : Nat) (v : Value) (ls : List Bs) : Prop := ∃ g off cap, v = .slice (some ⟨g, off, none⟩) ls.length cap ∧ B ≤ g ∧ g < w.heap.size ∧ ls.length ≤ cap ∧ ∀ j l, ls[j]? = some l → w.cell? ⟨g, off + j, none⟩ = some (str l)

/-- The args of a node: of an atom it alone. -/
def nodeArgs (T : Tm) : List Bs := if T.isAtom then [T.tx] else T.kids.map Tm.tx

theorem atom_first {T : Tm} (hT : T.ok) (h : T.isAtom = true) : ∃ (s0 : UInt8) (r : Bs), T.tx = s0 :: r ∧ s0 ≠ 91 := by
  match T, h, hT with
  | .atom a, _, hT =>
    cases a with
    | nil => have := atomR_ne (show atomR [] = true from hT); exact absurd rfl this
    | cons c r =>
      refine ⟨c, r, rfl, ?_⟩
      have := atomR_all (show atomR (c :: r) = true from hT)
      simp at this
      rintro rfl
      exact absurd this.1 (by decide)

theorem byte0 {s : ByteArray} {c : UInt8} {r : Bs} (h : s.data.toList = c :: r) : ∃ hp : 0 < s.size, s[0] = c := by
  have hp : 0 < s.size := by
    have := congrArg List.length h
    have e : s.data.toList.length = s.size := rfl
    rw [e] at this
    simp at this
    omega
  refine ⟨hp, ?_⟩
  have := drop_lt s 0 hp
  rw [List.drop_zero, h] at this
  exact (List.cons.inj this).1.symm

set_option maxHeartbeats 1000000 in
set_option maxRecDepth 100000 in
theorem node_calls (s : ByteArray) (T : Tm) (hT : T.ok) (hs : s.size ≤ 3000) (he : T.tx = s.data.toList) (w : World) :
    Calls Tryz.prog 53 #[.string s] w fun e w' => ∃ v, e = .returned (.agg #[str T.op, v]) ∧ Below w.heap.size w w' ∧ Txs w' w.heap.size v (nodeArgs T) := by
  cases hn : T.isAtom with
  | true =>
    obtain ⟨c, r, h1, h2⟩ := atom_first hT hn
    obtain ⟨hp, h0⟩ := byte0 (he ▸ h1 : s.data.toList = c :: r)
    have d0 : ((s[0].toNat : Int) != 91) = true := by
      rw [h0]; simp; intro e; exact h2 (UInt8.toNat_inj.1 (by show _ = 91; omega))
    have hop : T.op = [] := by cases T <;> first | rfl | (simp [Tm.isAtom] at hn)
    have hna : nodeArgs T = [s.data.toList] := by unfold nodeArgs; rw [hn, if_pos rfl, he]
    rw [hop, hna]
    clear h0 h1 h2 hop hna hn he hT
    go_enter Tryz.func53, Tryz.ntmps53
    go_wp2_with fail
    refine bodyPost_ret (v := .agg #[.string ⟨#[]⟩, .slice (some ⟨w.heap.size + 1, 0, none⟩) 1 1]) (by simp [results, Tryz.results53, go_sem]) rfl ⟨_, rfl, ?_, _, _, _, rfl, ?_, ?_, ?_, ?_⟩
    · exact ((Below.refl _ _).alloc (Nat.le_refl _) _).alloc (by simp) _
    · simp
    · simp
    · simp
    · intro j l hj
      match j, hj with
      | 0, hj => simp at hj; subst hj; simp [go_sem]
      | j + 1, hj => simp at hj
  | false =>
    have ha := args_tx hT hn
    rw [he] at ha
    have hna : nodeArgs T = T.kids.map Tm.tx := by unfold nodeArgs; rw [hn]; rfl
    obtain ⟨ks, hks⟩ : ∃ ks, ks = T.kids.map Tm.tx := ⟨_, rfl⟩
    obtain ⟨op, hop⟩ : ∃ op, op = T.op := ⟨_, rfl⟩
    have h3 : (∃ x, ks = [x]) ∨ (∃ x y, ks = [x, y]) := by
      rw [hks]
      cases T with
      | atom a => cases hn
      | pair x y => exact .inr ⟨_, _, rfl⟩
      | hash x => exact .inl ⟨_, rfl⟩
      | mac x y => exact .inr ⟨_, _, rfl⟩
      | shut x y => exact .inr ⟨_, _, rfl⟩
      | pub a => exact .inl ⟨_, rfl⟩
      | dh a b => exact .inr ⟨_, _, rfl⟩
    have h0 : ∃ r, s.data.toList = 91 :: r := by rw [← he, tx_say T hn]; exact ⟨_, rfl⟩
    obtain ⟨r, hr⟩ := h0
    obtain ⟨hp, h0⟩ := byte0 hr
    have d0 : ((s[0].toNat : Int) != 91) = false := by rw [h0]; rfl
    rw [hna]
    rw [← hks] at ha ⊢
    rw [← hop] at ha ⊢
    have HA := Lib.hid ha
    clear hr h0 hna hn he hT ha hop hks
    go_enter Tryz.func53, Tryz.ntmps53
    go_wp2_with fail
    refine (args_calls s hs _).mono ?_
    rintro e w1 ⟨v, hb, hk⟩
    have HB := Lib.hid hb
    rcases hk with ⟨hk, rfl⟩ | ⟨a, hk, rfl, ho⟩
    · rw [HA.out] at hk; cases hk
    rw [HA.out] at hk
    cases hk
    have hcap := ho
    obtain ⟨g, cap, rfl, c0, c1, c2, hg⟩ := Strs.cons ho
    obtain ⟨k0, k1, f0, f1, hz⟩ := two (clo.new_kept hb)
    have hgb : w.heap.size < g := by
      have := (World.ownsRow.lt ho g rfl).1
      simp at this
      omega
    have hcap2 : ks.length + 1 ≤ cap := by
      obtain ⟨_, hh⟩ := ho
      rcases hh with ⟨h1, _⟩ | ⟨g', cap', cur, h1, _, _, h2, _⟩
      · cases h1
      · cases h1; simpa using h2
    rcases h3 with ⟨x, rfl⟩ | ⟨x, y, rfl⟩
    · have c1 := c1 x rfl
      simp only [List.length_cons, List.length_nil] at hcap2
      clear hb ho hcap c2
      go_wp2_with fail
      go_region
      all_goals go_wp2_with fail
      refine bodyPost_ret (v := .agg #[str op, .slice (some ⟨g, 1, none⟩) 1 (cap - 1)]) (by simp [results, Tryz.results53, go_sem, k0, k1]) rfl ⟨_, rfl, ?_, g, 1, cap - 1, rfl, by omega, ?_, ?_, ?_⟩
      · exact (((((Below.refl _ _).alloc (Nat.le_refl _) _).trans (HB.out.mono (by simp))).setCell (by simp) _).setCell (by simp) _).drew
      · simp [World.setCell]; exact hg
      · simp; omega
      · have hne : ¬ (g = w.heap.size) := by omega
        intro j l hj
        match j, hj with
        | 0, hj => simp at hj; subst hj; simp [go_sem, c1]
        | j + 1, hj => simp at hj
    · have c1 := c1 x rfl
      have c2 := c2 y rfl
      simp only [List.length_cons, List.length_nil] at hcap2
      clear hb ho hcap
      go_wp2_with fail
      go_region
      all_goals go_wp2_with fail
      refine bodyPost_ret (v := .agg #[str op, .slice (some ⟨g, 1, none⟩) 2 (cap - 1)]) (by simp [results, Tryz.results53, go_sem, k0, k1]) rfl ⟨_, rfl, ?_, g, 1, cap - 1, rfl, by omega, ?_, ?_, ?_⟩
      · exact (((((Below.refl _ _).alloc (Nat.le_refl _) _).trans (HB.out.mono (by simp))).setCell (by simp) _).setCell (by simp) _).drew
      · simp [World.setCell]; exact hg
      · simp; omega
      · have hne : ¬ (g = w.heap.size) := by omega
        intro j l hj
        match j, hj with
        | 0, hj => simp at hj; subst hj; simp [go_sem, c1]
        | 1, hj => simp at hj; subst hj; simp [go_sem, c2]
        | j + 2, hj => simp at hj
end Go.Proofs.YtdikjmhnjlalbabGreat.snd
