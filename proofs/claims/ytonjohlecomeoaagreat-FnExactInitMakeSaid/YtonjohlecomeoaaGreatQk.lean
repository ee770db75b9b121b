/- Several small texts, one behind the other. -/
import Derived.Test.YtonjohlecomeoaaGreatSdpq
import Derived.Test.YtonjohlecomeoaaGreatQd
import Derived.BigRegion
import Derived.RegionTactic
import Derived.Test.YtonjohlecomeoaaGreatQb
import Derived.Lib.SmallJoins
import Derived.Test.YtonjohlecomeoaaGreatQe

/- Contracts of the model's l02Deep at every depth, TermRight, DeepOf. -/
namespace Go.Proofs.YtonjohlecomeoaaGreat.srt
open Go.RowKit Go.Proofs.YtonjohlecomeoaaGreat.tm Go.Proofs.YtonjohlecomeoaaGreat.lib Go.Proofs.YtonjohlecomeoaaGreat.rdr Go.Proofs.YtonjohlecomeoaaGreat.bld Go.Proofs.YtonjohlecomeoaaGreat.app Go.Proofs.YtonjohlecomeoaaGreat.spm Go.Proofs.YtonjohlecomeoaaGreat.sar Go.Proofs.YtonjohlecomeoaaGreat.sdp
set_option linter.unusedVariables false

theorem sd_all : ∀ n, 1 ≤ n → n ≤ 24 → SD n
  | 0, h, _ => by omega
  | 1, h, _ => fun t ht w => sd_plain 1 h (by omega) t ht (.inr (.inr rfl)) w
  | n + 2, h, h2 => by
    intro t ht w
    have ih := sd_all (n + 1) (by omega) (by omega)
    by_cases ha : atomR t.data.toList = true
    · exact sd_plain (n + 2) h h2 t ht (.inl ha) w
    have ha' : atomR t.data.toList = false := by simpa using ha
    cases hg : args t.data.toList with
    | none => exact sd_plain (n + 2) h h2 t ht (.inr (.inl hg)) w
    | some a =>
      obtain ⟨op, ks, rfl, _⟩ := args_say hg
      by_cases hm : many op = 0 ∨ ks.length ≠ many op
      · exact sd_shape (n + 1) (by omega) (by omega) t ht ha' op ks hg hm w
      · have hm1 : many op ≠ 0 := fun e => hm (.inl e)
        have hm2 : ks.length = many op := Decidable.not_not.1 fun e => hm (.inr e)
        rcases many_cases op with h0 | ⟨h1, hop⟩ | ⟨h1, hop⟩
        · exact absurd h0 hm1
        · rw [h1] at hm2
          match ks, hm2 with
          | [x], _ =>
            rcases hop with rfl | rfl
            · refine sd_one (n + 1) (by omega) (by omega) ih t ht ha' oHash x hg rfl false rfl _ ?_ rfl w
              by_cases hx : dz (n + 1) x = 0
              · exact .inl ⟨hx, dz_mk_none ha' hg (mk_zero (x := x) (by simp) hx)⟩
              · exact .inr (.inr ⟨hx, (by intro e; cases e), dz_mk_some ha' hg (mk_hash hx)⟩)
            · refine sd_one (n + 1) (by omega) (by omega) ih t ht ha' oPub x hg rfl true rfl _ ?_ rfl w
              by_cases hx : dz (n + 1) x = 0
              · exact .inl ⟨hx, dz_mk_none ha' hg (mk_zero (x := x) (by simp) hx)⟩
              · by_cases hx2 : 2 ≤ dz (n + 1) x
                · exact .inr (.inl ⟨hx, rfl, hx2, dz_mk_none ha' hg (mk_pub_no hx2)⟩)
                · have hx1 : dz (n + 1) x = 1 := by omega
                  exact .inr (.inr ⟨hx, fun _ => hx1, by rw [dz_mk_some ha' hg (mk_pub_yes hx1), hx1]⟩)
        · rw [h1] at hm2
          match ks, hm2 with
          | [x, y], _ =>
            by_cases hdh : op = oDh
            · subst hdh
              refine sd_dh (n + 1) (by omega) (by omega) ih t ht ha' x y hg _ ?_ w
              by_cases hx : dz (n + 1) x = 0
              · exact .inl ⟨.inl hx, dz_mk_none ha' hg (mk_zero (x := x) (by simp) hx)⟩
              by_cases hx2 : 2 ≤ dz (n + 1) x
              · exact .inl ⟨.inr hx2, dz_mk_none ha' hg (mk_dh_no (.inl hx2))⟩
              have hx1 : dz (n + 1) x = 1 := by omega
              by_cases hy : dz (n + 1) y = 0
              · exact .inr (.inl ⟨hx1, .inl hy, dz_mk_none ha' hg (mk_zero (x := y) (by simp) hy)⟩)
              by_cases hy2 : 2 ≤ dz (n + 1) y
              · exact .inr (.inl ⟨hx1, .inr hy2, dz_mk_none ha' hg (mk_dh_no (.inr hy2))⟩)
              have hy1 : dz (n + 1) y = 1 := by omega
              cases hgt : gt x y
              · exact .inr (.inr (.inr ⟨hx1, hy1, rfl, dz_mk_some ha' hg ((mk_dh hx1 hy1).1 hgt)⟩))
              · exact .inr (.inr (.inl ⟨hx1, hy1, rfl, dz_mk_none ha' hg ((mk_dh hx1 hy1).2 hgt)⟩))
            · have hop3 : op = oPair ∨ op = oMac ∨ op = oShut := by
                rcases hop with h | h | h | h
                · exact .inl h
                · exact .inr (.inl h)
                · exact .inr (.inr h)
                · exact absurd h hdh
              have hs : secret op = false := by rcases hop3 with rfl | rfl | rfl <;> rfl
              refine sd_two (n + 1) (by omega) (by omega) ih t ht ha' op x y hg h1 hs (by rw [beq_eq_false_iff_ne]; exact hdh) _ ?_ w
              by_cases hx : dz (n + 1) x = 0
              · exact .inl ⟨hx, dz_mk_none ha' hg (mk_zero (x := x) (by simp) hx)⟩
              by_cases hy : dz (n + 1) y = 0
              · exact .inr (.inl ⟨hx, hy, dz_mk_none ha' hg (mk_zero (x := y) (by simp) hy)⟩)
              · exact .inr (.inr ⟨hx, hy, dz_mk_some ha' hg (mk_pms hop3 hx hy)⟩)

/-- How deep: of what is not right 0. -/
def deepT (l : Bs) : Nat := match term l with | some T => T.deep | none => 0

theorem deepT_small {l : Bs} (h : l.length ≤ 3000) : deepT l = dz 24 l := by
  have e : term l = pz 24 l := by unfold term; rw [if_pos h]
  unfold deepT dz
  rw [e]
  cases pz 24 l <;> rfl
theorem deepT_big {l : Bs} (h : ¬ l.length ≤ 3000) : deepT l = 0 ∧ term l = none := by
  have : term l = none := by unfold term; rw [if_neg h]
  exact ⟨by unfold deepT; rw [this], this⟩
theorem term_isSome (l : Bs) : (term l).isSome = decide (0 < deepT l) := by
  unfold deepT
  cases h : term l with
  | none => rfl
  | some T => have := deep_pos T; simp; omega

set_option maxRecDepth 100000 in
theorem specTermRight_calls (s : ByteArray) (hs : s.size ≤ maxLen) (w : World) :
    Calls Tryz.prog 40 #[.string s] w fun e w' => e = .returned (.bool (term s.data.toList).isSome) ∧ Below w.heap.size w w' := by
  unfold maxLen at hs
  by_cases hbig : 3000 < s.size
  · have d0 : decide ((s.size : Int) ≤ 3000) = false := by simp; omega
    rw [(deepT_big (l := s.data.toList) (by show ¬ s.size ≤ 3000; omega)).2]
    go_enter Tryz.func40, Tryz.ntmps40
    go_wp2_with fail
    go_ret
    exact ⟨rfl, Below.refl _ _⟩
  · have d0 : decide ((s.size : Int) ≤ 3000) = true := by simp; omega
    have e0 := term_isSome s.data.toList
    rw [deepT_small (show s.data.toList.length ≤ 3000 by show s.size ≤ 3000; omega)] at e0
    rw [e0]
    have c1 := sd_all 24 (by omega) (by omega) s (by omega)
    obtain ⟨d, hd⟩ : ∃ d, dz 24 s.data.toList = d := ⟨_, rfl⟩
    rw [hd] at c1 ⊢
    clear hd e0
    go_enter Tryz.func40, Tryz.ntmps40
    go_wp2_with (go_at_call 94; refine (c1 _).mono ?_; rintro e w1 ⟨rfl, hb⟩)
    go_ret
    exact ⟨ret_bool (by simp), hb⟩

end Go.Proofs.YtonjohlecomeoaaGreat.srt

/- Contract of the model's l02Node. -/
namespace Go.Proofs.YtonjohlecomeoaaGreat.snd
open Go.RowKit Go.Proofs.YtonjohlecomeoaaGreat.tm Go.Proofs.YtonjohlecomeoaaGreat.lib Go.Proofs.YtonjohlecomeoaaGreat.rdr Go.Proofs.YtonjohlecomeoaaGreat.bld Go.Proofs.YtonjohlecomeoaaGreat.app Go.Proofs.YtonjohlecomeoaaGreat.spm Go.Proofs.YtonjohlecomeoaaGreat.sar Go.Proofs.YtonjohlecomeoaaGreat.sdp
set_option linter.unusedVariables false

/-- A slice of texts, somewhere from block B on. -/
def Txs (w : World) (B : Nat) (v : Value) (ls : List Bs) : Prop := ∃ g off cap, v = .slice (some ⟨g, off, none⟩) ls.length cap ∧ B ≤ g ∧ g < w.heap.size ∧ ls.length ≤ cap ∧ ∀ j l, ls[j]? = some l → w.cell? ⟨g, off + j, none⟩ = some (str l)

/-- The args of a node: of an atom it alone. -/
def nodeArgs (T : Tm) : List Bs := if T.isAtom then [T.tx] else T.kids.map Tm.tx

theorem atom_first {T : Tm} (hT : T.ok) (h : T.isAtom = true) : ∃ (s0 : UInt8) (r : Bs), T.tx = s0 :: r ∧ s0 ≠ 91 := by
  match T, h, hT with
  | .atom a, _, hT =>
    cases a with
    | nil => have := atomR_ne (show atomR [] = true from hT); exact absurd rfl this
    | cons c r =>
      refine ⟨c, r, rfl, ?_⟩
      have := atomR_all (show atomR (c :: r) = true from hT)
      simp at this
      rintro rfl
      exact absurd this.1 (by decide)

theorem byte0 {s : ByteArray} {c : UInt8} {r : Bs} (h : s.data.toList = c :: r) : ∃ hp : 0 < s.size, s[0] = c := by
  have hp : 0 < s.size := by
    have := congrArg List.length h
    have e : s.data.toList.length = s.size := rfl
    rw [e] at this
    simp at this
    omega
  refine ⟨hp, ?_⟩
  have := drop_lt s 0 hp
  rw [List.drop_zero, h] at this
  exact (List.cons.inj this).1.symm

set_option maxHeartbeats 1000000 in
set_option maxRecDepth 100000 in
theorem node_calls (s : ByteArray) (T : Tm) (hT : T.ok) (hs : s.size ≤ 3000) (he : T.tx = s.data.toList) (w : World) :
    Calls Tryz.prog 88 #[.string s] w fun e w' => ∃ v, e = .returned (.agg #[str T.op, v]) ∧ Below w.heap.size w w' ∧ Txs w' w.heap.size v (nodeArgs T) := by
  cases hn : T.isAtom with
  | true =>
    obtain ⟨c, r, h1, h2⟩ := atom_first hT hn
    obtain ⟨hp, h0⟩ := byte0 (he ▸ h1 : s.data.toList = c :: r)
    have d0 : ((s[0].toNat : Int) != 91) = true := by
      rw [h0]; simp; intro e; exact h2 (UInt8.toNat_inj.1 (by show _ = 91; omega))
    have hop : T.op = [] := by cases T <;> first | rfl | (simp [Tm.isAtom] at hn)
    have hna : nodeArgs T = [s.data.toList] := by unfold nodeArgs; rw [hn, if_pos rfl, he]
    rw [hop, hna]
    clear h0 h1 h2 hop hna hn he hT
    go_enter Tryz.func88, Tryz.ntmps88
    go_wp2_with fail
    refine bodyPost_ret (v := .agg #[.string ⟨#[]⟩, .slice (some ⟨w.heap.size + 1, 0, none⟩) 1 1]) (by simp [results, Tryz.results88, go_sem]) rfl ⟨_, rfl, ?_, _, _, _, rfl, ?_, ?_, ?_, ?_⟩
    · exact ((Below.refl _ _).alloc (Nat.le_refl _) _).alloc (by simp) _
    · simp
    · simp
    · simp
    · intro j l hj
      match j, hj with
      | 0, hj => simp at hj; subst hj; simp [go_sem]
      | j + 1, hj => simp at hj
  | false =>
    have ha := args_tx hT hn
    rw [he] at ha
    have hna : nodeArgs T = T.kids.map Tm.tx := by unfold nodeArgs; rw [hn]; rfl
    obtain ⟨ks, hks⟩ : ∃ ks, ks = T.kids.map Tm.tx := ⟨_, rfl⟩
    obtain ⟨op, hop⟩ : ∃ op, op = T.op := ⟨_, rfl⟩
    have h3 : (∃ x, ks = [x]) ∨ (∃ x y, ks = [x, y]) := by
      rw [hks]
      cases T with
      | atom a => cases hn
      | pair x y => exact .inr ⟨_, _, rfl⟩
      | hash x => exact .inl ⟨_, rfl⟩
      | mac x y => exact .inr ⟨_, _, rfl⟩
      | shut x y => exact .inr ⟨_, _, rfl⟩
      | pub a => exact .inl ⟨_, rfl⟩
      | dh a b => exact .inr ⟨_, _, rfl⟩
    have h0 : ∃ r, s.data.toList = 91 :: r := by rw [← he, tx_say T hn]; exact ⟨_, rfl⟩
    obtain ⟨r, hr⟩ := h0
    obtain ⟨hp, h0⟩ := byte0 hr
    have d0 : ((s[0].toNat : Int) != 91) = false := by rw [h0]; rfl
    rw [hna]
    rw [← hks] at ha ⊢
    rw [← hop] at ha ⊢
    have HA := Lib.hid ha
    clear hr h0 hna hn he hT ha hop hks
    go_enter Tryz.func88, Tryz.ntmps88
    go_wp2_with fail
    refine (args_calls s hs _).mono ?_
    rintro e w1 ⟨v, hb, hk⟩
    have HB := Lib.hid hb
    rcases hk with ⟨hk, rfl⟩ | ⟨a, hk, rfl, ho⟩
    · rw [HA.out] at hk; cases hk
    rw [HA.out] at hk
    cases hk
    have hcap := ho
    obtain ⟨g, cap, rfl, c0, c1, c2, hg⟩ := Strs.cons ho
    obtain ⟨k0, k1, f0, f1, hz⟩ := two (clo.new_kept hb)
    have hgb : w.heap.size < g := by
      have := (World.ownsRow.lt ho g rfl).1
      simp at this
      omega
    have hcap2 : ks.length + 1 ≤ cap := by
      obtain ⟨_, hh⟩ := ho
      rcases hh with ⟨h1, _⟩ | ⟨g', cap', cur, h1, _, _, h2, _⟩
      · cases h1
      · cases h1; simpa using h2
    rcases h3 with ⟨x, rfl⟩ | ⟨x, y, rfl⟩
    · have c1 := c1 x rfl
      simp only [List.length_cons, List.length_nil] at hcap2
      clear hb ho hcap c2
      go_wp2_with fail
      go_region
      all_goals go_wp2_with fail
      refine bodyPost_ret (v := .agg #[str op, .slice (some ⟨g, 1, none⟩) 1 (cap - 1)]) (by simp [results, Tryz.results88, go_sem, k0, k1]) rfl ⟨_, rfl, ?_, g, 1, cap - 1, rfl, by omega, ?_, ?_, ?_⟩
      · exact (((((Below.refl _ _).alloc (Nat.le_refl _) _).trans (HB.out.mono (by simp))).setCell (by simp) _).setCell (by simp) _).drew
      · simp [World.setCell]; exact hg
      · simp; omega
      · have hne : ¬ (g = w.heap.size) := by omega
        intro j l hj
        match j, hj with
        | 0, hj => simp at hj; subst hj; simp [go_sem, c1]
        | j + 1, hj => simp at hj
    · have c1 := c1 x rfl
      have c2 := c2 y rfl
      simp only [List.length_cons, List.length_nil] at hcap2
      clear hb ho hcap
      go_wp2_with fail
      go_region
      all_goals go_wp2_with fail
      refine bodyPost_ret (v := .agg #[str op, .slice (some ⟨g, 1, none⟩) 2 (cap - 1)]) (by simp [results, Tryz.results88, go_sem, k0, k1]) rfl ⟨_, rfl, ?_, g, 1, cap - 1, rfl, by omega, ?_, ?_, ?_⟩
      · exact (((((Below.refl _ _).alloc (Nat.le_refl _) _).trans (HB.out.mono (by simp))).setCell (by simp) _).setCell (by simp) _).drew
      · simp [World.setCell]; exact hg
      · simp; omega
      · have hne : ¬ (g = w.heap.size) := by omega
        intro j l hj
        match j, hj with
        | 0, hj => simp at hj; subst hj; simp [go_sem, c1]
        | 1, hj => simp at hj; subst hj; simp [go_sem, c2]
        | j + 2, hj => simp at hj
end Go.Proofs.YtonjohlecomeoaaGreat.snd

/- TermRight of the model at texts. -/
namespace Go.Proofs.YtonjohlecomeoaaGreat.sop
open Go.RowKit Go.Proofs.YtonjohlecomeoaaGreat.tm Go.Proofs.YtonjohlecomeoaaGreat.lib Go.Proofs.YtonjohlecomeoaaGreat.rdr Go.Proofs.YtonjohlecomeoaaGreat.bld Go.Proofs.YtonjohlecomeoaaGreat.app
set_option linter.unusedVariables false

theorem right_at (l : Bs) (b : Bool) (h : (term l).isSome = b) (hl : l.length ≤ 8000) (w : World) :
    Calls Tryz.prog 40 #[str l] w fun e w' => e = .returned (.bool b) ∧ Below w.heap.size w w' := by
  have := srt.specTermRight_calls ⟨l.toArray⟩ (by unfold maxLen; show l.toArray.size ≤ _; simp; omega) w
  rw [show (term (⟨l.toArray⟩ : ByteArray).data.toList).isSome = b from h] at this
  exact this

end Go.Proofs.YtonjohlecomeoaaGreat.sop

/- What Open answers, and what leans on it; TermRight and l02Node of the model at texts. -/
namespace Go.Proofs.YtonjohlecomeoaaGreat.sop
open Go.RowKit Go.Proofs.YtonjohlecomeoaaGreat.tm Go.Proofs.YtonjohlecomeoaaGreat.lib Go.Proofs.YtonjohlecomeoaaGreat.rdr Go.Proofs.YtonjohlecomeoaaGreat.bld Go.Proofs.YtonjohlecomeoaaGreat.app Go.Proofs.YtonjohlecomeoaaGreat.snd
set_option linter.unusedVariables false

/-- What Open answers: the text, and the code. -/
inductive OpenR (key t : Bs) : Bs → Int → Prop
  | size (h : 8000 < key.length ∨ 8000 < t.length) : OpenR key t [] 2
  | form (h1 : key.length ≤ 8000) (h2 : t.length ≤ 8000) (h : term key = none ∨ term t = none) : OpenR key t [] 1
  | other (h1 : key.length ≤ 8000) (h2 : t.length ≤ 8000) (K T : Tm) (hK : term key = some K) (hT : term t = some T) (h : T.op ≠ oShut) : OpenR key t [] 6
  | none (h1 : key.length ≤ 8000) (h2 : t.length ≤ 8000) (K k x : Tm) (hK : term key = some K) (hT : term t = some (.shut k x)) (h : k.tx ≠ key) : OpenR key t [] 6
  | some (h1 : key.length ≤ 8000) (h2 : t.length ≤ 8000) (K k x : Tm) (hK : term key = some K) (hT : term t = some (.shut k x)) (h : k.tx = key) : OpenR key t x.tx 0

theorem open_total (key t : Bs) : ∃ r c, OpenR key t r c := by
  by_cases hs : 8000 < key.length ∨ 8000 < t.length
  · exact ⟨_, _, .size hs⟩
  have h1 : key.length ≤ 8000 := by omega
  have h2 : t.length ≤ 8000 := by omega
  cases hK : term key with
  | none => exact ⟨_, _, .form h1 h2 (.inl hK)⟩
  | some K =>
    cases hT : term t with
    | none => exact ⟨_, _, .form h1 h2 (.inr hT)⟩
    | some T =>
      by_cases ho : T.op = oShut
      · cases T with
        | shut k x =>
          by_cases hk : k.tx = key
          · exact ⟨_, _, .some h1 h2 K k x hK hT hk⟩
          · exact ⟨_, _, .none h1 h2 K k x hK hT hk⟩
        | _ => simp [Tm.op, oShut, oPair, oHash, oMac, oPub, oDh] at ho
      · exact ⟨_, _, .other h1 h2 K T hK hT ho⟩

theorem node_at (l : Bs) (T : Tm) (h : term l = some T) (w : World) :
    Calls Tryz.prog 88 #[str l] w fun e w' => ∃ v, e = .returned (.agg #[str T.op, v]) ∧ Below w.heap.size w w' ∧ Txs w' w.heap.size v (nodeArgs T) := by
  obtain ⟨a, b, c, d⟩ := term_some.1 h
  exact node_calls ⟨l.toArray⟩ T b (by show l.toArray.size ≤ 3000; simpa using a) d w

theorem Txs.two {w : World} {B : Nat} {v : Value} {a b : Bs} (h : Txs w B v [a, b]) :
    ∃ g off cap, v = .slice (some ⟨g, off, none⟩) 2 cap ∧ B ≤ g ∧ g < w.heap.size ∧ w.cell? ⟨g, off, none⟩ = some (str a) ∧ w.cell? ⟨g, off + 1, none⟩ = some (str b) := by
  obtain ⟨g, off, cap, e, h1, h2, h3, h4⟩ := h
  exact ⟨g, off, cap, e, h1, h2, h4 0 a rfl, h4 1 b rfl⟩

end Go.Proofs.YtonjohlecomeoaaGreat.sop

/- What FnTerm leans on, as plain mathematics: what was made is taken apart again; a secret and a lock, either way round; what was shut is opened. -/
namespace Go.Proofs.YtonjohlecomeoaaGreat.trp
open Go.RowKit Go.Proofs.YtonjohlecomeoaaGreat.tm Go.Proofs.YtonjohlecomeoaaGreat.spm Go.Proofs.YtonjohlecomeoaaGreat.snd Go.Proofs.YtonjohlecomeoaaGreat.sop Go.Proofs.YtonjohlecomeoaaGreat.mkp Go.Proofs.YtonjohlecomeoaaGreat.dhs
set_option linter.unusedVariables false

theorem terms_ok : ∀ (l : List Bs) (Ts : List Tm), terms l = some Ts → (∀ k ∈ Ts, k.ok) ∧ Ts.map Tm.tx = l
  | [], Ts, h => by simp [terms] at h; subst h; simp
  | a :: l, Ts, h => by
    rw [terms_cons] at h
    cases ha : term a with
    | none => rw [ha] at h; cases h
    | some T =>
      rw [ha] at h
      cases hl : terms l with
      | none => rw [hl] at h; cases h
      | some Us =>
        rw [hl] at h
        cases h
        obtain ⟨h1, h2⟩ := terms_ok l Us hl
        obtain ⟨_, h3, _, h4⟩ := term_some.1 ha
        refine ⟨fun k hk => ?_, by rw [List.map_cons, h2, h4]⟩
        rcases List.mem_cons.1 hk with rfl | hk
        · exact h3
        · exact h1 k hk

/-- What was made is taken apart again. -/
theorem made_back {op : Bs} {args : List Bs} {t : Bs} (h : makeR op args = (t, 0)) : ∃ T, term t = some T ∧ T.op = op ∧ nodeArgs T = sortedR op args := by
  have h1 : args.length ≤ 400 ∧ op.length ≤ 8000 := by
    unfold makeR at h
    split at h
    · cases h
    · omega
  rw [← make_eq op args h1.1 h1.2] at h
  unfold implR at h
  cases ht : terms (sortedR op args) with
  | none => rw [ht] at h; cases h
  | some Ts =>
    rw [ht] at h
    simp only at h
    cases hb : build op Ts with
    | none => rw [hb] at h; cases h
    | some T =>
      rw [hb] at h
      simp only at h
      split at h
      · rename_i hc
        cases h
        obtain ⟨b1, b2, b3, b4⟩ := build_some hb
        obtain ⟨k1, k2⟩ := terms_ok _ _ ht
        have hok : T.ok := (ok_iff T b1).2 ⟨by rw [b3]; exact k1, b4⟩
        refine ⟨T, term_some.2 ⟨hc.1, hok, hc.2, rfl⟩, b2, ?_⟩
        unfold nodeArgs
        rw [b1, b3, k2]
        rfl
      · cases h

theorem dhS_sym (x y : Bs) : dhS x y = dhS y x := by
  unfold dhS
  cases h1 : gt x y with
  | true => rw [gt_back h1]; rfl
  | false =>
    cases h2 : gt y x with
    | true => rfl
    | false =>
      rw [gt_lt] at h1 h2
      have h1 : ¬ y < x := by simpa using h1
      have h2 : ¬ x < y := by simpa using h2
      rcases ato.lt_or x y with h | h | h
      · exact absurd h h2
      · rw [h]
      · exact absurd h h1

/-- The lock of a secret. -/
theorem lock_of {s : Bs} (h : atomR s = true) : makeR oPub [s] = (say oPub [s], 0) ∧ term (say oPub [s]) = some (.pub s) := by
  have hl := atomR_len h
  have ht : term (say oPub [s]) = some (.pub s) := term_some.2 ⟨by simp [say, oPub]; omega, h, by simp [Tm.deep], rfl⟩
  refine ⟨?_, ht⟩
  rw [smk.makeR_args (by simp) (by decide) (by decide) (by show 1 = many oPub; decide)]
  have e : rights oPub s = true := by unfold rights; rw [term_atom h, h]; simp
  have hm : madeT oPub [s] = say oPub [s] := by unfold madeT; rw [if_neg (by decide)]
  simp only [List.all_cons, List.all_nil, e, Bool.and_self, if_true, hm]
  unfold finR
  rw [ht]
  rfl

/-- What a secret and a lock make, the other one and the first one's lock make. -/
theorem dh_round {s p d : Bs} (h : DhR s p d 0) : ∃ y, term p = some (.pub y) ∧ DhR y (say oPub [s]) d 0 := by
  cases h with
  | pub h1 h2 ha y hT =>
    have hy : atomR y = true := (term_some.1 hT).2.1
    refine ⟨y, hT, ?_⟩
    rw [dhS_sym]
    have l1 := atomR_len hy
    have l2 := atomR_len ha
    exact .pub (by omega) (by simp [say, oPub]; omega) hy s (lock_of ha).2

/-- What was shut is opened by its key. -/
theorem shut_back {key a c : Bs} (h : makeR oShut [key, a] = (c, 0)) : OpenR key c a 0 := by
  obtain ⟨T, hT, ho, hk⟩ := made_back h
  have hs : sortedR oShut [key, a] = [key, a] := by unfold sortedR; rw [if_neg (by decide)]
  rw [hs] at hk
  cases T with
  | shut K A =>
    simp only [nodeArgs, Tm.isAtom, Tm.kids, List.map_cons, List.map_nil, Bool.false_eq_true, if_false, List.cons.injEq, and_true] at hk
    obtain ⟨hK, hA⟩ := hk
    obtain ⟨h1, h2, h3, h4⟩ := term_some.1 hT
    have hl : key.length ≤ 3000 := by
      have : (Tm.shut K A).tx.length ≤ 3000 := by rw [h4]; exact h1
      simp [Tm.tx, say] at this
      rw [← hK]
      omega
    have hKt : term key = some K := term_some.2 ⟨hl, h2.1, by simp [Tm.deep] at h3; omega, hK⟩
    rw [← hA]
    exact .some (by omega) (by omega) K K A hKt hT hK
  | _ => simp [Tm.op, oShut, oPair, oHash, oMac, oPub, oDh] at ho
end Go.Proofs.YtonjohlecomeoaaGreat.trp

/- Chapter 7 as plain functions: Mix; the letters that are made, what is read of them, the keys. -/
namespace Go.Proofs.YtonjohlecomeoaaGreat.hdp
open Go Go.RowKit Go.Proofs.YtonjohlecomeoaaGreat.tm Go.Proofs.YtonjohlecomeoaaGreat.spm Go.Proofs.YtonjohlecomeoaaGreat.mkp Go.Proofs.YtonjohlecomeoaaGreat.ltq Go.Proofs.YtonjohlecomeoaaGreat.ltv Go.Proofs.YtonjohlecomeoaaGreat.ltp Go.Proofs.YtonjohlecomeoaaGreat.trp Go.Proofs.YtonjohlecomeoaaGreat.sop Go.Proofs.YtonjohlecomeoaaGreat.dhs
set_option linter.unusedVariables false

theorem shut_made {c t : Bs} (hc : Txt c) (ht : Txt t) : (makeR oShut [if okT c then c else [], t]).1 = if okT (say oShut [c, t]) then say oShut [c, t] else [] := by
  rw [made_two _ _ _ (.inr (.inr rfl))]
  obtain ⟨C, c1, rfl⟩ := hc
  obtain ⟨T, t1, rfl⟩ := ht
  cases h : okT (say oShut [C.tx, T.tx]) with
  | true =>
    obtain ⟨h1, h2⟩ := pair_right c1 t1 (.inr (.inr rfl)) h
    simp [h1, h2, h]
  | false =>
    cases h1 : okT C.tx with
    | true => simp [h]
    | false => simp [okT_nil]

/-- A lock, and whose it is. -/
def lockS (t : Bs) : Option Bs := match term t with
  | some (.pub s) => some s
  | _ => none
theorem lockS_some {t s : Bs} : lockS t = some s ↔ term t = some (.pub s) := by
  unfold lockS
  constructor
  · intro h
    split at h
    · cases h; assumption
    · cases h
  · intro h
    rw [h]
theorem lock_tx {t s : Bs} (h : lockS t = some s) : t = say oPub [s] ∧ atomR s = true ∧ okT t = true := by
  have h := lockS_some.1 h
  obtain ⟨h1, h2, _, h4⟩ := term_some.1 h
  exact ⟨h4.symm, h2, by unfold okT; rw [h]; rfl⟩
theorem lockS_pub {s : Bs} (h : atomR s = true) : lockS (say oPub [s]) = some s := lockS_some.2 (lock_of h).2
theorem lock_len {t s : Bs} (h : lockS t = some s) : t.length ≤ 14 := by
  obtain ⟨h1, h2, _⟩ := lock_tx h
  have := atomR_len h2
  rw [h1]
  simp [say, oPub]
  omega
theorem pub_okT {s : Bs} (h : atomR s = true) : okT (say oPub [s]) = true := by unfold okT; rw [(lock_of h).2]; rfl
theorem atom_okT {s : Bs} (h : atomR s = true) : okT s = true := by unfold okT; rw [term_atom h]; rfl
theorem pub_Txt {s : Bs} (h : atomR s = true) : Txt (say oPub [s]) := .of (pub_okT h)
theorem dh_Txt {x y : Bs} (h : atomR x = true) (k : atomR y = true) : Txt (dhS x y) := .of (dhS_right x y h k)

/-- What Dh answers of a lock. -/
theorem dhR_of {x p s : Bs} (hx : atomR x = true) (h : lockS p = some s) : DhR x p (dhS x s) 0 := by
  have l1 := atomR_len hx
  have l2 := lock_len h
  exact .pub (by omega) (by omega) hx s (lockS_some.1 h)

structure Hd where
  m : Lt
  peer : Bs
  stamp : Bs
  eph : Bs
  chain : Bs
  send : Bs
  hear : Bs
  key : Bs
  code : Int

def ill (c : Int) : Hd := ⟨none0, [], [], [], [], [], [], [], c⟩

def ic1 (lock eph : Bs) : Bs := mixT (say oHash [lock]) (say oPub [eph])
def ic2 (lock eph s : Bs) : Bs := mixT (ic1 lock eph) (dhS eph s)
def ic3 (lock eph me s : Bs) : Bs := mixT (ic2 lock eph s) (dhS me s)
def initL (f : Int) (me lock eph stamp s : Bs) : Lt := ⟨1, f, 0, 0, [say oPub [eph], say oShut [ic2 lock eph s, say oPub [me]], say oShut [ic3 lock eph me s, stamp]], [], []⟩
def initMade (L : Lt) (y : Lt × Int) (eph c3 : Bs) : Hd := if right L && decide (y.2 = 0) then ⟨y.1, [], [], eph, c3, [], [], [], 0⟩ else ill 9
def initR (f : Int) (me lock eph stamp : Bs) : Hd :=
  if 8000 < me.length ∨ 8000 < lock.length ∨ 8000 < eph.length ∨ 8000 < stamp.length then ill 2
  else match lockS lock with
    | none => ill 1
    | some s =>
      if endR f && atomR me && atomR eph && okT stamp then initMade (initL f me lock eph stamp s) (signR (initL f me lock eph stamp s) lock) eph (ic3 lock eph me s)
      else ill 1

def okA : Bs := [111, 107]
def oneA : Bs := [111, 110, 101]
def twoA : Bs := [116, 119, 111]

/-- What is in a part that was shut with that key. -/
def inside (key t : Bs) : Option Bs := match term t with
  | some (.shut k x) => if k.tx = key then some x.tx else none
  | _ => none

def rc1 (me e : Bs) : Bs := mixT (say oHash [say oPub [me]]) e
def rc2 (me e x : Bs) : Bs := mixT (rc1 me e) (dhS me x)
def rc3 (me e x p : Bs) : Bs := mixT (rc2 me e x) (dhS me p)
def partAt (m : Lt) (i : Nat) : Bs := m.ps.getD i []
def readR (me : Bs) (m : Lt) : Hd :=
  if 8000 < me.length then ill 2
  else if atomR me && right m && decide (m.k = 1) then
    match lockS (partAt m 0) with
    | none => ill 3
    | some x => match inside (rc2 me (partAt m 0) x) (partAt m 1) with
      | none => ill 5
      | some p => match lockS p with
        | none => ill 5
        | some y => match inside (rc3 me (partAt m 0) x y) (partAt m 2) with
          | none => ill 5
          | some st => ⟨none0, p, st, partAt m 0, rc3 me (partAt m 0) x y, [], [], [], 0⟩
  else ill 1

/-- What is mixed in the end. -/
def c6T (chain lock byEph byMe : Bs) : Bs := mixT (mixT (mixT chain lock) byEph) byMe
def respL (f t : Int) (eph c6 : Bs) : Lt := ⟨2, f, t, 0, [say oPub [eph], say oShut [c6, okA]], [], []⟩
def respMade (L : Lt) (y : Lt × Int) (c6 : Bs) : Hd :=
  if right L && decide (y.2 = 0) && okT (mixT c6 twoA) then ⟨y.1, [], [], [], c6, mixT c6 twoA, mixT c6 oneA, c6, 0⟩ else ill 9
def respR (f t : Int) (eph peer theirs chain lock : Bs) : Hd :=
  if 8000 < eph.length ∨ 8000 < peer.length ∨ 8000 < theirs.length ∨ 8000 < chain.length ∨ 8000 < lock.length then ill 2
  else match lockS peer, lockS theirs, lockS lock with
    | some p, some x, some _ =>
      if endR f && endR t && atomR eph && okT chain then
        respMade (respL f t eph (c6T chain (say oPub [eph]) (dhS eph x) (dhS eph p))) (signR (respL f t eph (c6T chain (say oPub [eph]) (dhS eph x) (dhS eph p))) peer) (c6T chain (say oPub [eph]) (dhS eph x) (dhS eph p))
      else ill 1
    | _, _, _ => ill 1

def heardR (c6 part : Bs) : Hd :=
  if part = say oShut [c6, okA] then (if okT (mixT c6 oneA) then ⟨none0, [], [], [], c6, mixT c6 oneA, mixT c6 twoA, c6, 0⟩ else ill 9) else ill 5
def hearR (me eph chain : Bs) (m : Lt) : Hd :=
  if 8000 < me.length ∨ 8000 < eph.length ∨ 8000 < chain.length then ill 2
  else if atomR me && atomR eph && okT chain && right m && decide (m.k = 2) then
    match lockS (partAt m 0) with
    | none => ill 3
    | some x => heardR (c6T chain (partAt m 0) (dhS eph x) (dhS me x)) (partAt m 1)
  else ill 1

/-! ### what is right of it -/
theorem c6_Txt {chain lock a b : Bs} (hc : Txt chain) (hl : Txt lock) (ha : Txt a) (hb : Txt b) : Txt (c6T chain lock a b) := ((hc.mix hl).mix ha).mix hb

/-- .. as the program mixes it. -/
theorem c6_made {chain lock a b : Bs} (hc : Txt chain) (hl : Txt lock) (ha : Txt a) (hb : Txt b) :
    mixR (mixR (mixR chain lock) a) b = if okT (c6T chain lock a b) then c6T chain lock a b else [] := by
  rw [mixR_eq hc hl, mixR_on (hc.mix hl) ha, mixR_on ((hc.mix hl).mix ha) hb]
  rfl

theorem small_hash (C : Tm) (h : C.ok) (hl : C.tx.length ≤ 2000) (hd : C.deep ≤ 20) : okT (say oHash [C.tx]) = true := by
  rw [show say oHash [C.tx] = (Tm.hash C).tx from rfl, okT_tx (T := .hash C) h]
  simp [Tm.tx, Tm.deep, say, oHash]
  omega
theorem small_mix {C T : Tm} (hC : C.ok) (hT : T.ok) (h1 : C.tx.length ≤ 1000) (h2 : T.tx.length ≤ 1000) (h3 : C.deep ≤ 20) (h4 : T.deep ≤ 20) : okT (mixT C.tx T.tx) = true := by
  rw [show mixT C.tx T.tx = (Tm.hash (.pair C T)).tx from rfl, okT_tx (T := .hash (.pair C T)) ⟨hC, hT⟩]
  simp [Tm.tx, Tm.deep, say, oHash, oPair]
  omega
theorem dh_tm {x y : Bs} (h : atomR x = true) (k : atomR y = true) : ∃ D : Tm, D.ok ∧ D.tx = dhS x y ∧ D.tx.length ≤ 22 ∧ D.deep = 2 := by
  obtain ⟨D, d1, d2, d3, d4⟩ := okT_some (dhS_right x y h k)
  have l1 := atomR_len h
  have l2 := atomR_len k
  unfold dhS at d2 ⊢
  split at d2 <;> rename_i hg
  · have e : D = .dh y x := tx_inj d1 (U := .dh y x) ⟨k, h, gt_back hg⟩ d2
    subst e
    exact ⟨_, d1, by rw [if_pos hg]; rfl, by simp [Tm.tx, say, oDh]; omega, rfl⟩
  · have e : D = .dh x y := tx_inj d1 (U := .dh x y) ⟨h, k, by simpa using hg⟩ d2
    subst e
    exact ⟨_, d1, by rw [if_neg hg]; rfl, by simp [Tm.tx, say, oDh]; omega, rfl⟩

/-- All that is mixed of locks alone is right. -/
theorem first_right {l e a b : Bs} {s x : Bs} (hl : lockS l = some s) (he : lockS e = some x) {u v u' v' : Bs} (hu : atomR u = true) (hv : atomR v = true) (hu' : atomR u' = true) (hv' : atomR v' = true) (ha : a = dhS u v) (hb : b = dhS u' v') :
    okT (say oHash [l]) = true ∧ okT (mixT (say oHash [l]) e) = true ∧ okT (mixT (mixT (say oHash [l]) e) a) = true ∧ okT (mixT (mixT (mixT (say oHash [l]) e) a) b) = true ∧ (mixT (mixT (mixT (say oHash [l]) e) a) b).length ≤ 200 := by
  subst ha hb
  obtain ⟨l1, l2, _⟩ := lock_tx hl
  obtain ⟨e1, e2, _⟩ := lock_tx he
  obtain ⟨A, a1, a2, a3, a4⟩ := dh_tm hu hv
  obtain ⟨B, b1, b2, b3, b4⟩ := dh_tm hu' hv'
  have ll := lock_len hl
  have le := lock_len he
  rw [l1] at ll ⊢
  rw [e1] at le ⊢
  rw [← a2, ← b2]
  have hL : (Tm.pub s).ok := l2
  have hE : (Tm.pub x).ok := e2
  have t0 : (Tm.pub s).tx.length ≤ 14 := ll
  have t1 : (Tm.pub x).tx.length ≤ 14 := le
  have m0 : (Tm.hash (.pub s)).tx.length ≤ 30 := by simp [Tm.tx, say, oHash] at t0 ⊢; omega
  have m1 : (Tm.hash (.pair (.hash (.pub s)) (.pub x))).tx.length ≤ 60 := by simp [Tm.tx, say, oHash, oPair] at m0 t1 ⊢; omega
  have m2 : (Tm.hash (.pair (.hash (.pair (.hash (.pub s)) (.pub x))) A)).tx.length ≤ 100 := by simp [Tm.tx, say, oHash, oPair] at m1 ⊢; omega
  refine ⟨small_hash (.pub s) hL (by omega) (by simp [Tm.deep]), small_mix (C := .hash (.pub s)) (T := .pub x) hL hE (by omega) (by omega) (by simp [Tm.deep]) (by simp [Tm.deep]), ?_, ?_, ?_⟩
  · exact small_mix (C := .hash (.pair (.hash (.pub s)) (.pub x))) (T := A) ⟨hL, hE⟩ a1 (by omega) (by omega) (by simp [Tm.deep]) (by omega)
  · exact small_mix (C := .hash (.pair (.hash (.pair (.hash (.pub s)) (.pub x))) A)) (T := B) ⟨⟨hL, hE⟩, a1⟩ b1 (by omega) (by omega) (by simp [Tm.deep]; omega) (by omega)
  · rw [show mixT (mixT (mixT (say oHash [say oPub [s]]) (say oPub [x])) A.tx) B.tx = (Tm.hash (.pair (.hash (.pair (.hash (.pair (.hash (.pub s)) (.pub x))) A)) B)).tx from rfl]
    simp [Tm.tx, say, oHash, oPair] at m2 ⊢
    omega

theorem initR_size {f : Int} {me lock eph stamp : Bs} (h : 8000 < me.length ∨ 8000 < lock.length ∨ 8000 < eph.length ∨ 8000 < stamp.length) : initR f me lock eph stamp = ill 2 := by
  unfold initR; rw [if_pos h]
theorem initR_form {f : Int} {me lock eph stamp : Bs} (h : ¬ (8000 < me.length ∨ 8000 < lock.length ∨ 8000 < eph.length ∨ 8000 < stamp.length))
    (hb : (endR f && atomR me && (lockS lock).isSome && atomR eph && okT stamp) = false) : initR f me lock eph stamp = ill 1 := by
  unfold initR
  rw [if_neg h]
  cases hl : lockS lock with
  | none => rfl
  | some s =>
    rw [hl] at hb
    simp only [Option.isSome_some, Bool.and_true] at hb
    simp only [hb, Bool.false_eq_true, if_false]
theorem initR_ok {f : Int} {me lock eph stamp s : Bs} (h : ¬ (8000 < me.length ∨ 8000 < lock.length ∨ 8000 < eph.length ∨ 8000 < stamp.length))
    (h1 : endR f = true) (h2 : atomR me = true) (h3 : lockS lock = some s) (h4 : atomR eph = true) (h5 : okT stamp = true) :
    initR f me lock eph stamp = initMade (initL f me lock eph stamp s) (signR (initL f me lock eph stamp s) lock) eph (ic3 lock eph me s) := by
  unfold initR
  rw [if_neg h]
  simp only [h3, h1, h2, h4, h5, Bool.and_self, if_true]

theorem respR_size {f t : Int} {eph peer theirs chain lock : Bs} (h : 8000 < eph.length ∨ 8000 < peer.length ∨ 8000 < theirs.length ∨ 8000 < chain.length ∨ 8000 < lock.length) : respR f t eph peer theirs chain lock = ill 2 := by
  unfold respR; rw [if_pos h]
theorem respR_form {f t : Int} {eph peer theirs chain lock : Bs} (h : ¬ (8000 < eph.length ∨ 8000 < peer.length ∨ 8000 < theirs.length ∨ 8000 < chain.length ∨ 8000 < lock.length))
    (hb : (endR f && endR t && atomR eph && (lockS peer).isSome && (lockS theirs).isSome && okT chain && (lockS lock).isSome) = false) : respR f t eph peer theirs chain lock = ill 1 := by
  unfold respR
  rw [if_neg h]
  cases h1 : lockS peer with
  | none => rfl
  | some p =>
    cases h2 : lockS theirs with
    | none => rfl
    | some x =>
      cases h3 : lockS lock with
      | none => rfl
      | some l =>
        rw [h1, h2, h3] at hb
        simp only [Option.isSome_some, Bool.and_true] at hb
        simp only [hb, Bool.false_eq_true, if_false]
theorem respR_ok {f t : Int} {eph peer theirs chain lock p x : Bs} (h : ¬ (8000 < eph.length ∨ 8000 < peer.length ∨ 8000 < theirs.length ∨ 8000 < chain.length ∨ 8000 < lock.length))
    (h1 : endR f = true) (h2 : endR t = true) (h3 : atomR eph = true) (h4 : lockS peer = some p) (h5 : lockS theirs = some x) (h6 : okT chain = true) (h7 : (lockS lock).isSome = true) :
    respR f t eph peer theirs chain lock = respMade (respL f t eph (c6T chain (say oPub [eph]) (dhS eph x) (dhS eph p))) (signR (respL f t eph (c6T chain (say oPub [eph]) (dhS eph x) (dhS eph p))) peer) (c6T chain (say oPub [eph]) (dhS eph x) (dhS eph p)) := by
  obtain ⟨l, hl⟩ := Option.isSome_iff_exists.1 h7
  unfold respR
  rw [if_neg h]
  simp only [h4, h5, hl, h1, h2, h3, h6, Bool.and_self, if_true]
end Go.Proofs.YtonjohlecomeoaaGreat.hdp

/- HandOut as a value; small laws on its cells. -/
namespace Go.Proofs.YtonjohlecomeoaaGreat.hdv
open Go.RowKit Go.Proofs.YtonjohlecomeoaaGreat.tm Go.Proofs.YtonjohlecomeoaaGreat.lib Go.Proofs.YtonjohlecomeoaaGreat.rdr Go.Proofs.YtonjohlecomeoaaGreat.bld Go.Proofs.YtonjohlecomeoaaGreat.app Go.Proofs.YtonjohlecomeoaaGreat.mrk Go.Proofs.YtonjohlecomeoaaGreat.mrs Go.Proofs.YtonjohlecomeoaaGreat.ltv Go.Proofs.YtonjohlecomeoaaGreat.ltp Go.Proofs.YtonjohlecomeoaaGreat.hdp Go.Proofs.YtonjohlecomeoaaGreat.sgv Go.Proofs.YtonjohlecomeoaaGreat.blw
set_option linter.unusedVariables false

def hdA (H : Hd) (v : Value) : Array Value := #[.int .i64 H.m.k, .int .i64 H.m.f, .int .i64 H.m.t, .int .i64 H.m.c, v, str H.m.a, str H.m.b, str H.peer, str H.stamp, str H.eph, str H.chain, str H.send, str H.hear, str H.key, .int .i64 H.code]

/-- the zero HandOut with a code. -/
def illA (c : Int) : Array Value := #[.int .i64 0, .int .i64 0, .int .i64 0, .int .i64 0, .slice none 0 0, .string ⟨#[]⟩, .string ⟨#[]⟩, .string ⟨#[]⟩, .string ⟨#[]⟩, .string ⟨#[]⟩, .string ⟨#[]⟩, .string ⟨#[]⟩, .string ⟨#[]⟩, .string ⟨#[]⟩, .int .i64 c]
theorem ill_eq (c : Int) : hdA (ill c) (.slice none 0 0) = illA c := rfl

theorem fifteen {w : World} {b : Nat} {v0 v1 v2 v3 v4 v5 v6 v7 v8 v9 v10 v11 v12 v13 v14 : Value} {t : TypeId} (h : w.heap[b]? = some (.cells #[v0, v1, v2, v3, v4, v5, v6, v7, v8, v9, v10, v11, v12, v13, v14] t (0, 0))) :
    w.cell? ⟨b, 0, none⟩ = some v0 ∧ w.cell? ⟨b, 1, none⟩ = some v1 ∧ w.cell? ⟨b, 2, none⟩ = some v2 ∧ w.cell? ⟨b, 3, none⟩ = some v3 ∧ w.cell? ⟨b, 4, none⟩ = some v4 ∧ w.cell? ⟨b, 5, none⟩ = some v5 ∧ w.cell? ⟨b, 6, none⟩ = some v6 ∧ w.cell? ⟨b, 7, none⟩ = some v7 ∧ w.cell? ⟨b, 8, none⟩ = some v8 ∧ w.cell? ⟨b, 9, none⟩ = some v9 ∧ w.cell? ⟨b, 10, none⟩ = some v10 ∧ w.cell? ⟨b, 11, none⟩ = some v11 ∧ w.cell? ⟨b, 12, none⟩ = some v12 ∧ w.cell? ⟨b, 13, none⟩ = some v13 ∧ w.cell? ⟨b, 14, none⟩ = some v14 ∧ b < w.heap.size ∧ ∀ o, w.frozen? ⟨b, o, none⟩ = false := by
  refine ⟨?_, ?_, ?_, ?_, ?_, ?_, ?_, ?_, ?_, ?_, ?_, ?_, ?_, ?_, ?_, (Array.getElem?_eq_some_iff.1 h).1, fun o => by simp [World.frozen?, h]⟩ <;> (rw [cell_of_row w b _ _ t (0, 0) h]; rfl)
theorem set15 {B : Nat} {w w' : World} (h : Below B w w') {b : Nat} (hb : B ≤ b) (v0 v1 v2 v3 v4 v5 v6 v7 v8 v9 v10 v11 v12 v13 v14 : Value) : Below B w (((((((((((((((w'.setCell ⟨b, 0, none⟩ v0).setCell ⟨b, 1, none⟩ v1).setCell ⟨b, 2, none⟩ v2).setCell ⟨b, 3, none⟩ v3).setCell ⟨b, 4, none⟩ v4).setCell ⟨b, 5, none⟩ v5).setCell ⟨b, 6, none⟩ v6).setCell ⟨b, 7, none⟩ v7).setCell ⟨b, 8, none⟩ v8).setCell ⟨b, 9, none⟩ v9).setCell ⟨b, 10, none⟩ v10).setCell ⟨b, 11, none⟩ v11).setCell ⟨b, 12, none⟩ v12).setCell ⟨b, 13, none⟩ v13).setCell ⟨b, 14, none⟩ v14) := (Below.setCell (Below.setCell (Below.setCell (Below.setCell (Below.setCell (Below.setCell (Below.setCell (Below.setCell (Below.setCell (Below.setCell (Below.setCell (Below.setCell (Below.setCell (Below.setCell (Below.setCell h hb v0) hb v1) hb v2) hb v3) hb v4) hb v5) hb v6) hb v7) hb v8) hb v9) hb v10) hb v11) hb v12) hb v13) hb v14)
theorem wset15 {B B' : Nat} {w : World} {u : Value} {ls : List Bs} (h : Wrs w B u ls) {b : Nat} (hb : b < B) (hB : B' ≤ B) (v0 v1 v2 v3 v4 v5 v6 v7 v8 v9 v10 v11 v12 v13 v14 : Value) : Wrs (((((((((((((((w.setCell ⟨b, 0, none⟩ v0).setCell ⟨b, 1, none⟩ v1).setCell ⟨b, 2, none⟩ v2).setCell ⟨b, 3, none⟩ v3).setCell ⟨b, 4, none⟩ v4).setCell ⟨b, 5, none⟩ v5).setCell ⟨b, 6, none⟩ v6).setCell ⟨b, 7, none⟩ v7).setCell ⟨b, 8, none⟩ v8).setCell ⟨b, 9, none⟩ v9).setCell ⟨b, 10, none⟩ v10).setCell ⟨b, 11, none⟩ v11).setCell ⟨b, 12, none⟩ v12).setCell ⟨b, 13, none⟩ v13).setCell ⟨b, 14, none⟩ v14) B' u ls :=
  Wrs.base (Wrs.set (Wrs.set (Wrs.set (Wrs.set (Wrs.set (Wrs.set (Wrs.set (Wrs.set (Wrs.set (Wrs.set (Wrs.set (Wrs.set (Wrs.set (Wrs.set (Wrs.set h hb v0) hb v1) hb v2) hb v3) hb v4) hb v5) hb v6) hb v7) hb v8) hb v9) hb v10) hb v11) hb v12) hb v13) hb v14) hB
theorem set15b {B : Nat} {w w' : World} (h : Below B w w') {a b : Nat} (ha : B ≤ a) (hb : B ≤ b) (x v0 v1 v2 v3 v4 v5 v6 v7 v8 v9 v10 v11 v12 v13 v14 : Value) : Below B w ((((((((((((((((w'.setCell ⟨a, 14, none⟩ x).setCell ⟨b, 0, none⟩ v0).setCell ⟨b, 1, none⟩ v1).setCell ⟨b, 2, none⟩ v2).setCell ⟨b, 3, none⟩ v3).setCell ⟨b, 4, none⟩ v4).setCell ⟨b, 5, none⟩ v5).setCell ⟨b, 6, none⟩ v6).setCell ⟨b, 7, none⟩ v7).setCell ⟨b, 8, none⟩ v8).setCell ⟨b, 9, none⟩ v9).setCell ⟨b, 10, none⟩ v10).setCell ⟨b, 11, none⟩ v11).setCell ⟨b, 12, none⟩ v12).setCell ⟨b, 13, none⟩ v13).setCell ⟨b, 14, none⟩ v14) := (Below.setCell (Below.setCell (Below.setCell (Below.setCell (Below.setCell (Below.setCell (Below.setCell (Below.setCell (Below.setCell (Below.setCell (Below.setCell (Below.setCell (Below.setCell (Below.setCell (Below.setCell (Below.setCell h (p := ⟨a, 14, none⟩) ha x) hb v0) hb v1) hb v2) hb v3) hb v4) hb v5) hb v6) hb v7) hb v8) hb v9) hb v10) hb v11) hb v12) hb v13) hb v14)
theorem put15 {w : World} {b : Nat} {o0 o1 o2 o3 o4 o5 o6 o7 o8 o9 o10 o11 o12 o13 o14 : Value} {t : TypeId} (h : w.heap[b]? = some (.cells #[o0, o1, o2, o3, o4, o5, o6, o7, o8, o9, o10, o11, o12, o13, o14] t (0, 0))) (v0 v1 v2 v3 v4 v5 v6 v7 v8 v9 v10 v11 v12 v13 v14 : Value) : (((((((((((((((w.setCell ⟨b, 0, none⟩ v0).setCell ⟨b, 1, none⟩ v1).setCell ⟨b, 2, none⟩ v2).setCell ⟨b, 3, none⟩ v3).setCell ⟨b, 4, none⟩ v4).setCell ⟨b, 5, none⟩ v5).setCell ⟨b, 6, none⟩ v6).setCell ⟨b, 7, none⟩ v7).setCell ⟨b, 8, none⟩ v8).setCell ⟨b, 9, none⟩ v9).setCell ⟨b, 10, none⟩ v10).setCell ⟨b, 11, none⟩ v11).setCell ⟨b, 12, none⟩ v12).setCell ⟨b, 13, none⟩ v13).setCell ⟨b, 14, none⟩ v14).heap[b]? = some (.cells #[v0, v1, v2, v3, v4, v5, v6, v7, v8, v9, v10, v11, v12, v13, v14] t (0, 0)) := by
  have h0 : (w.setCell ⟨b, 0, none⟩ v0).heap[b]? = some (.cells #[v0, o1, o2, o3, o4, o5, o6, o7, o8, o9, o10, o11, o12, o13, o14] t (0, 0)) := Joins.block_setCell h v0
  have h1 : ((w.setCell ⟨b, 0, none⟩ v0).setCell ⟨b, 1, none⟩ v1).heap[b]? = some (.cells #[v0, v1, o2, o3, o4, o5, o6, o7, o8, o9, o10, o11, o12, o13, o14] t (0, 0)) := Joins.block_setCell h0 v1
  have h2 : (((w.setCell ⟨b, 0, none⟩ v0).setCell ⟨b, 1, none⟩ v1).setCell ⟨b, 2, none⟩ v2).heap[b]? = some (.cells #[v0, v1, v2, o3, o4, o5, o6, o7, o8, o9, o10, o11, o12, o13, o14] t (0, 0)) := Joins.block_setCell h1 v2
  have h3 : ((((w.setCell ⟨b, 0, none⟩ v0).setCell ⟨b, 1, none⟩ v1).setCell ⟨b, 2, none⟩ v2).setCell ⟨b, 3, none⟩ v3).heap[b]? = some (.cells #[v0, v1, v2, v3, o4, o5, o6, o7, o8, o9, o10, o11, o12, o13, o14] t (0, 0)) := Joins.block_setCell h2 v3
  have h4 : (((((w.setCell ⟨b, 0, none⟩ v0).setCell ⟨b, 1, none⟩ v1).setCell ⟨b, 2, none⟩ v2).setCell ⟨b, 3, none⟩ v3).setCell ⟨b, 4, none⟩ v4).heap[b]? = some (.cells #[v0, v1, v2, v3, v4, o5, o6, o7, o8, o9, o10, o11, o12, o13, o14] t (0, 0)) := Joins.block_setCell h3 v4
  have h5 : ((((((w.setCell ⟨b, 0, none⟩ v0).setCell ⟨b, 1, none⟩ v1).setCell ⟨b, 2, none⟩ v2).setCell ⟨b, 3, none⟩ v3).setCell ⟨b, 4, none⟩ v4).setCell ⟨b, 5, none⟩ v5).heap[b]? = some (.cells #[v0, v1, v2, v3, v4, v5, o6, o7, o8, o9, o10, o11, o12, o13, o14] t (0, 0)) := Joins.block_setCell h4 v5
  have h6 : (((((((w.setCell ⟨b, 0, none⟩ v0).setCell ⟨b, 1, none⟩ v1).setCell ⟨b, 2, none⟩ v2).setCell ⟨b, 3, none⟩ v3).setCell ⟨b, 4, none⟩ v4).setCell ⟨b, 5, none⟩ v5).setCell ⟨b, 6, none⟩ v6).heap[b]? = some (.cells #[v0, v1, v2, v3, v4, v5, v6, o7, o8, o9, o10, o11, o12, o13, o14] t (0, 0)) := Joins.block_setCell h5 v6
  have h7 : ((((((((w.setCell ⟨b, 0, none⟩ v0).setCell ⟨b, 1, none⟩ v1).setCell ⟨b, 2, none⟩ v2).setCell ⟨b, 3, none⟩ v3).setCell ⟨b, 4, none⟩ v4).setCell ⟨b, 5, none⟩ v5).setCell ⟨b, 6, none⟩ v6).setCell ⟨b, 7, none⟩ v7).heap[b]? = some (.cells #[v0, v1, v2, v3, v4, v5, v6, v7, o8, o9, o10, o11, o12, o13, o14] t (0, 0)) := Joins.block_setCell h6 v7
  have h8 : (((((((((w.setCell ⟨b, 0, none⟩ v0).setCell ⟨b, 1, none⟩ v1).setCell ⟨b, 2, none⟩ v2).setCell ⟨b, 3, none⟩ v3).setCell ⟨b, 4, none⟩ v4).setCell ⟨b, 5, none⟩ v5).setCell ⟨b, 6, none⟩ v6).setCell ⟨b, 7, none⟩ v7).setCell ⟨b, 8, none⟩ v8).heap[b]? = some (.cells #[v0, v1, v2, v3, v4, v5, v6, v7, v8, o9, o10, o11, o12, o13, o14] t (0, 0)) := Joins.block_setCell h7 v8
  have h9 : ((((((((((w.setCell ⟨b, 0, none⟩ v0).setCell ⟨b, 1, none⟩ v1).setCell ⟨b, 2, none⟩ v2).setCell ⟨b, 3, none⟩ v3).setCell ⟨b, 4, none⟩ v4).setCell ⟨b, 5, none⟩ v5).setCell ⟨b, 6, none⟩ v6).setCell ⟨b, 7, none⟩ v7).setCell ⟨b, 8, none⟩ v8).setCell ⟨b, 9, none⟩ v9).heap[b]? = some (.cells #[v0, v1, v2, v3, v4, v5, v6, v7, v8, v9, o10, o11, o12, o13, o14] t (0, 0)) := Joins.block_setCell h8 v9
  have h10 : (((((((((((w.setCell ⟨b, 0, none⟩ v0).setCell ⟨b, 1, none⟩ v1).setCell ⟨b, 2, none⟩ v2).setCell ⟨b, 3, none⟩ v3).setCell ⟨b, 4, none⟩ v4).setCell ⟨b, 5, none⟩ v5).setCell ⟨b, 6, none⟩ v6).setCell ⟨b, 7, none⟩ v7).setCell ⟨b, 8, none⟩ v8).setCell ⟨b, 9, none⟩ v9).setCell ⟨b, 10, none⟩ v10).heap[b]? = some (.cells #[v0, v1, v2, v3, v4, v5, v6, v7, v8, v9, v10, o11, o12, o13, o14] t (0, 0)) := Joins.block_setCell h9 v10
  have h11 : ((((((((((((w.setCell ⟨b, 0, none⟩ v0).setCell ⟨b, 1, none⟩ v1).setCell ⟨b, 2, none⟩ v2).setCell ⟨b, 3, none⟩ v3).setCell ⟨b, 4, none⟩ v4).setCell ⟨b, 5, none⟩ v5).setCell ⟨b, 6, none⟩ v6).setCell ⟨b, 7, none⟩ v7).setCell ⟨b, 8, none⟩ v8).setCell ⟨b, 9, none⟩ v9).setCell ⟨b, 10, none⟩ v10).setCell ⟨b, 11, none⟩ v11).heap[b]? = some (.cells #[v0, v1, v2, v3, v4, v5, v6, v7, v8, v9, v10, v11, o12, o13, o14] t (0, 0)) := Joins.block_setCell h10 v11
  have h12 : (((((((((((((w.setCell ⟨b, 0, none⟩ v0).setCell ⟨b, 1, none⟩ v1).setCell ⟨b, 2, none⟩ v2).setCell ⟨b, 3, none⟩ v3).setCell ⟨b, 4, none⟩ v4).setCell ⟨b, 5, none⟩ v5).setCell ⟨b, 6, none⟩ v6).setCell ⟨b, 7, none⟩ v7).setCell ⟨b, 8, none⟩ v8).setCell ⟨b, 9, none⟩ v9).setCell ⟨b, 10, none⟩ v10).setCell ⟨b, 11, none⟩ v11).setCell ⟨b, 12, none⟩ v12).heap[b]? = some (.cells #[v0, v1, v2, v3, v4, v5, v6, v7, v8, v9, v10, v11, v12, o13, o14] t (0, 0)) := Joins.block_setCell h11 v12
  have h13 : ((((((((((((((w.setCell ⟨b, 0, none⟩ v0).setCell ⟨b, 1, none⟩ v1).setCell ⟨b, 2, none⟩ v2).setCell ⟨b, 3, none⟩ v3).setCell ⟨b, 4, none⟩ v4).setCell ⟨b, 5, none⟩ v5).setCell ⟨b, 6, none⟩ v6).setCell ⟨b, 7, none⟩ v7).setCell ⟨b, 8, none⟩ v8).setCell ⟨b, 9, none⟩ v9).setCell ⟨b, 10, none⟩ v10).setCell ⟨b, 11, none⟩ v11).setCell ⟨b, 12, none⟩ v12).setCell ⟨b, 13, none⟩ v13).heap[b]? = some (.cells #[v0, v1, v2, v3, v4, v5, v6, v7, v8, v9, v10, v11, v12, v13, o14] t (0, 0)) := Joins.block_setCell h12 v13
  have h14 : (((((((((((((((w.setCell ⟨b, 0, none⟩ v0).setCell ⟨b, 1, none⟩ v1).setCell ⟨b, 2, none⟩ v2).setCell ⟨b, 3, none⟩ v3).setCell ⟨b, 4, none⟩ v4).setCell ⟨b, 5, none⟩ v5).setCell ⟨b, 6, none⟩ v6).setCell ⟨b, 7, none⟩ v7).setCell ⟨b, 8, none⟩ v8).setCell ⟨b, 9, none⟩ v9).setCell ⟨b, 10, none⟩ v10).setCell ⟨b, 11, none⟩ v11).setCell ⟨b, 12, none⟩ v12).setCell ⟨b, 13, none⟩ v13).setCell ⟨b, 14, none⟩ v14).heap[b]? = some (.cells #[v0, v1, v2, v3, v4, v5, v6, v7, v8, v9, v10, v11, v12, v13, v14] t (0, 0)) := Joins.block_setCell h13 v14
  exact h14
theorem nil_wrs (w : World) (B : Nat) : Wrs w B (.slice none 0 0) [] := .inl ⟨rfl, _, _, rfl⟩
/-- What a hand is told by: a HandOut whose list is the call's own. -/
def HEnd (H : Hd) (w : World) (e : Ending) (w' : World) : Prop := ∃ u, e = .returned (.agg (hdA H u)) ∧ Below w.heap.size w w' ∧ Wrs w' w.heap.size u H.m.ps

theorem tell {u : Value} {ls : List Bs} {w : World} {B : Nat} (h : Wrs w B u ls) : ∃ a n c, u = .slice a n c := by
  rcases h with ⟨rfl, a, c, e⟩ | ⟨g, off, cap, e, _⟩
  · exact ⟨a, _, c, e⟩
  · exact ⟨_, _, _, e⟩

def Gives (F : FuncId) (args : Array Value) (v : Value) : Prop := ∀ w, Calls Tryz.prog F args w fun e w' => e = .returned v ∧ Below w.heap.size w w'
theorem HEnd.ill {c : Int} {w w' : World} (h : Below w.heap.size w w') : HEnd (ill c) w (.returned (.agg (illA c))) w' := ⟨.slice none 0 0, rfl, h, nil_wrs _ _⟩
end Go.Proofs.YtonjohlecomeoaaGreat.hdv

/- Mix of the model. -/
namespace Go.Proofs.YtonjohlecomeoaaGreat.smx
open Go.RowKit Go.Proofs.YtonjohlecomeoaaGreat.tm Go.Proofs.YtonjohlecomeoaaGreat.lib Go.Proofs.YtonjohlecomeoaaGreat.rdr Go.Proofs.YtonjohlecomeoaaGreat.bld Go.Proofs.YtonjohlecomeoaaGreat.mkp Go.Proofs.YtonjohlecomeoaaGreat.ltq Go.Proofs.YtonjohlecomeoaaGreat.ltv Go.Proofs.YtonjohlecomeoaaGreat.ltp Go.Proofs.YtonjohlecomeoaaGreat.hdp Go.Proofs.YtonjohlecomeoaaGreat.blw
set_option linter.unusedVariables false

theorem sright (l : Bs) (b : Bool) (h : okT l = b) (hl : l.length ≤ 4000000) (w : World) :
    Calls Tryz.prog 40 #[str l] w fun e w' => e = .returned (.bool b) ∧ Below w.heap.size w w' := by
  have := srt.specTermRight_calls ⟨l.toArray⟩ (by unfold maxLen; show l.toArray.size ≤ _; simp; omega) w
  rw [show (term (⟨l.toArray⟩ : ByteArray).data.toList).isSome = b from h] at this
  exact this

theorem mixT_len (c t : Bs) : (mixT c t).length = c.length + t.length + 15 := by simp [mixT, say, oHash, oPair]; omega

set_option maxHeartbeats 1000000 in
set_option maxRecDepth 100000 in
theorem l06Mix_calls (c t : Bs) (hc : c.length ≤ 1000000) (ht : t.length ≤ 1000000) (w : World) :
    Calls Tryz.prog 41 #[str c, str t] w fun e w' => e = .returned (str (mixT c t)) ∧ Below w.heap.size w w' := by
  unfold mixT
  obtain ⟨P, hP⟩ : ∃ P, P = say oPair [c, t] := ⟨_, rfl⟩
  have hPl : P.length ≤ 4000000 := by rw [hP]; simp [say, oPair]; omega
  have c1 := fun (w : World) (b : Nat) h0 h1 => ssy.say_two oPair c t b 0 2 w h0 h1 (by decide) (by omega) (by omega)
  rw [← hP] at c1 ⊢
  have c2 := fun (w : World) (b : Nat) h0 => ssy.say_one oHash P b 0 1 w h0 (by decide) hPl
  obtain ⟨G, hG⟩ : ∃ G, G = say oHash [P] := ⟨_, rfl⟩
  rw [← hG] at c2 ⊢
  have C1 := Lib.hid c1
  have C2 := Lib.hid c2
  unfold oPair at C1
  unfold oHash at C2
  clear c1 c2 hP hG hPl hc ht
  go_enter Tryz.func41, Tryz.ntmps41
  go_wp2_with fail
  refine (on (al0 _) (C1.out _ _ (by simp [go_sem]) (by simp [go_sem]))).mono ?_
  rintro e w1 ⟨rfl, hb1⟩
  have HB1 := Lib.hid hb1
  clear hb1
  go_wp2_with fail
  refine (on (al1 HB1.out _) (C2.out _ _ (by simp [go_sem]))).mono ?_
  rintro e w2 ⟨rfl, hb2⟩
  have HB2 := Lib.hid hb2
  clear hb2
  go_wp2_with fail
  go_ret
  exact ⟨rfl, HB2.out⟩

set_option maxHeartbeats 1000000 in
set_option maxRecDepth 100000 in
theorem specMix_calls (c t : Bs) (hc : c.length ≤ 4000000) (ht : t.length ≤ 4000000) (w : World) :
    Calls Tryz.prog 31 #[str c, str t] w fun e w' => e = .returned (str (mixR c t)) ∧ Below w.heap.size w w' := by
  unfold mixR
  cases h1 : okT c with
  | false =>
    have c1 := fun w => sright c false h1 hc w
    have C1 := Lib.hid c1
    simp only [Bool.false_and, Bool.false_eq_true, if_false]
    clear c1 h1 hc ht
    go_enter Tryz.func31, Tryz.ntmps31
    go_wp2_with fail
    refine (C1.out _).mono ?_
    rintro e w1 ⟨rfl, hb1⟩
    have HB1 := Lib.hid hb1
    clear hb1
    go_wp2_with fail
    go_ret
    exact ⟨rfl, HB1.out⟩
  | true =>
    cases h2 : okT t with
    | false =>
      have c1 := fun w => sright c true h1 hc w
      have c2 := fun w => sright t false h2 ht w
      have C1 := Lib.hid c1
      have C2 := Lib.hid c2
      simp only [Bool.and_false, Bool.false_and, Bool.false_eq_true, if_false]
      clear c1 c2 h1 h2 hc ht
      go_enter Tryz.func31, Tryz.ntmps31
      go_wp2_with fail
      refine (C1.out _).mono ?_
      rintro e w1 ⟨rfl, hb1⟩
      have HB1 := Lib.hid hb1
      clear hb1
      go_wp2_with fail
      refine (on HB1.out (C2.out _)).mono ?_
      rintro e w2 ⟨rfl, hb2⟩
      have HB2 := Lib.hid hb2
      clear hb2
      go_wp2_with fail
      go_ret
      exact ⟨rfl, HB2.out⟩
    | true =>
      have l1 := okT_len h1
      have l2 := okT_len h2
      have c1 := fun w => sright c true h1 hc w
      have c2 := fun w => sright t true h2 ht w
      have c3 := fun w => l06Mix_calls c t (by omega) (by omega) w
      have hml := mixT_len c t
      obtain ⟨M, hM⟩ : ∃ M, M = mixT c t := ⟨_, rfl⟩
      rw [← hM] at c3 hml ⊢
      simp only [Bool.true_and]
      have C1 := Lib.hid c1
      have C2 := Lib.hid c2
      have C3 := Lib.hid c3
      cases h3 : okT M with
      | false =>
        have c4 := fun w => sright M false h3 (by omega) w
        have C4 := Lib.hid c4
        simp only [Bool.false_eq_true, if_false]
        clear c1 c2 c3 c4 h1 h2 h3 hc ht hM hml l1 l2
        go_enter Tryz.func31, Tryz.ntmps31
        go_wp2_with fail
        refine (C1.out _).mono ?_
        rintro e w1 ⟨rfl, hb1⟩
        have HB1 := Lib.hid hb1
        clear hb1
        go_wp2_with fail
        refine (on HB1.out (C2.out _)).mono ?_
        rintro e w2 ⟨rfl, hb2⟩
        have HB2 := Lib.hid hb2
        clear hb2
        go_wp2_with fail
        refine (on HB2.out (C3.out _)).mono ?_
        rintro e w3 ⟨rfl, hb3⟩
        have HB3 := Lib.hid hb3
        clear hb3
        go_wp2_with fail
        refine (on HB3.out (C4.out _)).mono ?_
        rintro e w4 ⟨rfl, hb4⟩
        have HB4 := Lib.hid hb4
        clear hb4
        go_wp2_with fail
        go_ret
        exact ⟨rfl, HB4.out⟩
      | true =>
        have c4 := fun w => sright M true h3 (by omega) w
        have C4 := Lib.hid c4
        simp only [if_true]
        clear c1 c2 c3 c4 h1 h2 h3 hc ht hM hml l1 l2
        go_enter Tryz.func31, Tryz.ntmps31
        go_wp2_with fail
        refine (C1.out _).mono ?_
        rintro e w1 ⟨rfl, hb1⟩
        have HB1 := Lib.hid hb1
        clear hb1
        go_wp2_with fail
        refine (on HB1.out (C2.out _)).mono ?_
        rintro e w2 ⟨rfl, hb2⟩
        have HB2 := Lib.hid hb2
        clear hb2
        go_wp2_with fail
        refine (on HB2.out (C3.out _)).mono ?_
        rintro e w3 ⟨rfl, hb3⟩
        have HB3 := Lib.hid hb3
        clear hb3
        go_wp2_with fail
        refine (on HB3.out (C4.out _)).mono ?_
        rintro e w4 ⟨rfl, hb4⟩
        have HB4 := Lib.hid hb4
        clear hb4
        go_wp2_with fail
        refine (on HB4.out (C3.out _)).mono ?_
        rintro e w5 ⟨rfl, hb5⟩
        have HB5 := Lib.hid hb5
        clear hb5
        go_wp2_with fail
        go_ret
        exact ⟨rfl, HB5.out⟩
end Go.Proofs.YtonjohlecomeoaaGreat.smx
