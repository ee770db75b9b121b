/- Contracts of the model's l02Deep at every depth, TermRight, DeepOf. -/
import Derived.Test.YtonjohlecomeoaaSdp
namespace Go.Proofs.Ytonjohlecomeoaa.srt
open Go.RowKit Go.Proofs.Ytonjohlecomeoaa.tm Go.Proofs.Ytonjohlecomeoaa.lib Go.Proofs.Ytonjohlecomeoaa.rdr Go.Proofs.Ytonjohlecomeoaa.bld Go.Proofs.Ytonjohlecomeoaa.app Go.Proofs.Ytonjohlecomeoaa.spm Go.Proofs.Ytonjohlecomeoaa.sar Go.Proofs.Ytonjohlecomeoaa.sdp
set_option linter.unusedVariables false

theorem sd_all : ∀ n, 1 ≤ n → n ≤ 24 → SD n
  | 0, h, _ => by omega
  | 1, h, _ => fun t ht w => sd_plain 1 h (by omega) t ht (.inr (.inr rfl)) w
  | n + 2, h, h2 => by
    intro t ht w
    have ih := sd_all (n + 1) (by omega) (by omega)
    by_cases ha : atomR t.data.toList = true
    · exact sd_plain (n + 2) h h2 t ht (.inl ha) w
    have ha' : atomR t.data.toList = false := by simpa using ha
    cases hg : args t.data.toList with
    | none => exact sd_plain (n + 2) h h2 t ht (.inr (.inl hg)) w
    | some a =>
      obtain ⟨op, ks, rfl, _⟩ := args_say hg
      by_cases hm : many op = 0 ∨ ks.length ≠ many op
      · exact sd_shape (n + 1) (by omega) (by omega) t ht ha' op ks hg hm w
      · have hm1 : many op ≠ 0 := fun e => hm (.inl e)
        have hm2 : ks.length = many op := Decidable.not_not.1 fun e => hm (.inr e)
        rcases many_cases op with h0 | ⟨h1, hop⟩ | ⟨h1, hop⟩
        · exact absurd h0 hm1
        · rw [h1] at hm2
          match ks, hm2 with
          | [x], _ =>
            rcases hop with rfl | rfl
            · refine sd_one (n + 1) (by omega) (by omega) ih t ht ha' oHash x hg rfl false rfl _ ?_ rfl w
              by_cases hx : dz (n + 1) x = 0
              · exact .inl ⟨hx, dz_mk_none ha' hg (mk_zero (x := x) (by simp) hx)⟩
              · exact .inr (.inr ⟨hx, (by intro e; cases e), dz_mk_some ha' hg (mk_hash hx)⟩)
            · refine sd_one (n + 1) (by omega) (by omega) ih t ht ha' oPub x hg rfl true rfl _ ?_ rfl w
              by_cases hx : dz (n + 1) x = 0
              · exact .inl ⟨hx, dz_mk_none ha' hg (mk_zero (x := x) (by simp) hx)⟩
              · by_cases hx2 : 2 ≤ dz (n + 1) x
                · exact .inr (.inl ⟨hx, rfl, hx2, dz_mk_none ha' hg (mk_pub_no hx2)⟩)
                · have hx1 : dz (n + 1) x = 1 := by omega
                  exact .inr (.inr ⟨hx, fun _ => hx1, by rw [dz_mk_some ha' hg (mk_pub_yes hx1), hx1]⟩)
        · rw [h1] at hm2
          match ks, hm2 with
          | [x, y], _ =>
            by_cases hdh : op = oDh
            · subst hdh
              refine sd_dh (n + 1) (by omega) (by omega) ih t ht ha' x y hg _ ?_ w
              by_cases hx : dz (n + 1) x = 0
              · exact .inl ⟨.inl hx, dz_mk_none ha' hg (mk_zero (x := x) (by simp) hx)⟩
              by_cases hx2 : 2 ≤ dz (n + 1) x
              · exact .inl ⟨.inr hx2, dz_mk_none ha' hg (mk_dh_no (.inl hx2))⟩
              have hx1 : dz (n + 1) x = 1 := by omega
              by_cases hy : dz (n + 1) y = 0
              · exact .inr (.inl ⟨hx1, .inl hy, dz_mk_none ha' hg (mk_zero (x := y) (by simp) hy)⟩)
              by_cases hy2 : 2 ≤ dz (n + 1) y
              · exact .inr (.inl ⟨hx1, .inr hy2, dz_mk_none ha' hg (mk_dh_no (.inr hy2))⟩)
              have hy1 : dz (n + 1) y = 1 := by omega
              cases hgt : gt x y
              · exact .inr (.inr (.inr ⟨hx1, hy1, rfl, dz_mk_some ha' hg ((mk_dh hx1 hy1).1 hgt)⟩))
              · exact .inr (.inr (.inl ⟨hx1, hy1, rfl, dz_mk_none ha' hg ((mk_dh hx1 hy1).2 hgt)⟩))
            · have hop3 : op = oPair ∨ op = oMac ∨ op = oShut := by
                rcases hop with h | h | h | h
                · exact .inl h
                · exact .inr (.inl h)
                · exact .inr (.inr h)
                · exact absurd h hdh
              have hs : secret op = false := by rcases hop3 with rfl | rfl | rfl <;> rfl
              refine sd_two (n + 1) (by omega) (by omega) ih t ht ha' op x y hg h1 hs (by rw [beq_eq_false_iff_ne]; exact hdh) _ ?_ w
              by_cases hx : dz (n + 1) x = 0
              · exact .inl ⟨hx, dz_mk_none ha' hg (mk_zero (x := x) (by simp) hx)⟩
              by_cases hy : dz (n + 1) y = 0
              · exact .inr (.inl ⟨hx, hy, dz_mk_none ha' hg (mk_zero (x := y) (by simp) hy)⟩)
              · exact .inr (.inr ⟨hx, hy, dz_mk_some ha' hg (mk_pms hop3 hx hy)⟩)

/-- How deep: of what is not right 0. -/
def deepT (l : Bs) : Nat := match term l with | some T => T.deep | none => 0

theorem deepT_small {l : Bs} (h : l.length ≤ 3000) : deepT l = dz 24 l := by
  have e : term l = pz 24 l := by unfold term; rw [if_pos h]
  unfold deepT dz
  rw [e]
  cases pz 24 l <;> rfl
theorem deepT_big {l : Bs} (h : ¬ l.length ≤ 3000) : deepT l = 0 ∧ term l = none := by
  have : term l = none := by unfold term; rw [if_neg h]
  exact ⟨by unfold deepT; rw [this], this⟩
theorem term_isSome (l : Bs) : (term l).isSome = decide (0 < deepT l) := by
  unfold deepT
  cases h : term l with
  | none => rfl
  | some T => have := deep_pos T; simp; omega

set_option maxRecDepth 100000 in
theorem specTermRight_calls (s : ByteArray) (hs : s.size ≤ maxLen) (w : World) :
    Calls Try.prog 17 #[.string s] w fun e w' => e = .returned (.bool (term s.data.toList).isSome) ∧ Below w.heap.size w w' := by
  unfold maxLen at hs
  by_cases hbig : 3000 < s.size
  · have d0 : decide ((s.size : Int) ≤ 3000) = false := by simp; omega
    rw [(deepT_big (l := s.data.toList) (by show ¬ s.size ≤ 3000; omega)).2]
    go_enter Try.func17, Try.ntmps17
    go_wp2_with fail
    go_ret
    exact ⟨rfl, Below.refl _ _⟩
  · have d0 : decide ((s.size : Int) ≤ 3000) = true := by simp; omega
    have e0 := term_isSome s.data.toList
    rw [deepT_small (show s.data.toList.length ≤ 3000 by show s.size ≤ 3000; omega)] at e0
    rw [e0]
    have c1 := sd_all 24 (by omega) (by omega) s (by omega)
    obtain ⟨d, hd⟩ : ∃ d, dz 24 s.data.toList = d := ⟨_, rfl⟩
    rw [hd] at c1 ⊢
    clear hd e0
    go_enter Try.func17, Try.ntmps17
    go_wp2_with (go_at_call 43; refine (c1 _).mono ?_; rintro e w1 ⟨rfl, hb⟩)
    go_ret
    exact ⟨ret_bool (by simp), hb⟩

end Go.Proofs.Ytonjohlecomeoaa.srt
