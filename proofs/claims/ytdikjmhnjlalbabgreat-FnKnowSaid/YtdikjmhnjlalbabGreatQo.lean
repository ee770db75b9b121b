/- Several small texts, one behind the other. -/
import Derived.Test.YtdikjmhnjlalbabGreatQn
import Derived.Test.YtdikjmhnjlalbabGreatQj
import Derived.Test.YtdikjmhnjlalbabGreatQa
import Derived.Test.YtdikjmhnjlalbabGreatQg

/- TermRight of the model at texts. -/
namespace Go.Proofs.YtdikjmhnjlalbabGreat.sop
open Go.RowKit Go.Proofs.YtdikjmhnjlalbabGreat.tm Go.Proofs.YtdikjmhnjlalbabGreat.lib Go.Proofs.YtdikjmhnjlalbabGreat.rdr Go.Proofs.YtdikjmhnjlalbabGreat.bld Go.Proofs.YtdikjmhnjlalbabGreat.app
set_option linter.unusedVariables false

theorem right_at (l : Bs) (b : Bool) (h : (term l).isSome = b) (hl : l.length ≤ 8000) (w : World) :
    Calls Tryz.prog 18 #[str l] w fun e w' => e = .returned (.bool b) ∧ Below w.heap.size w w' := by
  have := srt.specTermRight_calls ⟨l.toArray⟩ (by unfold maxLen; show l.toArray.size ≤ _; simp; omega) w
  rw [show (term (⟨l.toArray⟩ : ByteArray).data.toList).isSome = b from h] at this
  exact this

end Go.Proofs.YtdikjmhnjlalbabGreat.sop

/- What Open answers, and what leans on it; TermRight and l02Node of the model at texts. -/
namespace Go.Proofs.YtdikjmhnjlalbabGreat.sop
open Go.RowKit Go.Proofs.YtdikjmhnjlalbabGreat.tm Go.Proofs.YtdikjmhnjlalbabGreat.lib Go.Proofs.YtdikjmhnjlalbabGreat.rdr Go.Proofs.YtdikjmhnjlalbabGreat.bld Go.Proofs.YtdikjmhnjlalbabGreat.app Go.Proofs.YtdikjmhnjlalbabGreat.snd
set_option linter.unusedVariables false

/-- What Open answers: the text, and the code. -/
inductive OpenR (key t : Bs) : Bs → Int → Prop
  | size (h : 8000 < key.length ∨ 8000 < t.length) : OpenR key t [] 2
  | form (h1 : key.length ≤ 8000) (h2 : t.length ≤ 8000) (h : term key = none ∨ term t = none) : OpenR key t [] 1
  | other (h1 : key.length ≤ 8000) (h2 : t.length ≤ 8000) (K T : Tm) (hK : term key = some K) (hT : term t = some T) (h : T.op ≠ oShut) : OpenR key t [] 6
  | none (h1 : key.length ≤ 8000) (h2 : t.length ≤ 8000) (K k x : Tm) (hK : term key = some K) (hT : term t = some (.shut k x)) (h : k.tx ≠ key) : OpenR key t [] 6
  | some (h1 : key.length ≤ 8000) (h2 : t.length ≤ 8000) (K k x : Tm) (hK : term key = some K) (hT : term t = some (.shut k x)) (h : k.tx = key) : OpenR key t x.tx 0

theorem open_total (key t : Bs) : ∃ r c, OpenR key t r c := by
  by_cases hs : 8000 < key.length ∨ 8000 < t.length
  · exact ⟨_, _, .size hs⟩
  have h1 : key.length ≤ 8000 := by omega
  have h2 : t.length ≤ 8000 := by omega
  cases hK : term key with
  | none => exact ⟨_, _, .form h1 h2 (.inl hK)⟩
  | some K =>
    cases hT : term t with
    | none => exact ⟨_, _, .form h1 h2 (.inr hT)⟩
    | some T =>
      by_cases ho : T.op = oShut
      · cases T with
        | shut k x =>
          by_cases hk : k.tx = key
          · exact ⟨_, _, .some h1 h2 K k x hK hT hk⟩
          · exact ⟨_, _, .none h1 h2 K k x hK hT hk⟩
        | _ => simp [Tm.op, oShut, oPair, oHash, oMac, oPub, oDh] at ho
      · exact ⟨_, _, .other h1 h2 K T hK hT ho⟩

theorem node_at (l : Bs) (T : Tm) (h : term l = some T) (w : World) :
    Calls Tryz.prog 53 #[str l] w fun e w' => ∃ v, e = .returned (.agg #[str T.op, v]) ∧ Below w.heap.size w w' ∧ Txs w' w.heap.size v (nodeArgs T) := by
  obtain ⟨a, b, c, d⟩ := term_some.1 h
  exact node_calls ⟨l.toArray⟩ T b (by show l.toArray.size ≤ 3000; simpa using a) d w

theorem Txs.two {w : World} {B : Nat} {v : Value} {a b : Bs} (h : Txs w B v [a, b]) :
    ∃ g off cap, v = .slice (some ⟨g, off, none⟩) 2 cap ∧ B ≤ g ∧ g < w.heap.size ∧ w.cell? ⟨g, off, none⟩ = some (str a) ∧ w.cell? ⟨g, off + 1, none⟩ = some (str b) := by
  obtain ⟨g, off, cap, e, h1, h2, h3, h4⟩ := h
  exact ⟨g, off, cap, e, h1, h2, h4 0 a rfl, h4 1 b rfl⟩

end Go.Proofs.YtdikjmhnjlalbabGreat.sop

/- Contract of the model's l02Put. -/
namespace Go.Proofs.YtdikjmhnjlalbabGreat.spt
open Go.RowKit Go.Proofs.YtdikjmhnjlalbabGreat.tm Go.Proofs.YtdikjmhnjlalbabGreat.lib Go.Proofs.YtdikjmhnjlalbabGreat.rdr Go.Proofs.YtdikjmhnjlalbabGreat.bld Go.Proofs.YtdikjmhnjlalbabGreat.app Go.Proofs.YtdikjmhnjlalbabGreat.snd Go.Proofs.YtdikjmhnjlalbabGreat.sop Go.Proofs.YtdikjmhnjlalbabGreat.ato
set_option linter.unusedVariables false

section
variable {w : World} {ops : Array Oper} {rest : List Oper} {o : Oper} {a : Act} {Q : Exit → Act → World → Prop}

set_option maxRecDepth 100000 in
/-- append of texts that lie somewhere to a row of the call's own. -/
theorem wp_putN (s x : Operand) (ad : Addr) (m c : Nat) (new : List Bs) (B : Nat) (v : Value) (ls : List Bs) (hgd : o.guard = none)
    (ho : o.op = .call { callee := .builtin .append, args := #[s, x], argTypes := #[23, 23] })
    (hs : a.eval s = v) (hown : Strs w B v ls)
    (hx : a.eval x = .slice (some ad) m c) (hm : new.length = m) (hnews : ∀ j l, new[j]? = some l → w.cell? (ad.add j) = some (str l))
    (hl : ls.length + m ≤ 1000000) (hB : B ≤ w.heap.size)
    (h : ∀ v' w', Strs w' B v' (ls ++ new) → Below B w w' → wpList Tryz.prog ops Q rest (a.put o.dst v') w') :
    wpList Tryz.prog ops Q (o :: rest) a w := by
  obtain ⟨i0, hi, hz0, hz1, hz2⟩ := info_parts infoS
  refine wpList_append_own w hgd s x 23 ho B 9 i0 (.string ⟨#[]⟩) 1 16 Tryz.underlying23 hi hz0 hz1 hz2 rfl (by decide) v ls.length _ hs hown ad m c (new.map str) hx (by simpa using hm) ?_ ?_ ?_ ?_ hB ?_
  · intro j u hj
    rw [List.getElem?_map] at hj
    cases hq : new[j]? with
    | none => rw [hq] at hj; cases hj
    | some l => rw [hq] at hj; cases hj; exact hnews j l hq
  · intro u hu
    obtain ⟨l, _, rfl⟩ := List.mem_map.1 hu
    rfl
  · unfold maxLen; omega
  · omega
  · intro v' w' h1 h2 _
    refine h v' w' ?_ ((Below.refl B _).grown h2 hB fun k hk => (World.ownsRow.lt hown k hk).1)
    unfold Strs
    rw [List.map_append, List.length_append, hm]
    exact h1
end

theorem Strs.txs {w : World} {B : Nat} {v : Value} {ls : List Bs} (h : Strs w B v ls) (hne : ls ≠ []) : Txs w B v ls := by
  have h' := h
  obtain ⟨hl, h⟩ := h
  rcases h with ⟨rfl, h⟩ | ⟨g, cap, cur, rfl, hg, hh, hc1, hc2, hc3, hc4⟩
  · exact absurd (List.eq_nil_of_length_eq_zero h) hne
  · refine ⟨g, 0, cap, rfl, hg, (World.ownsRow.lt h' g rfl).2, hc1, fun j T hj => ?_⟩
    have := World.ownsRow.cells h' (g := g) rfl j (str T) (by rw [List.getElem?_map, hj]; rfl)
    rw [Addr.add_lit] at this
    exact this

/-- Where the text is to be put. -/
theorem put_at (l : List Bs) (t : Bs) (k : Nat) (hk : k ≤ l.length) (h1 : ∀ j, j < k → ∀ x, l[j]? = some x → x < t) (h2 : ∀ x, l[k]? = some x → ¬ x < t) :
    put l t = if l[k]? = some t then l else l.take k ++ t :: l.drop k := by
  have e : (l.takeWhile (fun x => decide (x < t))).length = k := by
    induction l generalizing k with
    | nil => simp at hk; subst hk; rfl
    | cons c l ih =>
      cases k with
      | zero =>
        have := h2 c rfl
        simp [this]
      | succ k =>
        have hc := h1 0 (by omega) c rfl
        have := ih k (by simpa using hk) (fun j hj x hx => h1 (j + 1) (by omega) x (by simpa using hx)) (fun x hx => h2 x (by simpa using hx))
        simp [hc, this]
  unfold put
  rw [e]

set_option maxHeartbeats 1000000 in
set_option maxRecDepth 100000 in
theorem put_both (v : Value) (ls : List Bs) (t : Bs) (B : Nat) (w : World) (h : Txs w B v ls) (hB : B ≤ w.heap.size) (hl : ls.length ≤ 100000) :
    Calls Tryz.prog 47 #[v, str t] w fun e w' => ∃ v', e = .returned v' ∧ Txs w' B v' (put ls t) ∧ (Strs w B v ls → Strs w' B v' (put ls t)) ∧ Below w.heap.size w w' := by
  obtain ⟨g, off, cap, rfl, hBg, hg, hcap, hc⟩ := h
  obtain ⟨n, hn⟩ : ∃ n, n = ls.length := ⟨_, rfl⟩
  have HC := Lib.hid hc
  have HN := Lib.hid hn
  rw [← hn] at hcap hl ⊢
  clear hc hn
  go_enter Tryz.func47, Tryz.ntmps47
  go_wp2_with fail
  go_loop [5, 7, 8, 9, 10, 11, 12, 13, 14, 15, 16, 17, 18, 19, 20] (fun vk _ _ _ _ _ _ _ _ _ _ _ _ _ _ => ∃ k : Nat, k ≤ n ∧ vk = .int .i64 k ∧ ∀ j, j < k → ∀ x, ls[j]? = some x → x < t) (fun vk _ _ _ _ _ _ _ _ _ _ _ _ _ _ => n - (intOf vk).toNat)
  case atStart => exact ⟨0, Nat.zero_le _, rfl, fun j hj => by omega⟩
  case round =>
    obtain ⟨k, hk, rfl, hall⟩ := hrel
    have HA := Lib.hid hall
    clear hall
    by_cases hlt : k < n
    · obtain ⟨x, hx⟩ : ∃ x, ls[k]? = some x := ⟨_, List.getElem?_eq_getElem (by have := HN.out; omega)⟩
      have c1 : w.cell? ⟨g, off + k, none⟩ = some (str x) := HC.out k x hx
      have HX := Lib.hid hx
      by_cases hxt : x < t
      · have b1 : Op.bytesLess x t = true := by rw [bytesLess_eq]; simpa using hxt
        have HXT := Lib.hid hxt
        clear hx hxt
        go_wp2_with fail
        go_round
        case rel =>
          refine ⟨k + 1, by omega, by go_num, fun j hj y hy => ?_⟩
          by_cases e : j = k
          · subst e; rw [HX.out] at hy; cases hy; exact HXT.out
          · exact HA.out j (by omega) y hy
        case measure => simp [intOf]; omega
      · have b1 : Op.bytesLess x t = false := by rw [bytesLess_eq]; simpa using hxt
        have hp := put_at ls t k (by have := HN.out; omega) HA.out (fun y hy => by rw [HX.out] at hy; cases hy; exact hxt)
        rw [hx] at hp
        by_cases he : x = t
        · subst he
          rw [if_pos rfl] at hp
          have HP := Lib.hid hp
          have b2 : (x == x) = true := by simp
          clear hx hxt hp
          go_wp2_with fail
          go_ret
          exact ⟨.slice (some ⟨g, off, none⟩) n cap, rfl, by rw [HP.out]; exact ⟨g, off, cap, by rw [← HN.out], hBg, hg, by rw [← HN.out]; exact hcap, HC.out⟩, fun h => by rw [HP.out]; exact h, Below.refl _ _⟩
        · rw [if_neg (fun e => he (Option.some.inj e))] at hp
          have HP := Lib.hid hp
          have b2 : (x == t) = false := by rw [beq_eq_false_iff_ne]; exact he
          clear hx hxt hp he
          have hkc : k ≤ cap := by omega
          have g1 : (ls.take k).length = k := by rw [List.length_take]; have := HN.out; omega
          have g2 : ∀ j l, (ls.take k)[j]? = some l → (w.alloc (.cells #[] 9)).cell? ((⟨g, off, none⟩ : Addr).add j) = some (str l) := fun j l hj => by
            rw [Addr.add_lit, World.cell?_alloc_lt _ _ ⟨g, off + j, none⟩ hg]
            refine HC.out j l ?_
            have hj' : j < k := by rcases Nat.lt_or_ge j k with h | h; exact h; rw [List.getElem?_eq_none (by omega)] at hj; cases hj
            rw [List.getElem?_take_of_lt hj'] at hj
            exact hj
          have g3 : (ls.drop k).length = (n - k) := by rw [List.length_drop]; have := HN.out; omega
          have G1 := Lib.hid g1
          have G2 := Lib.hid g2
          have G3 := Lib.hid g3
          clear g1 g2 g3
          go_wp2_with (first
            | (at_builtin; refine wp_putN (.tmp 34) (.tmp 37) ⟨g, off, none⟩ k cap (ls.take k) w.heap.size _ [] rfl rfl rfl (sar.strs_empty _ _ (Nat.le_refl _)) rfl G1.out G2.out (by simp; omega) (by simp) ?_; intro v1 w1 s1 b1; rw [List.nil_append] at s1; have hz1 := b1.size; simp at hz1; have S1 := Lib.hid s1; have HB1 := Lib.hid (((Below.refl _ _).alloc (Nat.le_refl _) _).trans b1 : Below w.heap.size w w1); clear s1 b1)
            | (at_builtin; refine wp_putS (.tmp 39) (.tmp 41) t w.heap.size _ (ls.take k) rfl rfl rfl S1.out rfl (by rw [G1.out]; omega) (by omega) ?_; intro v2 w2 s2 b2; have hz2 := b2.size; have S2 := Lib.hid s2; have HB2 := Lib.hid (HB1.out.trans b2); clear s2 b2)
            | (at_builtin; refine wp_putN (.tmp 43) (.tmp 46) ⟨g, off + k, none⟩ (n - k) (cap - k) (ls.drop k) w.heap.size _ (ls.take k ++ [t]) rfl rfl rfl S2.out rfl G3.out ?_ (by rw [List.length_append, G1.out]; simp; omega) (by omega) ?_; rotate_left; intro v3 w3 s3 b3; have S3 := Lib.hid s3; have HB3 := Lib.hid (HB2.out.trans b3); clear s3 b3))
          · go_ret
            refine ⟨_, rfl, ?_, fun _ => (by rw [HP.out]; have h9 := S3.out; rw [List.append_assoc] at h9; exact own_base h9 hB), HB3.out⟩
            rw [HP.out]
            have := S3.out
            rw [List.append_assoc] at this
            obtain ⟨g', off', cap', e, h1, h2, h3, h4⟩ := Strs.txs this (by simp)
            exact ⟨g', off', cap', e, by omega, h2, h3, h4⟩
          · intro j l hj
            refine (HB2.out.cell (p := ⟨g, off + k + j, none⟩) hg).trans ?_
            rw [Nat.add_assoc]
            exact HC.out _ l (by simpa [List.getElem?_drop] using hj)
    · obtain rfl : k = n := by omega
      have hnone : ls[k]? = none := List.getElem?_eq_none (by rw [← HN.out]; exact Nat.le_refl _)
      have hp := put_at ls t k (by have := HN.out; omega) HA.out (fun y hy => by rw [hnone] at hy; cases hy)
      rw [hnone, if_neg (by intro e; cases e)] at hp
      have HP := Lib.hid hp
      clear hp hnone
      by_cases hck : cap = k
      · subst hck
        have hkc : cap ≤ cap := by omega
        have g1 : (ls.take cap).length = cap := by rw [List.length_take]; have := HN.out; omega
        have g2 : ∀ j l, (ls.take cap)[j]? = some l → (w.alloc (.cells #[] 9)).cell? ((⟨g, off, none⟩ : Addr).add j) = some (str l) := fun j l hj => by
          rw [Addr.add_lit, World.cell?_alloc_lt _ _ ⟨g, off + j, none⟩ hg]
          refine HC.out j l ?_
          have hj' : j < cap := by rcases Nat.lt_or_ge j cap with h | h; exact h; rw [List.getElem?_eq_none (by omega)] at hj; cases hj
          rw [List.getElem?_take_of_lt hj'] at hj
          exact hj
        have g3 : (ls.drop cap).length = 0 := by rw [List.length_drop]; have := HN.out; omega
        have G1 := Lib.hid g1
        have G2 := Lib.hid g2
        have G3 := Lib.hid g3
        clear g1 g2 g3
        go_wp2_with (first
          | (at_builtin; refine wp_putN (.tmp 34) (.tmp 37) ⟨g, off, none⟩ cap cap (ls.take cap) w.heap.size _ [] rfl rfl rfl (sar.strs_empty _ _ (Nat.le_refl _)) rfl G1.out G2.out (by simp; omega) (by simp) ?_; intro v1 w1 s1 b1; rw [List.nil_append] at s1; have hz1 := b1.size; simp at hz1; have S1 := Lib.hid s1; have HB1 := Lib.hid (((Below.refl _ _).alloc (Nat.le_refl _) _).trans b1 : Below w.heap.size w w1); clear s1 b1)
          | (at_builtin; refine wp_putS (.tmp 39) (.tmp 41) t w.heap.size _ (ls.take cap) rfl rfl rfl S1.out rfl (by rw [G1.out]; omega) (by omega) ?_; intro v2 w2 s2 b2; have hz2 := b2.size; have S2 := Lib.hid s2; have HB2 := Lib.hid (HB1.out.trans b2); clear s2 b2)
          | (at_builtin; refine wp_putN (.tmp 43) (.tmp 46) ⟨g, off, none⟩ 0 0 (ls.drop cap) w.heap.size _ (ls.take cap ++ [t]) rfl rfl rfl S2.out rfl G3.out ?_ (by rw [List.length_append, G1.out]; simp; omega) (by omega) ?_; rotate_left; intro v3 w3 s3 b3; have S3 := Lib.hid s3; have HB3 := Lib.hid (HB2.out.trans b3); clear s3 b3))
        · go_ret
          refine ⟨_, rfl, ?_, fun _ => (by rw [HP.out]; have h9 := S3.out; rw [List.append_assoc] at h9; exact own_base h9 hB), HB3.out⟩
          rw [HP.out]
          have := S3.out
          rw [List.append_assoc] at this
          obtain ⟨g', off', cap', e, h1, h2, h3, h4⟩ := Strs.txs this (by simp)
          exact ⟨g', off', cap', e, by omega, h2, h3, h4⟩
        · intro j l hj
          rw [List.getElem?_eq_none (by have := HN.out; omega)] at hj
          cases hj
      · have hck2 : k < cap := by omega
        have hkc : k ≤ cap := by omega
        have g1 : (ls.take k).length = k := by rw [List.length_take]; have := HN.out; omega
        have g2 : ∀ j l, (ls.take k)[j]? = some l → (w.alloc (.cells #[] 9)).cell? ((⟨g, off, none⟩ : Addr).add j) = some (str l) := fun j l hj => by
          rw [Addr.add_lit, World.cell?_alloc_lt _ _ ⟨g, off + j, none⟩ hg]
          refine HC.out j l ?_
          have hj' : j < k := by rcases Nat.lt_or_ge j k with h | h; exact h; rw [List.getElem?_eq_none (by omega)] at hj; cases hj
          rw [List.getElem?_take_of_lt hj'] at hj
          exact hj
        have g3 : (ls.drop k).length = 0 := by rw [List.length_drop]; have := HN.out; omega
        have G1 := Lib.hid g1
        have G2 := Lib.hid g2
        have G3 := Lib.hid g3
        clear g1 g2 g3
        go_wp2_with (first
          | (at_builtin; refine wp_putN (.tmp 34) (.tmp 37) ⟨g, off, none⟩ k cap (ls.take k) w.heap.size _ [] rfl rfl rfl (sar.strs_empty _ _ (Nat.le_refl _)) rfl G1.out G2.out (by simp; omega) (by simp) ?_; intro v1 w1 s1 b1; rw [List.nil_append] at s1; have hz1 := b1.size; simp at hz1; have S1 := Lib.hid s1; have HB1 := Lib.hid (((Below.refl _ _).alloc (Nat.le_refl _) _).trans b1 : Below w.heap.size w w1); clear s1 b1)
          | (at_builtin; refine wp_putS (.tmp 39) (.tmp 41) t w.heap.size _ (ls.take k) rfl rfl rfl S1.out rfl (by rw [G1.out]; omega) (by omega) ?_; intro v2 w2 s2 b2; have hz2 := b2.size; have S2 := Lib.hid s2; have HB2 := Lib.hid (HB1.out.trans b2); clear s2 b2)
          | (at_builtin; refine wp_putN (.tmp 43) (.tmp 46) ⟨g, off + k, none⟩ 0 (cap - k) (ls.drop k) w.heap.size _ (ls.take k ++ [t]) rfl rfl rfl S2.out rfl G3.out ?_ (by rw [List.length_append, G1.out]; simp; omega) (by omega) ?_; rotate_left; intro v3 w3 s3 b3; have S3 := Lib.hid s3; have HB3 := Lib.hid (HB2.out.trans b3); clear s3 b3))
        · go_ret
          refine ⟨_, rfl, ?_, fun _ => (by rw [HP.out]; have h9 := S3.out; rw [List.append_assoc] at h9; exact own_base h9 hB), HB3.out⟩
          rw [HP.out]
          have := S3.out
          rw [List.append_assoc] at this
          obtain ⟨g', off', cap', e, h1, h2, h3, h4⟩ := Strs.txs this (by simp)
          exact ⟨g', off', cap', e, by omega, h2, h3, h4⟩
        · intro j l hj
          rw [List.getElem?_eq_none (by have := HN.out; omega)] at hj
          cases hj

theorem put_calls (v : Value) (ls : List Bs) (t : Bs) (B : Nat) (w : World) (h : Txs w B v ls) (hB : B ≤ w.heap.size) (hl : ls.length ≤ 100000) :
    Calls Tryz.prog 47 #[v, str t] w fun e w' => ∃ v', e = .returned v' ∧ Txs w' B v' (put ls t) ∧ Below w.heap.size w w' :=
  (put_both v ls t B w h hB hl).mono fun e w' ⟨v', h1, h2, _, h3⟩ => ⟨v', h1, h2, h3⟩

theorem put_len (l : List Bs) (t : Bs) : (put l t).length ≤ l.length + 1 := by
  unfold put
  split
  · omega
  · have := List.Sublist.length_le (List.takeWhile_sublist (l := l) (fun x => decide (x < t)))
    rw [List.length_append, List.length_cons, List.length_take, List.length_drop]
    omega
theorem puts_len : ∀ (ts l : List Bs), (puts l ts).length ≤ l.length + ts.length
  | [], l => by simp [puts]
  | t :: ts, l => by
    have h1 := puts_len ts (put l t)
    have h2 := put_len l t
    show (puts (put l t) ts).length ≤ _
    rw [List.length_cons]
    omega
theorem puts_append (l a b : List Bs) : puts l (a ++ b) = puts (puts l a) b := by simp [puts]

theorem Txs.below {w w' : World} {B : Nat} {v : Value} {ls : List Bs} (h : Txs w B v ls) (k : Below w.heap.size w w') : Txs w' B v ls := by
  obtain ⟨g, off, cap, e, hB, hg, hc, hh⟩ := h
  refine ⟨g, off, cap, e, hB, Nat.lt_of_lt_of_le hg k.size, hc, fun j l hj => ?_⟩
  rw [← hh j l hj]
  exact k.cell (p := ⟨g, off + j, none⟩) hg

theorem node_tx (T : Tm) (hT : T.ok) (hl : T.tx.length ≤ 3000) (w : World) :
    Calls Tryz.prog 53 #[str T.tx] w fun e w' => ∃ v, e = .returned (.agg #[str T.op, v]) ∧ Below w.heap.size w w' ∧ Txs w' w.heap.size v (nodeArgs T) :=
  node_calls ⟨T.tx.toArray⟩ T hT (by show T.tx.toArray.size ≤ 3000; simpa using hl) rfl w

end Go.Proofs.YtdikjmhnjlalbabGreat.spt
