/- Several small texts, one behind the other. -/
import Derived.Test.YtnlinlodgpbnlaaGreatQh
import Derived.Test.YtnlinlodgpbnlaaGreatQb
import Derived.BigRegion
import Derived.RegionTactic
import Derived.Test.YtnlinlodgpbnlaaGreatQc

/- Contract of the model's l02Node. -/
namespace Go.Proofs.YtnlinlodgpbnlaaGreat.snd
open Go.RowKit Go.Proofs.YtnlinlodgpbnlaaGreat.tm Go.Proofs.YtnlinlodgpbnlaaGreat.lib Go.Proofs.YtnlinlodgpbnlaaGreat.rdr Go.Proofs.YtnlinlodgpbnlaaGreat.bld Go.Proofs.YtnlinlodgpbnlaaGreat.app Go.Proofs.YtnlinlodgpbnlaaGreat.spm Go.Proofs.YtnlinlodgpbnlaaGreat.sar Go.Proofs.YtnlinlodgpbnlaaGreat.sdp
set_option linter.unusedVariables false

/-- A slice of texts, somewhere from block B on. -/
def Txs (w : World) (B : Nat) (v : Value) (ls : List Bs) : Prop := ∃ g off cap, v = .slice (some ⟨g, off, none⟩) ls.length cap ∧ B ≤ g ∧ g < w.heap.size ∧ ls.length ≤ cap ∧ ∀ j l, ls[j]? = some l → w.cell? ⟨g, off + j, none⟩ = some (str l)

/-- The args of a node: of an atom it alone. -/
def nodeArgs (T : Tm) : List Bs := if T.isAtom then [T.tx] else T.kids.map Tm.tx

theorem atom_first {T : Tm} (hT : T.ok) (h : T.isAtom = true) : ∃ (s0 : UInt8) (r : Bs), T.tx = s0 :: r ∧ s0 ≠ 91 := by
  match T, h, hT with
  | .atom a, _, hT =>
    cases a with
    | nil => have := atomR_ne (show atomR [] = true from hT); exact absurd rfl this
    | cons c r =>
      refine ⟨c, r, rfl, ?_⟩
      have := atomR_all (show atomR (c :: r) = true from hT)
      simp at this
      rintro rfl
      exact absurd this.1 (by decide)

theorem byte0 {s : ByteArray} {c : UInt8} {r : Bs} (h : s.data.toList = c :: r) : ∃ hp : 0 < s.size, s[0] = c := by
  have hp : 0 < s.size := by
    have := congrArg List.length h
    have e : s.data.toList.length = s.size := rfl
    rw [e] at this
    simp at this
    omega
  refine ⟨hp, ?_⟩
  have := drop_lt s 0 hp
  rw [List.drop_zero, h] at this
  exact (List.cons.inj this).1.symm

set_option maxHeartbeats 1000000 in
set_option maxRecDepth 100000 in
theorem node_calls (s : ByteArray) (T : Tm) (hT : T.ok) (hs : s.size ≤ 3000) (he : T.tx = s.data.toList) (w : World) :
    Calls Tryz.prog 78 #[.string s] w fun e w' => ∃ v, e = .returned (.agg #[str T.op, v]) ∧ Below w.heap.size w w' ∧ Txs w' w.heap.size v (nodeArgs T) := by
  cases hn : T.isAtom with
  | true =>
    obtain ⟨c, r, h1, h2⟩ := atom_first hT hn
    obtain ⟨hp, h0⟩ := byte0 (he ▸ h1 : s.data.toList = c :: r)
    have d0 : ((s[0].toNat : Int) != 91) = true := by
      rw [h0]; simp; intro e; exact h2 (UInt8.toNat_inj.1 (by show _ = 91; omega))
    have hop : T.op = [] := by cases T <;> first | rfl | (simp [Tm.isAtom] at hn)
    have hna : nodeArgs T = [s.data.toList] := by unfold nodeArgs; rw [hn, if_pos rfl, he]
    rw [hop, hna]
    clear h0 h1 h2 hop hna hn he hT
    go_enter Tryz.func78, Tryz.ntmps78
    go_wp2_with fail
    refine bodyPost_ret (v := .agg #[.string ⟨#[]⟩, .slice (some ⟨w.heap.size + 1, 0, none⟩) 1 1]) (by simp [results, Tryz.results78, go_sem]) rfl ⟨_, rfl, ?_, _, _, _, rfl, ?_, ?_, ?_, ?_⟩
    · exact ((Below.refl _ _).alloc (Nat.le_refl _) _).alloc (by simp) _
    · simp
    · simp
    · simp
    · intro j l hj
      match j, hj with
      | 0, hj => simp at hj; subst hj; simp [go_sem]
      | j + 1, hj => simp at hj
  | false =>
    have ha := args_tx hT hn
    rw [he] at ha
    have hna : nodeArgs T = T.kids.map Tm.tx := by unfold nodeArgs; rw [hn]; rfl
    obtain ⟨ks, hks⟩ : ∃ ks, ks = T.kids.map Tm.tx := ⟨_, rfl⟩
    obtain ⟨op, hop⟩ : ∃ op, op = T.op := ⟨_, rfl⟩
    have h3 : (∃ x, ks = [x]) ∨ (∃ x y, ks = [x, y]) := by
      rw [hks]
      cases T with
      | atom a => cases hn
      | pair x y => exact .inr ⟨_, _, rfl⟩
      | hash x => exact .inl ⟨_, rfl⟩
      | mac x y => exact .inr ⟨_, _, rfl⟩
      | shut x y => exact .inr ⟨_, _, rfl⟩
      | pub a => exact .inl ⟨_, rfl⟩
      | dh a b => exact .inr ⟨_, _, rfl⟩
    have h0 : ∃ r, s.data.toList = 91 :: r := by rw [← he, tx_say T hn]; exact ⟨_, rfl⟩
    obtain ⟨r, hr⟩ := h0
    obtain ⟨hp, h0⟩ := byte0 hr
    have d0 : ((s[0].toNat : Int) != 91) = false := by rw [h0]; rfl
    rw [hna]
    rw [← hks] at ha ⊢
    rw [← hop] at ha ⊢
    have HA := Lib.hid ha
    clear hr h0 hna hn he hT ha hop hks
    go_enter Tryz.func78, Tryz.ntmps78
    go_wp2_with fail
    refine (args_calls s hs _).mono ?_
    rintro e w1 ⟨v, hb, hk⟩
    have HB := Lib.hid hb
    rcases hk with ⟨hk, rfl⟩ | ⟨a, hk, rfl, ho⟩
    · rw [HA.out] at hk; cases hk
    rw [HA.out] at hk
    cases hk
    have hcap := ho
    obtain ⟨g, cap, rfl, c0, c1, c2, hg⟩ := Strs.cons ho
    obtain ⟨k0, k1, f0, f1, hz⟩ := two (clo.new_kept hb)
    have hgb : w.heap.size < g := by
      have := (World.ownsRow.lt ho g rfl).1
      simp at this
      omega
    have hcap2 : ks.length + 1 ≤ cap := by
      obtain ⟨_, hh⟩ := ho
      rcases hh with ⟨h1, _⟩ | ⟨g', cap', cur, h1, _, _, h2, _⟩
      · cases h1
      · cases h1; simpa using h2
    rcases h3 with ⟨x, rfl⟩ | ⟨x, y, rfl⟩
    · have c1 := c1 x rfl
      simp only [List.length_cons, List.length_nil] at hcap2
      clear hb ho hcap c2
      go_wp2_with fail
      go_region
      all_goals go_wp2_with fail
      refine bodyPost_ret (v := .agg #[str op, .slice (some ⟨g, 1, none⟩) 1 (cap - 1)]) (by simp [results, Tryz.results78, go_sem, k0, k1]) rfl ⟨_, rfl, ?_, g, 1, cap - 1, rfl, by omega, ?_, ?_, ?_⟩
      · exact (((((Below.refl _ _).alloc (Nat.le_refl _) _).trans (HB.out.mono (by simp))).setCell (by simp) _).setCell (by simp) _).drew
      · simp [World.setCell]; exact hg
      · simp; omega
      · have hne : ¬ (g = w.heap.size) := by omega
        intro j l hj
        match j, hj with
        | 0, hj => simp at hj; subst hj; simp [go_sem, c1]
        | j + 1, hj => simp at hj
    · have c1 := c1 x rfl
      have c2 := c2 y rfl
      simp only [List.length_cons, List.length_nil] at hcap2
      clear hb ho hcap
      go_wp2_with fail
      go_region
      all_goals go_wp2_with fail
      refine bodyPost_ret (v := .agg #[str op, .slice (some ⟨g, 1, none⟩) 2 (cap - 1)]) (by simp [results, Tryz.results78, go_sem, k0, k1]) rfl ⟨_, rfl, ?_, g, 1, cap - 1, rfl, by omega, ?_, ?_, ?_⟩
      · exact (((((Below.refl _ _).alloc (Nat.le_refl _) _).trans (HB.out.mono (by simp))).setCell (by simp) _).setCell (by simp) _).drew
      · simp [World.setCell]; exact hg
      · simp; omega
      · have hne : ¬ (g = w.heap.size) := by omega
        intro j l hj
        match j, hj with
        | 0, hj => simp at hj; subst hj; simp [go_sem, c1]
        | 1, hj => simp at hj; subst hj; simp [go_sem, c2]
        | j + 2, hj => simp at hj
end Go.Proofs.YtnlinlodgpbnlaaGreat.snd

/- What Open answers, and what leans on it; TermRight and l02Node of the model at texts. -/
namespace Go.Proofs.YtnlinlodgpbnlaaGreat.sop
open Go.RowKit Go.Proofs.YtnlinlodgpbnlaaGreat.tm Go.Proofs.YtnlinlodgpbnlaaGreat.lib Go.Proofs.YtnlinlodgpbnlaaGreat.rdr Go.Proofs.YtnlinlodgpbnlaaGreat.bld Go.Proofs.YtnlinlodgpbnlaaGreat.app Go.Proofs.YtnlinlodgpbnlaaGreat.snd
set_option linter.unusedVariables false

/-- What Open answers: the text, and the code. -/
inductive OpenR (key t : Bs) : Bs → Int → Prop
  | size (h : 8000 < key.length ∨ 8000 < t.length) : OpenR key t [] 2
  | form (h1 : key.length ≤ 8000) (h2 : t.length ≤ 8000) (h : term key = none ∨ term t = none) : OpenR key t [] 1
  | other (h1 : key.length ≤ 8000) (h2 : t.length ≤ 8000) (K T : Tm) (hK : term key = some K) (hT : term t = some T) (h : T.op ≠ oShut) : OpenR key t [] 6
  | none (h1 : key.length ≤ 8000) (h2 : t.length ≤ 8000) (K k x : Tm) (hK : term key = some K) (hT : term t = some (.shut k x)) (h : k.tx ≠ key) : OpenR key t [] 6
  | some (h1 : key.length ≤ 8000) (h2 : t.length ≤ 8000) (K k x : Tm) (hK : term key = some K) (hT : term t = some (.shut k x)) (h : k.tx = key) : OpenR key t x.tx 0

theorem open_total (key t : Bs) : ∃ r c, OpenR key t r c := by
  by_cases hs : 8000 < key.length ∨ 8000 < t.length
  · exact ⟨_, _, .size hs⟩
  have h1 : key.length ≤ 8000 := by omega
  have h2 : t.length ≤ 8000 := by omega
  cases hK : term key with
  | none => exact ⟨_, _, .form h1 h2 (.inl hK)⟩
  | some K =>
    cases hT : term t with
    | none => exact ⟨_, _, .form h1 h2 (.inr hT)⟩
    | some T =>
      by_cases ho : T.op = oShut
      · cases T with
        | shut k x =>
          by_cases hk : k.tx = key
          · exact ⟨_, _, .some h1 h2 K k x hK hT hk⟩
          · exact ⟨_, _, .none h1 h2 K k x hK hT hk⟩
        | _ => simp [Tm.op, oShut, oPair, oHash, oMac, oPub, oDh] at ho
      · exact ⟨_, _, .other h1 h2 K T hK hT ho⟩

theorem node_at (l : Bs) (T : Tm) (h : term l = some T) (w : World) :
    Calls Tryz.prog 78 #[str l] w fun e w' => ∃ v, e = .returned (.agg #[str T.op, v]) ∧ Below w.heap.size w w' ∧ Txs w' w.heap.size v (nodeArgs T) := by
  obtain ⟨a, b, c, d⟩ := term_some.1 h
  exact node_calls ⟨l.toArray⟩ T b (by show l.toArray.size ≤ 3000; simpa using a) d w

theorem Txs.two {w : World} {B : Nat} {v : Value} {a b : Bs} (h : Txs w B v [a, b]) :
    ∃ g off cap, v = .slice (some ⟨g, off, none⟩) 2 cap ∧ B ≤ g ∧ g < w.heap.size ∧ w.cell? ⟨g, off, none⟩ = some (str a) ∧ w.cell? ⟨g, off + 1, none⟩ = some (str b) := by
  obtain ⟨g, off, cap, e, h1, h2, h3, h4⟩ := h
  exact ⟨g, off, cap, e, h1, h2, h4 0 a rfl, h4 1 b rfl⟩

end Go.Proofs.YtnlinlodgpbnlaaGreat.sop

/- Contract of the model's l02Put. -/
namespace Go.Proofs.YtnlinlodgpbnlaaGreat.spt
open Go.RowKit Go.Proofs.YtnlinlodgpbnlaaGreat.tm Go.Proofs.YtnlinlodgpbnlaaGreat.lib Go.Proofs.YtnlinlodgpbnlaaGreat.rdr Go.Proofs.YtnlinlodgpbnlaaGreat.bld Go.Proofs.YtnlinlodgpbnlaaGreat.app Go.Proofs.YtnlinlodgpbnlaaGreat.snd Go.Proofs.YtnlinlodgpbnlaaGreat.sop Go.Proofs.YtnlinlodgpbnlaaGreat.ato
set_option linter.unusedVariables false

section
variable {w : World} {ops : Array Oper} {rest : List Oper} {o : Oper} {a : Act} {Q : Exit → Act → World → Prop}

set_option maxRecDepth 100000 in
/-- append of texts that lie somewhere to a row of the call's own. -/
theorem wp_putN (s x : Operand) (ad : Addr) (m c : Nat) (new : List Bs) (B : Nat) (v : Value) (ls : List Bs) (hgd : o.guard = none)
    (ho : o.op = .call { callee := .builtin .append, args := #[s, x], argTypes := #[23, 23] })
    (hs : a.eval s = v) (hown : Strs w B v ls)
    (hx : a.eval x = .slice (some ad) m c) (hm : new.length = m) (hnews : ∀ j l, new[j]? = some l → w.cell? (ad.add j) = some (str l))
    (hl : ls.length + m ≤ 1000000) (hB : B ≤ w.heap.size)
    (h : ∀ v' w', Strs w' B v' (ls ++ new) → Below B w w' → wpList Tryz.prog ops Q rest (a.put o.dst v') w') :
    wpList Tryz.prog ops Q (o :: rest) a w := by
  obtain ⟨i0, hi, hz0, hz1, hz2⟩ := info_parts infoS
  refine wpList_append_own w hgd s x 23 ho B 9 i0 (.string ⟨#[]⟩) 1 16 Tryz.underlying23 hi hz0 hz1 hz2 rfl (by decide) v ls.length _ hs hown ad m c (new.map str) hx (by simpa using hm) ?_ ?_ ?_ ?_ hB ?_
  · intro j u hj
    rw [List.getElem?_map] at hj
    cases hq : new[j]? with
    | none => rw [hq] at hj; cases hj
    | some l => rw [hq] at hj; cases hj; exact hnews j l hq
  · intro u hu
    obtain ⟨l, _, rfl⟩ := List.mem_map.1 hu
    rfl
  · unfold maxLen; omega
  · omega
  · intro v' w' h1 h2 _
    refine h v' w' ?_ ((Below.refl B _).grown h2 hB fun k hk => (World.ownsRow.lt hown k hk).1)
    unfold Strs
    rw [List.map_append, List.length_append, hm]
    exact h1
end

theorem Strs.txs {w : World} {B : Nat} {v : Value} {ls : List Bs} (h : Strs w B v ls) (hne : ls ≠ []) : Txs w B v ls := by
  have h' := h
  obtain ⟨hl, h⟩ := h
  rcases h with ⟨rfl, h⟩ | ⟨g, cap, cur, rfl, hg, hh, hc1, hc2, hc3, hc4⟩
  · exact absurd (List.eq_nil_of_length_eq_zero h) hne
  · refine ⟨g, 0, cap, rfl, hg, (World.ownsRow.lt h' g rfl).2, hc1, fun j T hj => ?_⟩
    have := World.ownsRow.cells h' (g := g) rfl j (str T) (by rw [List.getElem?_map, hj]; rfl)
    rw [Addr.add_lit] at this
    exact this

/-- Where the text is to be put. -/
theorem put_at (l : List Bs) (t : Bs) (k : Nat) (hk : k ≤ l.length) (h1 : ∀ j, j < k → ∀ x, l[j]? = some x → x < t) (h2 : ∀ x, l[k]? = some x → ¬ x < t) :
    put l t = if l[k]? = some t then l else l.take k ++ t :: l.drop k := by
  have e : (l.takeWhile (fun x => decide (x < t))).length = k := by
    induction l generalizing k with
    | nil => simp at hk; subst hk; rfl
    | cons c l ih =>
      cases k with
      | zero =>
        have := h2 c rfl
        simp [this]
      | succ k =>
        have hc := h1 0 (by omega) c rfl
        have := ih k (by simpa using hk) (fun j hj x hx => h1 (j + 1) (by omega) x (by simpa using hx)) (fun x hx => h2 x (by simpa using hx))
        simp [hc, this]
  unfold put
  rw [e]

set_option maxHeartbeats 1000000 in
set_option maxRecDepth 100000 in
theorem put_calls (v : Value) (ls : List Bs) (t : Bs) (B : Nat) (w : World) (h : Txs w B v ls) (hB : B ≤ w.heap.size) (hl : ls.length ≤ 100000) :
    Calls Tryz.prog 134 #[v, str t] w fun e w' => ∃ v', e = .returned v' ∧ Txs w' B v' (put ls t) ∧ Below w.heap.size w w' := by
  obtain ⟨g, off, cap, rfl, hBg, hg, hcap, hc⟩ := h
  obtain ⟨n, hn⟩ : ∃ n, n = ls.length := ⟨_, rfl⟩
  have HC := Lib.hid hc
  have HN := Lib.hid hn
  rw [← hn] at hcap hl ⊢
  clear hc hn
  go_enter Tryz.func134, Tryz.ntmps134
  go_wp2_with fail
  go_loop [5, 7, 8, 9, 10, 11, 12, 13, 14, 15, 16, 17, 18, 19, 20] (fun vk _ _ _ _ _ _ _ _ _ _ _ _ _ _ => ∃ k : Nat, k ≤ n ∧ vk = .int .i64 k ∧ ∀ j, j < k → ∀ x, ls[j]? = some x → x < t) (fun vk _ _ _ _ _ _ _ _ _ _ _ _ _ _ => n - (intOf vk).toNat)
  case atStart => exact ⟨0, Nat.zero_le _, rfl, fun j hj => by omega⟩
  case round =>
    obtain ⟨k, hk, rfl, hall⟩ := hrel
    have HA := Lib.hid hall
    clear hall
    by_cases hlt : k < n
    · obtain ⟨x, hx⟩ : ∃ x, ls[k]? = some x := ⟨_, List.getElem?_eq_getElem (by have := HN.out; omega)⟩
      have c1 : w.cell? ⟨g, off + k, none⟩ = some (str x) := HC.out k x hx
      have HX := Lib.hid hx
      by_cases hxt : x < t
      · have b1 : Op.bytesLess x t = true := by rw [bytesLess_eq]; simpa using hxt
        have HXT := Lib.hid hxt
        clear hx hxt
        go_wp2_with fail
        go_round
        case rel =>
          refine ⟨k + 1, by omega, by go_num, fun j hj y hy => ?_⟩
          by_cases e : j = k
          · subst e; rw [HX.out] at hy; cases hy; exact HXT.out
          · exact HA.out j (by omega) y hy
        case measure => simp [intOf]; omega
      · have b1 : Op.bytesLess x t = false := by rw [bytesLess_eq]; simpa using hxt
        have hp := put_at ls t k (by have := HN.out; omega) HA.out (fun y hy => by rw [HX.out] at hy; cases hy; exact hxt)
        rw [hx] at hp
        by_cases he : x = t
        · subst he
          rw [if_pos rfl] at hp
          have HP := Lib.hid hp
          have b2 : (x == x) = true := by simp
          clear hx hxt hp
          go_wp2_with fail
          go_ret
          exact ⟨.slice (some ⟨g, off, none⟩) n cap, rfl, by rw [HP.out]; exact ⟨g, off, cap, by rw [← HN.out], hBg, hg, by rw [← HN.out]; exact hcap, HC.out⟩, Below.refl _ _⟩
        · rw [if_neg (fun e => he (Option.some.inj e))] at hp
          have HP := Lib.hid hp
          have b2 : (x == t) = false := by rw [beq_eq_false_iff_ne]; exact he
          clear hx hxt hp he
          have hkc : k ≤ cap := by omega
          have g1 : (ls.take k).length = k := by rw [List.length_take]; have := HN.out; omega
          have g2 : ∀ j l, (ls.take k)[j]? = some l → (w.alloc (.cells #[] 9)).cell? ((⟨g, off, none⟩ : Addr).add j) = some (str l) := fun j l hj => by
            rw [Addr.add_lit, World.cell?_alloc_lt _ _ ⟨g, off + j, none⟩ hg]
            refine HC.out j l ?_
            have hj' : j < k := by rcases Nat.lt_or_ge j k with h | h; exact h; rw [List.getElem?_eq_none (by omega)] at hj; cases hj
            rw [List.getElem?_take_of_lt hj'] at hj
            exact hj
          have g3 : (ls.drop k).length = (n - k) := by rw [List.length_drop]; have := HN.out; omega
          have G1 := Lib.hid g1
          have G2 := Lib.hid g2
          have G3 := Lib.hid g3
          clear g1 g2 g3
          go_wp2_with (first
            | (at_builtin; refine wp_putN (.tmp 34) (.tmp 37) ⟨g, off, none⟩ k cap (ls.take k) w.heap.size _ [] rfl rfl rfl (sar.strs_empty _ _ (Nat.le_refl _)) rfl G1.out G2.out (by simp; omega) (by simp) ?_; intro v1 w1 s1 b1; rw [List.nil_append] at s1; have hz1 := b1.size; simp at hz1; have S1 := Lib.hid s1; have HB1 := Lib.hid (((Below.refl _ _).alloc (Nat.le_refl _) _).trans b1 : Below w.heap.size w w1); clear s1 b1)
            | (at_builtin; refine wp_putS (.tmp 39) (.tmp 41) t w.heap.size _ (ls.take k) rfl rfl rfl S1.out rfl (by rw [G1.out]; omega) (by omega) ?_; intro v2 w2 s2 b2; have hz2 := b2.size; have S2 := Lib.hid s2; have HB2 := Lib.hid (HB1.out.trans b2); clear s2 b2)
            | (at_builtin; refine wp_putN (.tmp 43) (.tmp 46) ⟨g, off + k, none⟩ (n - k) (cap - k) (ls.drop k) w.heap.size _ (ls.take k ++ [t]) rfl rfl rfl S2.out rfl G3.out ?_ (by rw [List.length_append, G1.out]; simp; omega) (by omega) ?_; rotate_left; intro v3 w3 s3 b3; have S3 := Lib.hid s3; have HB3 := Lib.hid (HB2.out.trans b3); clear s3 b3))
          · go_ret
            refine ⟨_, rfl, ?_, HB3.out⟩
            rw [HP.out]
            have := S3.out
            rw [List.append_assoc] at this
            obtain ⟨g', off', cap', e, h1, h2, h3, h4⟩ := Strs.txs this (by simp)
            exact ⟨g', off', cap', e, by omega, h2, h3, h4⟩
          · intro j l hj
            refine (HB2.out.cell (p := ⟨g, off + k + j, none⟩) hg).trans ?_
            rw [Nat.add_assoc]
            exact HC.out _ l (by simpa [List.getElem?_drop] using hj)
    · obtain rfl : k = n := by omega
      have hnone : ls[k]? = none := List.getElem?_eq_none (by rw [← HN.out]; exact Nat.le_refl _)
      have hp := put_at ls t k (by have := HN.out; omega) HA.out (fun y hy => by rw [hnone] at hy; cases hy)
      rw [hnone, if_neg (by intro e; cases e)] at hp
      have HP := Lib.hid hp
      clear hp hnone
      by_cases hck : cap = k
      · subst hck
        have hkc : cap ≤ cap := by omega
        have g1 : (ls.take cap).length = cap := by rw [List.length_take]; have := HN.out; omega
        have g2 : ∀ j l, (ls.take cap)[j]? = some l → (w.alloc (.cells #[] 9)).cell? ((⟨g, off, none⟩ : Addr).add j) = some (str l) := fun j l hj => by
          rw [Addr.add_lit, World.cell?_alloc_lt _ _ ⟨g, off + j, none⟩ hg]
          refine HC.out j l ?_
          have hj' : j < cap := by rcases Nat.lt_or_ge j cap with h | h; exact h; rw [List.getElem?_eq_none (by omega)] at hj; cases hj
          rw [List.getElem?_take_of_lt hj'] at hj
          exact hj
        have g3 : (ls.drop cap).length = 0 := by rw [List.length_drop]; have := HN.out; omega
        have G1 := Lib.hid g1
        have G2 := Lib.hid g2
        have G3 := Lib.hid g3
        clear g1 g2 g3
        go_wp2_with (first
          | (at_builtin; refine wp_putN (.tmp 34) (.tmp 37) ⟨g, off, none⟩ cap cap (ls.take cap) w.heap.size _ [] rfl rfl rfl (sar.strs_empty _ _ (Nat.le_refl _)) rfl G1.out G2.out (by simp; omega) (by simp) ?_; intro v1 w1 s1 b1; rw [List.nil_append] at s1; have hz1 := b1.size; simp at hz1; have S1 := Lib.hid s1; have HB1 := Lib.hid (((Below.refl _ _).alloc (Nat.le_refl _) _).trans b1 : Below w.heap.size w w1); clear s1 b1)
          | (at_builtin; refine wp_putS (.tmp 39) (.tmp 41) t w.heap.size _ (ls.take cap) rfl rfl rfl S1.out rfl (by rw [G1.out]; omega) (by omega) ?_; intro v2 w2 s2 b2; have hz2 := b2.size; have S2 := Lib.hid s2; have HB2 := Lib.hid (HB1.out.trans b2); clear s2 b2)
          | (at_builtin; refine wp_putN (.tmp 43) (.tmp 46) ⟨g, off, none⟩ 0 0 (ls.drop cap) w.heap.size _ (ls.take cap ++ [t]) rfl rfl rfl S2.out rfl G3.out ?_ (by rw [List.length_append, G1.out]; simp; omega) (by omega) ?_; rotate_left; intro v3 w3 s3 b3; have S3 := Lib.hid s3; have HB3 := Lib.hid (HB2.out.trans b3); clear s3 b3))
        · go_ret
          refine ⟨_, rfl, ?_, HB3.out⟩
          rw [HP.out]
          have := S3.out
          rw [List.append_assoc] at this
          obtain ⟨g', off', cap', e, h1, h2, h3, h4⟩ := Strs.txs this (by simp)
          exact ⟨g', off', cap', e, by omega, h2, h3, h4⟩
        · intro j l hj
          rw [List.getElem?_eq_none (by have := HN.out; omega)] at hj
          cases hj
      · have hck2 : k < cap := by omega
        have hkc : k ≤ cap := by omega
        have g1 : (ls.take k).length = k := by rw [List.length_take]; have := HN.out; omega
        have g2 : ∀ j l, (ls.take k)[j]? = some l → (w.alloc (.cells #[] 9)).cell? ((⟨g, off, none⟩ : Addr).add j) = some (str l) := fun j l hj => by
          rw [Addr.add_lit, World.cell?_alloc_lt _ _ ⟨g, off + j, none⟩ hg]
          refine HC.out j l ?_
          have hj' : j < k := by rcases Nat.lt_or_ge j k with h | h; exact h; rw [List.getElem?_eq_none (by omega)] at hj; cases hj
          rw [List.getElem?_take_of_lt hj'] at hj
          exact hj
        have g3 : (ls.drop k).length = 0 := by rw [List.length_drop]; have := HN.out; omega
        have G1 := Lib.hid g1
        have G2 := Lib.hid g2
        have G3 := Lib.hid g3
        clear g1 g2 g3
        go_wp2_with (first
          | (at_builtin; refine wp_putN (.tmp 34) (.tmp 37) ⟨g, off, none⟩ k cap (ls.take k) w.heap.size _ [] rfl rfl rfl (sar.strs_empty _ _ (Nat.le_refl _)) rfl G1.out G2.out (by simp; omega) (by simp) ?_; intro v1 w1 s1 b1; rw [List.nil_append] at s1; have hz1 := b1.size; simp at hz1; have S1 := Lib.hid s1; have HB1 := Lib.hid (((Below.refl _ _).alloc (Nat.le_refl _) _).trans b1 : Below w.heap.size w w1); clear s1 b1)
          | (at_builtin; refine wp_putS (.tmp 39) (.tmp 41) t w.heap.size _ (ls.take k) rfl rfl rfl S1.out rfl (by rw [G1.out]; omega) (by omega) ?_; intro v2 w2 s2 b2; have hz2 := b2.size; have S2 := Lib.hid s2; have HB2 := Lib.hid (HB1.out.trans b2); clear s2 b2)
          | (at_builtin; refine wp_putN (.tmp 43) (.tmp 46) ⟨g, off + k, none⟩ 0 (cap - k) (ls.drop k) w.heap.size _ (ls.take k ++ [t]) rfl rfl rfl S2.out rfl G3.out ?_ (by rw [List.length_append, G1.out]; simp; omega) (by omega) ?_; rotate_left; intro v3 w3 s3 b3; have S3 := Lib.hid s3; have HB3 := Lib.hid (HB2.out.trans b3); clear s3 b3))
        · go_ret
          refine ⟨_, rfl, ?_, HB3.out⟩
          rw [HP.out]
          have := S3.out
          rw [List.append_assoc] at this
          obtain ⟨g', off', cap', e, h1, h2, h3, h4⟩ := Strs.txs this (by simp)
          exact ⟨g', off', cap', e, by omega, h2, h3, h4⟩
        · intro j l hj
          rw [List.getElem?_eq_none (by have := HN.out; omega)] at hj
          cases hj

theorem put_len (l : List Bs) (t : Bs) : (put l t).length ≤ l.length + 1 := by
  unfold put
  split
  · omega
  · have := List.Sublist.length_le (List.takeWhile_sublist (l := l) (fun x => decide (x < t)))
    rw [List.length_append, List.length_cons, List.length_take, List.length_drop]
    omega
theorem puts_len : ∀ (ts l : List Bs), (puts l ts).length ≤ l.length + ts.length
  | [], l => by simp [puts]
  | t :: ts, l => by
    have h1 := puts_len ts (put l t)
    have h2 := put_len l t
    show (puts (put l t) ts).length ≤ _
    rw [List.length_cons]
    omega
theorem puts_append (l a b : List Bs) : puts l (a ++ b) = puts (puts l a) b := by simp [puts]

theorem Txs.below {w w' : World} {B : Nat} {v : Value} {ls : List Bs} (h : Txs w B v ls) (k : Below w.heap.size w w') : Txs w' B v ls := by
  obtain ⟨g, off, cap, e, hB, hg, hc, hh⟩ := h
  refine ⟨g, off, cap, e, hB, Nat.lt_of_lt_of_le hg k.size, hc, fun j l hj => ?_⟩
  rw [← hh j l hj]
  exact k.cell (p := ⟨g, off + j, none⟩) hg

theorem node_tx (T : Tm) (hT : T.ok) (hl : T.tx.length ≤ 3000) (w : World) :
    Calls Tryz.prog 78 #[str T.tx] w fun e w' => ∃ v, e = .returned (.agg #[str T.op, v]) ∧ Below w.heap.size w w' ∧ Txs w' w.heap.size v (nodeArgs T) :=
  node_calls ⟨T.tx.toArray⟩ T hT (by show T.tx.toArray.size ≤ 3000; simpa using hl) rfl w

end Go.Proofs.YtnlinlodgpbnlaaGreat.spt
