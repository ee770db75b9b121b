/- Contracts of the model's l02Many, l02Secret, l01Max, l02Deep, TermRight, DeepOf. -/
import Derived.Test.YtonjohlecomeoaaGreatSarq
import Derived.Test.YtonjohlecomeoaaGreatQd
namespace Go.Proofs.YtonjohlecomeoaaGreat.sdp
open Go.RowKit Go.Proofs.YtonjohlecomeoaaGreat.tm Go.Proofs.YtonjohlecomeoaaGreat.lib Go.Proofs.YtonjohlecomeoaaGreat.rdr Go.Proofs.YtonjohlecomeoaaGreat.bld Go.Proofs.YtonjohlecomeoaaGreat.app Go.Proofs.YtonjohlecomeoaaGreat.spm Go.Proofs.YtonjohlecomeoaaGreat.sar
set_option linter.unusedVariables false

theorem op_facts (op : Bs) : (op = oPair) ∨ (op = oMac) ∨ (op = oShut) ∨ (op = oDh) ∨ (op = oHash) ∨ (op = oPub) ∨ (op ≠ oPair ∧ op ≠ oMac ∧ op ≠ oShut ∧ op ≠ oDh ∧ op ≠ oHash ∧ op ≠ oPub) := by
  by_cases h1 : op = oPair
  · exact .inl h1
  by_cases h2 : op = oMac
  · exact .inr (.inl h2)
  by_cases h3 : op = oShut
  · exact .inr (.inr (.inl h3))
  by_cases h4 : op = oDh
  · exact .inr (.inr (.inr (.inl h4)))
  by_cases h5 : op = oHash
  · exact .inr (.inr (.inr (.inr (.inl h5))))
  by_cases h6 : op = oPub
  · exact .inr (.inr (.inr (.inr (.inr (.inl h6)))))
  · exact .inr (.inr (.inr (.inr (.inr (.inr ⟨h1, h2, h3, h4, h5, h6⟩)))))

set_option maxRecDepth 100000 in
theorem many_calls (op : Bs) (w : World) : Calls Tryz.prog 127 #[str op] w fun e w' => e = .returned (.int .i64 (many op : Nat)) ∧ w = w' := by
  rcases op_facts op with rfl | rfl | rfl | rfl | rfl | rfl | ⟨h1, h2, h3, h4, h5, h6⟩
  case inr.inr.inr.inr.inr.inr =>
    have hm : many op = 0 := by unfold many; rw [if_neg (by simp [h1, h2, h3, h4]), if_neg (by simp [h5, h6])]
    have e1 : (op == [112, 97, 105, 114]) = false := by rw [beq_eq_false_iff_ne]; exact h1
    have e2 : (op == [104, 97, 115, 104]) = false := by rw [beq_eq_false_iff_ne]; exact h5
    have e3 : (op == [109, 97, 99]) = false := by rw [beq_eq_false_iff_ne]; exact h2
    have e4 : (op == [115, 104, 117, 116]) = false := by rw [beq_eq_false_iff_ne]; exact h3
    have e5 : (op == [112, 117, 98]) = false := by rw [beq_eq_false_iff_ne]; exact h6
    have e6 : (op == [100, 104]) = false := by rw [beq_eq_false_iff_ne]; exact h4
    rw [hm]
    clear h1 h2 h3 h4 h5 h6 hm
    go_enter Tryz.func127, Tryz.ntmps127
    go_wp2_with fail
    go_ret
    exact ⟨rfl, rfl⟩
  all_goals
    first | rw [show many oPair = 2 from rfl] | rw [show many oMac = 2 from rfl] | rw [show many oShut = 2 from rfl] | rw [show many oDh = 2 from rfl] | rw [show many oHash = 1 from rfl] | rw [show many oPub = 1 from rfl]
    first | unfold oPair | unfold oMac | unfold oShut | unfold oDh | unfold oHash | unfold oPub
    go_enter Tryz.func127, Tryz.ntmps127
    go_wp2_with fail
    go_ret
    exact ⟨rfl, rfl⟩

set_option maxRecDepth 100000 in
theorem secret_calls (op : Bs) (w : World) : Calls Tryz.prog 128 #[str op] w fun e w' => e = .returned (.bool (secret op)) ∧ w = w' := by
  by_cases h1 : op = oPub
  · subst h1
    rw [show secret oPub = true from rfl]
    unfold oPub
    go_enter Tryz.func128, Tryz.ntmps128
    go_wp2_with fail
    go_ret
    exact ⟨rfl, rfl⟩
  by_cases h2 : op = oDh
  · subst h2
    rw [show secret oDh = true from rfl]
    unfold oDh
    go_enter Tryz.func128, Tryz.ntmps128
    go_wp2_with fail
    go_ret
    exact ⟨rfl, rfl⟩
  have hs : secret op = false := by simp [secret, h1, h2]
  have e5 : (op == [112, 117, 98]) = false := by rw [beq_eq_false_iff_ne]; exact h1
  have e6 : (op == [100, 104]) = false := by rw [beq_eq_false_iff_ne]; exact h2
  rw [hs]
  clear h1 h2 hs
  go_enter Tryz.func128, Tryz.ntmps128
  go_wp2_with fail
  go_ret
  exact ⟨rfl, rfl⟩

set_option maxRecDepth 100000 in
theorem max_calls (a b : Nat) (ha : a ≤ 100) (hb : b ≤ 100) (w : World) : Calls Tryz.prog 129 #[.int .i64 a, .int .i64 b] w fun e w' => e = .returned (.int .i64 (max a b : Nat)) ∧ w = w' := by
  by_cases h : a < b
  · rw [show max a b = b by omega]
    have d : decide ((b : Int) < a) = false := by simp; omega
    have d2 : decide ((a : Int) < b) = true := by simp; omega
    go_enter Tryz.func129, Tryz.ntmps129
    go_wp2_with fail
    go_ret
    exact ⟨rfl, rfl⟩
  · rw [show max a b = a by omega]
    have d2 : decide ((a : Int) < b) = false := by simp; omega
    by_cases h' : b < a
    · have d : decide ((b : Int) < a) = true := by simp; omega
      go_enter Tryz.func129, Tryz.ntmps129
      go_wp2_with fail
      go_ret
      exact ⟨rfl, rfl⟩
    · obtain rfl : a = b := by omega
      go_enter Tryz.func129, Tryz.ntmps129
      go_wp2_with fail
      all_goals go_ret
      all_goals exact ⟨rfl, rfl⟩

theorem Strs.form {w : World} {B : Nat} {v : Value} {ls : List Bs} (h : Strs w B v ls) :
    (v = .slice none 0 0 ∧ ls = []) ∨ ∃ g cap, v = .slice (some ⟨g, 0, none⟩) ls.length cap ∧ ∀ j l, ls[j]? = some l → w.cell? ⟨g, j, none⟩ = some (str l) := by
  have h' := h
  obtain ⟨hl, h⟩ := h
  rcases h with ⟨rfl, h⟩ | ⟨g, cap, cur, rfl, hg, hh, hc1, hc2, hc3, hc4⟩
  · exact .inl ⟨rfl, List.eq_nil_of_length_eq_zero h⟩
  · refine .inr ⟨g, cap, rfl, fun j T hj => ?_⟩
    have := World.ownsRow.cells h' (g := g) rfl j (str T) (by rw [List.getElem?_map, hj]; rfl)
    rw [Addr.add_lit, Nat.zero_add] at this
    exact this

theorem max_calls0 (b : Nat) (hb : b ≤ 100) (w : World) : Calls Tryz.prog 129 #[.int .i64 0, .int .i64 b] w fun e w' => e = .returned (.int .i64 b) ∧ w = w' := by
  have := max_calls 0 b (by omega) hb w
  rw [Nat.zero_max] at this
  exact this

def SD (n : Nat) : Prop := ∀ (t : ByteArray), t.size ≤ 3000 → ∀ (w : World), Calls Tryz.prog 94 #[.string t, .int .i64 n] w fun e w' => e = .returned (.int .i64 (dz n t.data.toList : Nat)) ∧ Below w.heap.size w w'

theorem specAtom_at (s : ByteArray) (hs : s.size ≤ 3000) (t : Bool) (h : atomR s.data.toList = t) (w : World) :
    Calls Tryz.prog 38 #[.string s] w fun e w' => e = .returned (.bool t) ∧ w = w' := by
  have := atm.specAtom_calls s (by unfold maxLen; omega) w
  rw [h] at this
  exact this

set_option maxRecDepth 100000 in
/-- An atom; no brackets; no depth left. -/
theorem sd_plain (n : Nat) (hn : 1 ≤ n) (hn2 : n ≤ 24) (t : ByteArray) (ht : t.size ≤ 3000) (h : atomR t.data.toList = true ∨ args t.data.toList = none ∨ n = 1) (w : World) :
    Calls Tryz.prog 94 #[.string t, .int .i64 n] w fun e w' => e = .returned (.int .i64 (dz n t.data.toList : Nat)) ∧ Below w.heap.size w w' := by
  by_cases ha : atomR t.data.toList = true
  · have hz : dz n t.data.toList = 1 := by rw [dz_some (pz_atom hn ha)]; rfl
    rw [hz]
    have a1 := specAtom_at t ht true ha
    clear ha h hz
    go_enter Tryz.func94, Tryz.ntmps94
    go_wp2_with (go_at_call 38; refine (a1 _).mono ?_; rintro e w' ⟨rfl, rfl⟩)
    go_ret
    exact ⟨rfl, Below.refl _ _⟩
  · have ha' : atomR t.data.toList = false := by simpa using ha
    have a1 := specAtom_at t ht false ha'
    have hz : dz n t.data.toList = 0 := by
      rcases h with h | h | h
      · exact absurd h ha
      · exact dz_none (pz_none_args ha' h)
      · rw [h]; exact dz_none (pz_one ha')
    rw [hz]
    have H := Lib.hid h
    have HA := Lib.hid ha
    clear ha ha' h hz
    go_enter Tryz.func94, Tryz.ntmps94
    go_wp2_with (go_at_call 38; refine (a1 _).mono ?_; rintro e w' ⟨rfl, rfl⟩)
    refine (args_calls t ht w).mono ?_
    rintro e w1 ⟨v, hb, hk⟩
    have HB := Lib.hid hb
    rcases hk with ⟨hk, rfl⟩ | ⟨a, hk, rfl, ho⟩
    · clear hb hk
      go_wp2_with fail
      go_ret
      exact ⟨rfl, HB.out⟩
    · have hn1 : n = 1 := by
        rcases H.out with h | h | h
        · exact absurd h HA.out
        · rw [h] at hk; cases hk
        · exact h
      have d1 : decide ((n : Int) ≤ 1) = true := by simp; omega
      clear hb hk ho hn1
      go_wp2_with fail
      go_ret
      exact ⟨rfl, HB.out⟩

theorem many_at (op : Bs) (m : Nat) (h : many op = m) (M : Int) (hM : (m : Int) = M) (w : World) : Calls Tryz.prog 127 #[str op] w fun e w' => e = .returned (.int .i64 M) ∧ w = w' := by
  have := many_calls op w
  rw [h, hM] at this
  exact this
theorem secret_at (op : Bs) (b : Bool) (h : secret op = b) (w : World) : Calls Tryz.prog 128 #[str op] w fun e w' => e = .returned (.bool b) ∧ w = w' := by
  have := secret_calls op w
  rw [h] at this
  exact this

theorem Strs.cons {w : World} {B : Nat} {v : Value} {op : Bs} {ks : List Bs} (h : Strs w B v (op :: ks)) :
    ∃ g cap, v = .slice (some ⟨g, 0, none⟩) (ks.length + 1) cap ∧ w.cell? ⟨g, 0, none⟩ = some (str op) ∧ (∀ x, ks[0]? = some x → w.cell? ⟨g, 1, none⟩ = some (str x)) ∧ (∀ x, ks[1]? = some x → w.cell? ⟨g, 2, none⟩ = some (str x)) ∧ g < w.heap.size := by
  rcases Strs.form h with ⟨_, h'⟩ | ⟨g, cap, e, hc⟩
  · cases h'
  · refine ⟨g, cap, e, hc 0 op rfl, fun x hx => hc 1 x hx, fun x hx => hc 2 x hx, ?_⟩
    have := World.ownsRow.lt h g (by rw [e]; rfl)
    exact this.2

set_option maxRecDepth 100000 in
/-- Not so many args. -/
theorem sd_shape (n : Nat) (hn : 1 ≤ n) (hn2 : n ≤ 23) (t : ByteArray) (ht : t.size ≤ 3000) (ha : atomR t.data.toList = false) (op : Bs) (ks : List Bs) (hargs : args t.data.toList = some (op :: ks)) (hm : many op = 0 ∨ ks.length ≠ many op) (w : World) :
    Calls Tryz.prog 94 #[.string t, .int .i64 (n + 1 : Nat)] w fun e w' => e = .returned (.int .i64 (dz (n + 1) t.data.toList : Nat)) ∧ Below w.heap.size w w' := by
  rw [dz_mk_none ha hargs (mk_many hm)]
  have a1 := specAtom_at t ht false ha
  have d1 : decide (((n + 1 : Nat) : Int) ≤ 1) = false := by simp; omega
  have HM := Lib.hid hm
  have HG := Lib.hid hargs
  clear ha hargs hm
  obtain ⟨M, hM⟩ : ∃ M : Int, M = ((n + 1 : Nat) : Int) := ⟨_, rfl⟩
  rw [← hM] at d1 ⊢
  clear hM
  go_enter Tryz.func94, Tryz.ntmps94
  go_wp2_with (go_at_call 38; refine (a1 _).mono ?_; rintro e w' ⟨rfl, rfl⟩)
  refine (args_calls t ht w).mono ?_
  rintro e w1 ⟨v, hb, hk⟩
  have HB := Lib.hid hb
  rcases hk with ⟨hk, rfl⟩ | ⟨a, hk, rfl, ho⟩
  · rw [HG.out] at hk; cases hk
  · rw [HG.out] at hk
    cases hk
    obtain ⟨g, cap, rfl, c0, e1, e2, hg⟩ := Strs.cons ho
    clear hb ho hg e1 e2
    obtain ⟨N, hN⟩ : ∃ N : Nat, N = ks.length + 1 := ⟨_, rfl⟩
    have hN0 : 0 < N := by omega
    rw [← hN]
    have hN2 := Lib.hid hN
    clear hN
    rcases many_cases op with h0 | ⟨h1, _⟩ | ⟨h2, _⟩
    · have mc := many_at op 0 h0 0 rfl
      clear h0
      go_wp2_with (go_at_call 127; refine (mc _).mono ?_; rintro e w' ⟨rfl, rfl⟩)
      go_ret
      exact ⟨rfl, HB.out⟩
    · have mc := many_at op 1 h1 1 rfl
      have dN : ((N : Int) != 2) = true := by rw [bne_iff_ne]; have := HM.out; have := hN2.out; omega
      clear h1
      go_wp2_with (go_at_call 127; refine (mc _).mono ?_; rintro e w' ⟨rfl, rfl⟩)
      go_ret
      exact ⟨rfl, HB.out⟩
    · have mc := many_at op 2 h2 2 rfl
      have dN : ((N : Int) != 3) = true := by rw [bne_iff_ne]; have := HM.out; have := hN2.out; omega
      clear h2
      go_wp2_with (go_at_call 127; refine (mc _).mono ?_; rintro e w' ⟨rfl, rfl⟩)
      go_ret
      exact ⟨rfl, HB.out⟩

theorem SD.at {n : Nat} (h : SD n) (x : Bs) (hx : x.length ≤ 3000) (d : Nat) (hd : dz n x = d) (w : World) :
    Calls Tryz.prog 94 #[str x, .int .i64 n] w fun e w' => e = .returned (.int .i64 (d : Nat)) ∧ Below w.heap.size w w' := by
  have := h ⟨x.toArray⟩ (by show x.toArray.size ≤ 3000; simpa using hx) w
  rw [show dz n (⟨x.toArray⟩ : ByteArray).data.toList = d from hd] at this
  exact this

theorem args_len {t : Bs} {op : Bs} {ks : List Bs} (h : args t = some (op :: ks)) : ∀ k ∈ ks, k.length ≤ t.length := by
  obtain ⟨op', ks', e1, e2⟩ := args_say h
  cases e1
  intro k hk
  rw [e2]
  unfold say
  simp only [List.length_cons, List.length_append]
  have : ∀ (l : List Bs), k ∈ l → k.length ≤ (l.flatMap (32 :: ·)).length := by
    intro l
    induction l with
    | nil => intro h; cases h
    | cons a l ih =>
      intro h
      simp only [List.flatMap_cons, List.length_append, List.length_cons]
      rcases List.mem_cons.1 h with rfl | h
      · omega
      · have := ih h; omega
  have := this ks hk
  omega

set_option maxHeartbeats 1000000 in
set_option maxRecDepth 100000 in
/-- One arg. -/
theorem sd_one (n : Nat) (hn : 1 ≤ n) (hn2 : n ≤ 23) (ih : SD n) (t : ByteArray) (ht : t.size ≤ 3000) (ha : atomR t.data.toList = false) (op x : Bs) (hargs : args t.data.toList = some [op, x]) (hm : many op = 1) (b : Bool) (hsec : secret op = b) (D : Nat)
    (hres : (dz n x = 0 ∧ D = 0) ∨ (dz n x ≠ 0 ∧ b = true ∧ 2 ≤ dz n x ∧ D = 0) ∨ (dz n x ≠ 0 ∧ (b = true → dz n x = 1) ∧ D = dz n x + 1)) (hop : (op == [100, 104]) = false) (w : World) :
    Calls Tryz.prog 94 #[.string t, .int .i64 (n + 1 : Nat)] w fun e w' => e = .returned (.int .i64 (D : Nat)) ∧ Below w.heap.size w w' := by
  have a1 := specAtom_at t ht false ha
  have d1 : decide (((n + 1 : Nat) : Int) ≤ 1) = false := by simp; omega
  have mc := many_at op 1 hm 1 rfl
  have sc := secret_at op b hsec
  have hx : x.length ≤ 3000 := Nat.le_trans (args_len hargs x (by simp)) ht
  have hle := dz_le n x
  obtain ⟨d, hd⟩ : ∃ d, dz n x = d := ⟨_, rfl⟩
  have ix := SD.at ih x hx d hd
  rw [hd] at hres hle
  have HR := Lib.hid hres
  have HG := Lib.hid hargs
  have wn : ((n + 1 : Nat) : Int) = (n : Int) + 1 := by omega
  rw [wn] at d1 ⊢
  clear ha hargs hm hsec hd ih hres wn
  go_enter Tryz.func94, Tryz.ntmps94
  go_wp2_with (go_at_call 38; refine (a1 _).mono ?_; rintro e w' ⟨rfl, rfl⟩)
  refine (args_calls t ht w).mono ?_
  rintro e w1 ⟨v, hb, hk⟩
  have HB := Lib.hid hb
  rcases hk with ⟨hk, rfl⟩ | ⟨a, hk, rfl, ho⟩
  · rw [HG.out] at hk; cases hk
  · rw [HG.out] at hk
    cases hk
    obtain ⟨g, cap, rfl, c0, c1, _, hg⟩ := Strs.cons ho
    have c1 := c1 x rfl
    clear hb ho
    go_wp2_with (go_at_call 127; refine (mc _).mono ?_; rintro e w' ⟨rfl, rfl⟩)
    refine wp_loop_rounds 2 ?_
    rw [rounds_succ]
    go_wp2_with fail
    refine (ix _).mono ?_
    rintro e w2 ⟨rfl, hb2⟩
    have k0 := hb2.cell (p := ⟨g, 0, none⟩) hg
    rw [c0] at k0
    have HB2 := Lib.hid (HB.out.trans (hb2.mono HB.out.size))
    clear hb2 c0 c1 hg ix
    rcases HR.out with ⟨h1, h2⟩ | ⟨h1, h2, h3, h4⟩ | ⟨h1, h2, h3⟩
    · subst h1
      subst h2
      go_wp2_with fail
      go_ret
      exact ⟨rfl, HB2.out⟩
    · subst h2
      subst h4
      have e1 : ((d : Int) == 0) = false := by rw [beq_eq_false_iff_ne]; omega
      have e2 : decide (1 < (d : Int)) = true := by simp; omega
      clear h1 h3 HR
      go_wp2_with (go_at_call 128; refine (sc _).mono ?_; rintro e w' ⟨rfl, rfl⟩)
      go_ret
      exact ⟨rfl, HB2.out⟩
    · have e1 : ((d : Int) == 0) = false := by rw [beq_eq_false_iff_ne]; omega
      have e2 : b = true → decide (1 < (d : Int)) = false := fun h => by have := h2 h; simp; omega
      have mx := max_calls0 d (by omega)
      have H3 := Lib.hid h3
      clear h1 h2 h3 HR
      cases b
      · clear e2
        go_wp2_with (first | (go_at_call 128; refine (sc _).mono ?_; rintro e w' ⟨rfl, rfl⟩) | (go_at_call 129; refine (mx _).mono ?_; rintro e w' ⟨rfl, rfl⟩))
        rw [rounds_succ]
        go_wp2_with fail
        go_quiet (fail)
        go_wp2_with fail
        go_ret
        exact ⟨ret_int (by rw [H3.out]; omega), HB2.out.trans ((Still.drewN _ _).below _)⟩
      · have e2 := e2 rfl
        go_wp2_with (first | (go_at_call 128; refine (sc _).mono ?_; rintro e w' ⟨rfl, rfl⟩) | (go_at_call 129; refine (mx _).mono ?_; rintro e w' ⟨rfl, rfl⟩))
        rw [rounds_succ]
        go_wp2_with fail
        go_quiet (fail)
        go_wp2_with fail
        go_ret
        exact ⟨ret_int (by rw [H3.out]; omega), HB2.out.trans ((Still.drewN _ _).below _)⟩

set_option maxHeartbeats 2000000 in
set_option maxRecDepth 100000 in
theorem sd_two (n : Nat) (hn : 1 ≤ n) (hn2 : n ≤ 23) (ih : SD n) (t : ByteArray) (ht : t.size ≤ 3000) (ha : atomR t.data.toList = false) (op x y : Bs) (hargs : args t.data.toList = some [op, x, y]) (hm : many op = 2) (hsec : secret op = false) (hop : (op == [100, 104]) = false) (D : Nat)
    (hres : (dz n x = 0 ∧ D = 0) ∨ (dz n x ≠ 0 ∧ dz n y = 0 ∧ D = 0) ∨ (dz n x ≠ 0 ∧ dz n y ≠ 0 ∧ D = max (dz n x) (dz n y) + 1)) (w : World) :
    Calls Tryz.prog 94 #[.string t, .int .i64 (n + 1 : Nat)] w fun e w' => e = .returned (.int .i64 (D : Nat)) ∧ Below w.heap.size w w' := by
  have a1 := specAtom_at t ht false ha
  have d1 : decide (((n + 1 : Nat) : Int) ≤ 1) = false := by simp; omega
  have mc := many_at op 2 hm 2 rfl
  have sc := secret_at op false hsec
  have hx : x.length ≤ 3000 := Nat.le_trans (args_len hargs x (by simp)) ht
  have hy : y.length ≤ 3000 := Nat.le_trans (args_len hargs y (by simp)) ht
  have hlx := dz_le n x
  have hly := dz_le n y
  obtain ⟨dx, hdx⟩ : ∃ d, dz n x = d := ⟨_, rfl⟩
  obtain ⟨dy, hdy⟩ : ∃ d, dz n y = d := ⟨_, rfl⟩
  have ix := SD.at ih x hx dx hdx
  have iy := SD.at ih y hy dy hdy
  rw [hdx, hdy] at hres
  rw [hdx] at hlx
  rw [hdy] at hly
  have HR := Lib.hid hres
  have HG := Lib.hid hargs
  have wn : ((n + 1 : Nat) : Int) = (n : Int) + 1 := by omega
  rw [wn] at d1 ⊢
  clear ha hargs hm hsec hdx hdy ih hres wn
  go_enter Tryz.func94, Tryz.ntmps94
  go_wp2_with (go_at_call 38; refine (a1 _).mono ?_; rintro e w' ⟨rfl, rfl⟩)
  refine (args_calls t ht w).mono ?_
  rintro e w1 ⟨v, hb, hk⟩
  have HB := Lib.hid hb
  rcases hk with ⟨hk, rfl⟩ | ⟨a, hk, rfl, ho⟩
  · rw [HG.out] at hk; cases hk
  · rw [HG.out] at hk
    cases hk
    obtain ⟨g, cap, rfl, c0, c1, c2, hg⟩ := Strs.cons ho
    have c1 := c1 x rfl
    have c2 := c2 y rfl
    clear hb ho
    go_wp2_with (go_at_call 127; refine (mc _).mono ?_; rintro e w' ⟨rfl, rfl⟩)
    refine wp_loop_rounds 3 ?_
    rw [rounds_succ]
    go_wp2_with fail
    refine (ix _).mono ?_
    rintro e w2 ⟨rfl, hb2⟩
    have k0 := hb2.cell (p := ⟨g, 0, none⟩) hg
    rw [c0] at k0
    have k1 := hb2.cell (p := ⟨g, 1, none⟩) hg
    rw [c1] at k1
    have k2 := hb2.cell (p := ⟨g, 2, none⟩) hg
    rw [c2] at k2
    have HB2 := Lib.hid (HB.out.trans (hb2.mono HB.out.size))
    have hg2 : g < w2.heap.size := Nat.lt_of_lt_of_le hg hb2.size
    clear hb2 c0 c1 c2 hg ix
    by_cases hx0 : dx = 0
    · obtain rfl : D = 0 := by have := HR.out; omega
      subst hx0
      go_wp2_with fail
      go_ret
      exact ⟨rfl, HB2.out⟩
    have e1 : ((dx : Int) == 0) = false := by rw [beq_eq_false_iff_ne]; omega
    have mx := max_calls0 dx (by omega)
    have HX := Lib.hid hx0
    clear hx0
    go_wp2_with (first | (go_at_call 128; refine (sc _).mono ?_; rintro e w' ⟨rfl, rfl⟩) | (go_at_call 129; refine (mx _).mono ?_; rintro e w' ⟨rfl, rfl⟩))
    rw [rounds_succ]
    go_wp2_with fail
    refine (iy _).mono ?_
    rintro e w3 ⟨rfl, hb3⟩
    have m0 := hb3.cell (p := ⟨g, 0, none⟩) hg2
    rw [k0] at m0
    have m1 := hb3.cell (p := ⟨g, 1, none⟩) hg2
    rw [k1] at m1
    have m2 := hb3.cell (p := ⟨g, 2, none⟩) hg2
    rw [k2] at m2
    have HB3 := Lib.hid (HB2.out.trans (hb3.mono HB2.out.size))
    clear hb3 k0 k1 k2 hg2 iy
    by_cases hy0 : dy = 0
    · obtain rfl : D = 0 := by have := HR.out; have := HX.out; omega
      subst hy0
      go_wp2_with fail
      go_ret
      exact ⟨rfl, HB3.out⟩
    have e2 : ((dy : Int) == 0) = false := by rw [beq_eq_false_iff_ne]; omega
    have my := max_calls dx dy (by omega) (by omega)
    obtain ⟨M, hM⟩ : ∃ M : Nat, M = max dx dy := ⟨_, rfl⟩
    have hM2 : M ≤ 100 := by omega
    have hD : D = M + 1 := by have := HR.out; have := HX.out; omega
    rw [← hM] at my
    have HD := Lib.hid hD
    clear hy0 hM hD HR
    go_wp2_with (first | (go_at_call 128; refine (sc _).mono ?_; rintro e w' ⟨rfl, rfl⟩) | (go_at_call 129; refine (my _).mono ?_; rintro e w' ⟨rfl, rfl⟩))
    rw [rounds_succ]
    go_wp2_with fail
    go_quiet (fail)
    go_wp2_with fail
    go_ret
    exact ⟨ret_int (by rw [HD.out]; omega), HB3.out.trans ((Still.drewN _ _).below _)⟩

set_option maxHeartbeats 2000000 in
set_option maxRecDepth 100000 in
theorem sd_dh (n : Nat) (hn : 1 ≤ n) (hn2 : n ≤ 23) (ih : SD n) (t : ByteArray) (ht : t.size ≤ 3000) (ha : atomR t.data.toList = false) (x y : Bs) (hargs : args t.data.toList = some [oDh, x, y]) (D : Nat)
    (hres : ((dz n x = 0 ∨ 2 ≤ dz n x) ∧ D = 0) ∨ (dz n x = 1 ∧ (dz n y = 0 ∨ 2 ≤ dz n y) ∧ D = 0) ∨ (dz n x = 1 ∧ dz n y = 1 ∧ gt x y = true ∧ D = 0) ∨ (dz n x = 1 ∧ dz n y = 1 ∧ gt x y = false ∧ D = 2)) (w : World) :
    Calls Tryz.prog 94 #[.string t, .int .i64 (n + 1 : Nat)] w fun e w' => e = .returned (.int .i64 (D : Nat)) ∧ Below w.heap.size w w' := by
  have a1 := specAtom_at t ht false ha
  have d1 : decide (((n + 1 : Nat) : Int) ≤ 1) = false := by simp; omega
  have mc := many_at oDh 2 rfl 2 rfl
  have sc := secret_at oDh true rfl
  have hx : x.length ≤ 3000 := Nat.le_trans (args_len hargs x (by simp)) ht
  have hy : y.length ≤ 3000 := Nat.le_trans (args_len hargs y (by simp)) ht
  have hlx := dz_le n x
  have hly := dz_le n y
  obtain ⟨dx, hdx⟩ : ∃ d, dz n x = d := ⟨_, rfl⟩
  obtain ⟨dy, hdy⟩ : ∃ d, dz n y = d := ⟨_, rfl⟩
  have ix := SD.at ih x hx dx hdx
  have iy := SD.at ih y hy dy hdy
  rw [hdx, hdy] at hres
  rw [hdx] at hlx
  rw [hdy] at hly
  have HR := Lib.hid hres
  have HG := Lib.hid hargs
  have wn : ((n + 1 : Nat) : Int) = (n : Int) + 1 := by omega
  rw [wn] at d1 ⊢
  clear ha hargs  hdx hdy ih hres wn
  go_enter Tryz.func94, Tryz.ntmps94
  go_wp2_with (go_at_call 38; refine (a1 _).mono ?_; rintro e w' ⟨rfl, rfl⟩)
  refine (args_calls t ht w).mono ?_
  rintro e w1 ⟨v, hb, hk⟩
  have HB := Lib.hid hb
  rcases hk with ⟨hk, rfl⟩ | ⟨a, hk, rfl, ho⟩
  · rw [HG.out] at hk; cases hk
  · rw [HG.out] at hk
    cases hk
    obtain ⟨g, cap, rfl, c0, c1, c2, hg⟩ := Strs.cons ho
    have c1 := c1 x rfl
    have c2 := c2 y rfl
    clear hb ho
    go_wp2_with (go_at_call 127; refine (mc _).mono ?_; rintro e w' ⟨rfl, rfl⟩)
    refine wp_loop_rounds 3 ?_
    rw [rounds_succ]
    go_wp2_with fail
    refine (ix _).mono ?_
    rintro e w2 ⟨rfl, hb2⟩
    have k0 := hb2.cell (p := ⟨g, 0, none⟩) hg
    rw [c0] at k0
    have k1 := hb2.cell (p := ⟨g, 1, none⟩) hg
    rw [c1] at k1
    have k2 := hb2.cell (p := ⟨g, 2, none⟩) hg
    rw [c2] at k2
    have HB2 := Lib.hid (HB.out.trans (hb2.mono HB.out.size))
    have hg2 : g < w2.heap.size := Nat.lt_of_lt_of_le hg hb2.size
    clear hb2 c0 c1 c2 hg ix
    by_cases hx0 : dx = 0
    · obtain rfl : D = 0 := by have := HR.out; omega
      subst hx0
      go_wp2_with fail
      go_ret
      exact ⟨rfl, HB2.out⟩
    by_cases hx1 : 2 ≤ dx
    · obtain rfl : D = 0 := by have := HR.out; omega
      have e1 : ((dx : Int) == 0) = false := by rw [beq_eq_false_iff_ne]; omega
      have e2 : decide (1 < (dx : Int)) = true := by simp; omega
      clear HR hx0 hx1
      go_wp2_with (go_at_call 128; refine (sc _).mono ?_; rintro e w' ⟨rfl, rfl⟩)
      go_ret
      exact ⟨rfl, HB2.out⟩
    obtain rfl : dx = 1 := by omega
    have mx := max_calls0 1 (by omega)
    clear hx0 hx1
    go_wp2_with (first | (go_at_call 128; refine (sc _).mono ?_; rintro e w' ⟨rfl, rfl⟩) | (go_at_call 129; refine (mx _).mono ?_; rintro e w' ⟨rfl, rfl⟩))
    rw [rounds_succ]
    go_wp2_with fail
    refine (iy _).mono ?_
    rintro e w3 ⟨rfl, hb3⟩
    have m0 := hb3.cell (p := ⟨g, 0, none⟩) hg2
    rw [k0] at m0
    have m1 := hb3.cell (p := ⟨g, 1, none⟩) hg2
    rw [k1] at m1
    have m2 := hb3.cell (p := ⟨g, 2, none⟩) hg2
    rw [k2] at m2
    have HB3 := Lib.hid (HB2.out.trans (hb3.mono HB2.out.size))
    clear hb3 k0 k1 k2 hg2 iy
    by_cases hy0 : dy = 0
    · obtain rfl : D = 0 := by have := HR.out; omega
      subst hy0
      go_wp2_with fail
      go_ret
      exact ⟨rfl, HB3.out⟩
    by_cases hy1 : 2 ≤ dy
    · obtain rfl : D = 0 := by have := HR.out; omega
      have e1 : ((dy : Int) == 0) = false := by rw [beq_eq_false_iff_ne]; omega
      have e2 : decide (1 < (dy : Int)) = true := by simp; omega
      clear HR hy0 hy1
      go_wp2_with (go_at_call 128; refine (sc _).mono ?_; rintro e w' ⟨rfl, rfl⟩)
      go_ret
      exact ⟨rfl, HB3.out⟩
    obtain rfl : dy = 1 := by omega
    have my := max_calls 1 1 (by omega) (by omega)
    clear hy0 hy1
    go_wp2_with (first | (go_at_call 128; refine (sc _).mono ?_; rintro e w' ⟨rfl, rfl⟩) | (go_at_call 129; refine (my _).mono ?_; rintro e w' ⟨rfl, rfl⟩))
    rw [rounds_succ]
    go_wp2_with fail
    cases hg : gt x y
    · obtain rfl : D = 2 := by have := HR.out; rw [hg] at this; simp at this; omega
      rcases gt_false hg with g1 | ⟨g1, g2⟩
      all_goals
        clear hg HR
        go_quiet (fail)
        go_wp2_with fail
        go_ret
        exact ⟨rfl, HB3.out.trans ((Still.drewN _ _).below _)⟩
    · obtain rfl : D = 0 := by have := HR.out; rw [hg] at this; simp at this; omega
      obtain ⟨g1, g2⟩ := gt_true hg
      clear hg HR
      go_quiet (fail)
      go_wp2_with fail
      go_ret
      exact ⟨rfl, HB3.out.trans ((Still.drewN _ _).below _)⟩
end Go.Proofs.YtonjohlecomeoaaGreat.sdp
