/- Contract of textOf of the program: the text of a term. -/
import Derived.Test.YtonjohlecomeoaaTxt
namespace Go.Proofs.Ytonjohlecomeoaa.txo
open Go.RowKit Go.Proofs.Ytonjohlecomeoaa.tm Go.Proofs.Ytonjohlecomeoaa.lib Go.Proofs.Ytonjohlecomeoaa.rdr Go.Proofs.Ytonjohlecomeoaa.bld Go.Proofs.Ytonjohlecomeoaa.app Go.Proofs.Ytonjohlecomeoaa.arg Go.Proofs.Ytonjohlecomeoaa.txt
set_option linter.unusedVariables false

set_option maxRecDepth 100000 in
theorem tx_atom (a : Bs) : TX (.atom a) := by
  intro w
  have h1 := as_atom a
  simp only [val] at h1 ⊢
  go_enter Try.func60, Try.ntmps60
  go_wp2_with fail
  go_ret
  exact ⟨rfl, Below.refl _ _⟩

def joined : List Bs → Bs
  | [] => []
  | [a] => a
  | a :: l => a ++ 32 :: joined l

/-- Join by a blank. -/
theorem join_at (w : World) (B : Nat) (v : Value) (ls : List Bs) (h : Strs w B v ls) (hl : ls = [] ∨ (∃ a, ls = [a]) ∨ (∃ a b, ls = [a, b])) (hs : (joined ls).length ≤ 1000000) :
    Calls Try.prog 83 #[v, .string ⟨#[32]⟩] w fun e w' => e = .returned (str (joined ls)) ∧ Below w.heap.size w w' := by
  have hf : (v = .slice none 0 0 ∧ ls = []) ∨ ∃ g cap, v = .slice (some ⟨g, 0, none⟩) ls.length cap ∧ (∀ j l, ls[j]? = some l → w.cell? ⟨g, j, none⟩ = some (str l)) ∧ g < w.heap.size ∧ ls.length ≤ cap := by
    have h' := h
    obtain ⟨hl, h⟩ := h
    rcases h with ⟨rfl, h⟩ | ⟨g, cap, cur, rfl, hg, hh, hc1, hc2, hc3, hc4⟩
    · exact .inl ⟨rfl, List.eq_nil_of_length_eq_zero h⟩
    · refine .inr ⟨g, cap, rfl, fun j T hj => ?_, (World.ownsRow.lt h' g rfl).2, hc1⟩
      have := World.ownsRow.cells h' (g := g) rfl j (str T) (by rw [List.getElem?_map, hj]; rfl)
      rw [Addr.add_lit, Nat.zero_add] at this
      exact this
  rcases hf with ⟨rfl, rfl⟩ | ⟨g, cap, rfl, hc, hg, hcap⟩
  · exact (shj.join_none none 0 _ w).mono fun e w' ⟨h1, h2⟩ => ⟨h1, by rw [h2]; exact Below.refl _ _⟩
  · have ej : Lib.join ((ls.map fun l : Bs => (⟨l.toArray⟩ : ByteArray)).map (·.data.toList)) (⟨#[32]⟩ : ByteArray).data.toList = joined ls := by
      rcases hl with rfl | ⟨a, rfl⟩ | ⟨a, b, rfl⟩
      · rfl
      · simp [Lib.join, joined]
      · simp [Lib.join, joined]
    have := shj.join_some g 0 cap (ls.map fun l : Bs => ⟨l.toArray⟩) ⟨#[32]⟩ w (fun j x hx => by
      rw [List.getElem?_map] at hx
      cases hq : ls[j]? with
      | none => rw [hq] at hx; cases hx
      | some l => rw [hq] at hx; cases hx; rw [Nat.zero_add]; exact hc j l hq) hg (by rcases hl with rfl | ⟨a, rfl⟩ | ⟨a, b, rfl⟩ <;> simp) (by rw [List.length_map]; exact hcap) (by rw [ej]; omega)
    rw [ej, List.length_map] at this
    exact this

theorem joined_say (T : Tm) (h : T.isAtom = false) : 91 :: T.op ++ 32 :: joined (T.kids.map Tm.tx) ++ [93] = T.tx := by
  rw [tx_say T h]
  unfold say
  rcases kids_node T h with ⟨x, e⟩ | ⟨x, y, e⟩
  · rw [e]; simp [joined]
  · rw [e]; simp [joined]

theorem joined_len (T : Tm) (h : T.isAtom = false) : (joined (T.kids.map Tm.tx)).length ≤ T.tx.length := by
  rw [← joined_say T h]
  simp
  omega

theorem kids_three (T : Tm) (h : T.isAtom = false) : (T.kids.map Tm.tx = [] ∨ (∃ a, T.kids.map Tm.tx = [a]) ∨ (∃ a b, T.kids.map Tm.tx = [a, b])) := by
  rcases kids_node T h with ⟨x, e⟩ | ⟨x, y, e⟩
  · rw [e]; exact .inr (.inl ⟨_, rfl⟩)
  · rw [e]; exact .inr (.inr ⟨_, _, rfl⟩)

theorem add_at (a b c : Bs) (h : a ++ b = c) (hl : c.length ≤ 100000000) (w : World) : (Op.stringOp .add ⟨a.toArray⟩ ⟨b.toArray⟩).run Try.prog w = .ok (.string ⟨c.toArray⟩) w := by
  have hc := congrArg List.length h
  rw [List.length_append] at hc
  rw [run_string_add_sum w _ _ (by show a.toArray.size + b.toArray.size ≤ _; simp; omega), ← h, ByteArray.mk_append_mk]

theorem op_len (T : Tm) : T.op.length ≤ 4 := by cases T <;> simp [Tm.op, oPair, oHash, oMac, oShut, oPub, oDh]

theorem joined_of (op : Bs) (ls : List Bs) (h : (∃ a, ls = [a]) ∨ (∃ a b, ls = [a, b])) : 91 :: op ++ 32 :: joined ls ++ [93] = say op ls := by
  rcases h with ⟨a, rfl⟩ | ⟨a, b, rfl⟩ <;> simp [joined, say]

set_option maxHeartbeats 1000000 in
set_option maxRecDepth 100000 in
/-- opText, where its args lie in a row that strings.Join takes. -/
theorem opText_of (op : Bs) (v : Value) (ls : List Bs) (w : World) (hc : (∃ a, ls = [a]) ∨ (∃ a b, ls = [a, b])) (hop : op.length ≤ 10000) (hl : (joined ls).length ≤ 1000000)
    (HJ : Calls Try.prog 83 #[v, .string ⟨#[32]⟩] w fun e w' => e = .returned (str (joined ls)) ∧ Below w.heap.size w w') :
    Calls Try.prog 71 #[str op, v] w fun e w' => e = .returned (str (say op ls)) ∧ Below w.heap.size w w' := by
  have hsay := joined_of op ls hc
  obtain ⟨J, hJ⟩ : ∃ J, J = joined ls := ⟨_, rfl⟩
  obtain ⟨X, hX⟩ : ∃ X, X = say op ls := ⟨_, rfl⟩
  obtain ⟨S1, hS1⟩ : ∃ S, 91 :: op = S := ⟨_, rfl⟩
  obtain ⟨S2, hS2⟩ : ∃ S, S1 ++ [32] = S := ⟨_, rfl⟩
  obtain ⟨S3, hS3⟩ : ∃ S, S2 ++ J = S := ⟨_, rfl⟩
  rw [← hJ] at hsay hl HJ
  rw [← hX] at hsay ⊢
  have l1 : S1.length ≤ 10001 := by rw [← hS1]; simp; omega
  have l2 : S2.length ≤ 10002 := by rw [← hS2]; simp; omega
  have l3 : S3.length ≤ 2000000 := by rw [← hS3]; simp; omega
  have e4 : S3 ++ [93] = X := by rw [← hS3, ← hS2, ← hS1, ← hsay]; simp
  have l4 : X.length ≤ 2000001 := by rw [← e4]; simp; omega
  have f1 := add_at [91] op S1 hS1 (by omega)
  have f2 := add_at S1 [32] S2 hS2 (by omega)
  have f3 := add_at S2 J S3 hS3 (by omega)
  have f4 := add_at S3 [93] X e4 (by omega)
  have HJ2 := Lib.hid HJ
  clear HJ hc hJ hX hS1 hS2 hS3 hsay hop l1 l2 l3 l4 e4 hl
  go_enter Try.func71, Try.ntmps71
  go_wp2_with fail
  refine HJ2.out.mono ?_
  rintro e w3 ⟨rfl, hb3⟩
  have HB3 := Lib.hid hb3
  clear hb3
  go_wp2_with fail
  go_ret
  exact ⟨rfl, HB3.out⟩

/-- .. in a row of the call's own. -/
theorem opText_own (op : Bs) (B : Nat) (v : Value) (ls : List Bs) (w : World) (h : Strs w B v ls) (hc : (∃ a, ls = [a]) ∨ (∃ a b, ls = [a, b])) (hop : op.length ≤ 10000) (hl : (joined ls).length ≤ 1000000) :
    Calls Try.prog 71 #[str op, v] w fun e w' => e = .returned (str (say op ls)) ∧ Below w.heap.size w w' :=
  opText_of op v ls w hc hop hl (join_at w B v ls h (.inr hc) hl)

/-- .. of two texts that lie somewhere. -/
theorem opText_two (op x y : Bs) (g cap : Nat) (w : World) (c0 : w.cell? ⟨g, 0, none⟩ = some (str x)) (c1 : w.cell? ⟨g, 1, none⟩ = some (str y)) (hg : g < w.heap.size) (hcap : 2 ≤ cap) (hop : op.length ≤ 10000) (hx : x.length ≤ 400000) (hy : y.length ≤ 400000) :
    Calls Try.prog 71 #[str op, .slice (some ⟨g, 0, none⟩) 2 cap] w fun e w' => e = .returned (str (say op [x, y])) ∧ Below w.heap.size w w' := by
  refine opText_of op _ [x, y] w (.inr ⟨x, y, rfl⟩) hop (by simp [joined]; omega) ?_
  have ej : Lib.join (([x, y].map fun l : Bs => (⟨l.toArray⟩ : ByteArray)).map (·.data.toList)) (⟨#[32]⟩ : ByteArray).data.toList = joined [x, y] := by simp [Lib.join, joined]
  have := shj.join_some g 0 cap ([x, y].map fun l : Bs => ⟨l.toArray⟩) ⟨#[32]⟩ w (fun j z hz => by
    match j, hz with
    | 0, hz => simp at hz; subst hz; exact c0
    | 1, hz => simp at hz; subst hz; exact c1
    | j + 2, hz => simp at hz) hg (by simp) (by simpa using hcap) (by rw [ej]; simp [joined]; omega)
  rw [ej] at this
  exact this

set_option maxHeartbeats 1000000 in
set_option maxRecDepth 100000 in
theorem tx_node (T : Tm) (hn : T.isAtom = false) (hl : T.tx.length ≤ 1000000) (ih : ∀ k ∈ T.kids, TX k) : TX T := by
  intro w
  have h0 := as_atom_no T hn
  have h1 := met_op T
  have h2 := inv_op T
  have h3 := op_calls T
  have h4 := at_node T hn ih
  unfold AT at h4
  have hk2 : (∃ a, T.kids.map Tm.tx = [a]) ∨ (∃ a b, T.kids.map Tm.tx = [a, b]) := by
    rcases kids_node T hn with ⟨x, e⟩ | ⟨x, y, e⟩
    · exact .inl ⟨x.tx, by rw [e]; rfl⟩
    · exact .inr ⟨x.tx, y.tx, by rw [e]; rfl⟩
  have HO := fun w v B h => opText_own T.op B v (T.kids.map Tm.tx) w h hk2 (by have := op_len T; omega) (Nat.le_trans (joined_len T hn) hl)
  rw [← tx_say T hn] at HO
  obtain ⟨O, hO⟩ : ∃ O, O = T.op := ⟨_, rfl⟩
  obtain ⟨X, hX⟩ : ∃ X, X = T.tx := ⟨_, rfl⟩
  simp only [← hO] at h3 HO
  rw [← hX] at HO ⊢
  rw [val_eq] at h0 h4 ⊢
  have HO2 := Lib.hid HO
  clear HO hn ih hO hX hk2 hl
  go_enter Try.func60, Try.ntmps60
  go_wp2_with fail
  refine (h3 _).mono ?_
  rintro e w1 ⟨rfl, hb⟩
  have HB := Lib.hid hb
  clear hb
  go_wp2_with fail
  refine (h4 _).mono ?_
  rintro e w2 ⟨v, rfl, hb2, hs⟩
  have HB2 := Lib.hid (HB.out.trans (hb2.mono HB.out.size))
  have HS := Lib.hid hs
  clear hb2 hs
  go_wp2_with fail
  refine (HO2.out _ _ _ HS.out).mono ?_
  rintro e w3 ⟨rfl, hb3⟩
  have HB3 := Lib.hid (HB2.out.trans (hb3.mono HB2.out.size))
  clear hb3
  go_wp2_with fail
  go_ret
  exact ⟨rfl, HB3.out⟩

theorem tx_all : ∀ n (T : Tm), T.deep ≤ n → T.tx.length ≤ 1000000 → TX T
  | 0, T, h, _ => by have := deep_pos T; omega
  | n + 1, T, h, hl => by
    rcases isAtom_cases T with hn | ⟨a, rfl⟩
    · refine tx_node T hn hl fun k hk => tx_all n k (by have := kid_deep hk; omega) ?_
      have := joined_len T hn
      have : k.tx.length ≤ (joined (T.kids.map Tm.tx)).length := by
        rcases kids_node T hn with ⟨x, e⟩ | ⟨x, y, e⟩
        · rw [e] at hk ⊢; simp at hk; subst hk; simp [joined]
        · rw [e] at hk ⊢; simp at hk; rcases hk with rfl | rfl <;> simp [joined] <;> omega
      omega
    · exact tx_atom a

theorem textOf_calls (T : Tm) (h : T.tx.length ≤ 1000000) (w : World) : Calls Try.prog 60 #[val T] w fun e w' => e = .returned (str T.tx) ∧ Below w.heap.size w w' := tx_all T.deep T (Nat.le_refl _) h w

theorem argTexts_calls (T : Tm) (hn : T.isAtom = false) (h : T.tx.length ≤ 1000000) (w : World) : Calls Try.prog 72 #[val T] w fun e w' => ∃ v, e = .returned v ∧ Below w.heap.size w w' ∧ Strs w' w.heap.size v (T.kids.map Tm.tx) := by
  refine at_node T hn (fun k hk => tx_all k.deep k (Nat.le_refl _) ?_) w
  have := joined_len T hn
  have : k.tx.length ≤ (joined (T.kids.map Tm.tx)).length := by
    rcases kids_node T hn with ⟨x, e⟩ | ⟨x, y, e⟩
    · rw [e] at hk ⊢; simp at hk; subst hk; simp [joined]
    · rw [e] at hk ⊢; simp at hk; rcases hk with rfl | rfl <;> simp [joined] <;> omega
  omega
end Go.Proofs.Ytonjohlecomeoaa.txo
