/- Contract of the model's l02Atoms. -/
import Derived.Test.YtnlinlodgpbnlaaGreatSpp
namespace Go.Proofs.YtnlinlodgpbnlaaGreat.spt
open Go.RowKit Go.Proofs.YtnlinlodgpbnlaaGreat.tm Go.Proofs.YtnlinlodgpbnlaaGreat.lib Go.Proofs.YtnlinlodgpbnlaaGreat.rdr Go.Proofs.YtnlinlodgpbnlaaGreat.bld Go.Proofs.YtnlinlodgpbnlaaGreat.app Go.Proofs.YtnlinlodgpbnlaaGreat.snd Go.Proofs.YtnlinlodgpbnlaaGreat.sop Go.Proofs.YtnlinlodgpbnlaaGreat.ato
set_option linter.unusedVariables false

def SA (T : Tm) : Prop := ∀ (w : World) (B : Nat) (v : Value) (ls : List Bs), Txs w B v ls → B ≤ w.heap.size → ls.length + (aL T).length ≤ 100000 →
  Calls Tryz.prog 91 #[str T.tx, v] w fun e w' => ∃ v', e = .returned v' ∧ Txs w' B v' (puts ls (aL T)) ∧ Below w.heap.size w w'

set_option maxHeartbeats 1000000 in
set_option maxRecDepth 100000 in
theorem sa_atom (a : Bs) (hT : atomR a = true) : SA (.atom a) := by
  intro w B v ls h hB hl
  have a1 := node_tx (.atom a) hT (by have := atomR_len hT; simp [Tm.tx]; omega)
  simp only [Tm.tx, Tm.op, aL, List.length_cons, List.length_nil] at a1 hl ⊢
  have H := Lib.hid h
  clear h hT
  go_enter Tryz.func91, Tryz.ntmps91
  go_wp2_with fail
  refine (a1 _).mono ?_
  rintro e w1 ⟨va, rfl, hb, hx⟩
  obtain ⟨g, off, cap, rfl, _⟩ := hx
  have HB := Lib.hid hb
  have HX := Lib.hid (Txs.below (Txs.below H.out hb) ((Below.refl _ _).alloc (Nat.le_refl _) (.cells #[str [], .slice (some ⟨g, off, none⟩) (nodeArgs (.atom a)).length cap] 31)))
  have HBB := Lib.hid (hb.trans (((Below.refl _ _).alloc hb.size (.cells #[str [], .slice (some ⟨g, off, none⟩) (nodeArgs (.atom a)).length cap] 31))))
  clear hb
  go_wp2_with fail
  refine (put_calls v ls a B _ HX.out (by have := HBB.out.size; omega) (by omega)).mono ?_
  rintro e w2 ⟨v2, rfl, hx2, hb2⟩
  have HX2 := Lib.hid hx2
  have HB2 := Lib.hid (HBB.out.trans (hb2.mono HBB.out.size))
  clear hx2 hb2
  go_wp2_with fail
  go_ret
  exact ⟨_, rfl, HX2.out, HB2.out⟩

theorem Txs.one {w : World} {B : Nat} {v : Value} {a : Bs} (h : Txs w B v [a]) :
    ∃ g off cap, v = .slice (some ⟨g, off, none⟩) 1 cap ∧ B ≤ g ∧ g < w.heap.size ∧ w.cell? ⟨g, off, none⟩ = some (str a) := by
  obtain ⟨g, off, cap, e, h1, h2, h3, h4⟩ := h
  exact ⟨g, off, cap, e, h1, h2, h4 0 a rfl⟩

theorem op_ne (T : Tm) (hn : T.isAtom = false) : T.op ≠ [] := by cases T <;> simp [Tm.op, oPair, oHash, oMac, oShut, oPub, oDh, Tm.isAtom] at hn ⊢

set_option maxHeartbeats 2000000 in
set_option maxRecDepth 100000 in
theorem sa_node (T : Tm) (hn : T.isAtom = false) (hT : T.ok) (hlen : T.tx.length ≤ 3000) (ih : ∀ k ∈ T.kids, SA k) : SA T := by
  intro w B v ls h hB hl
  have a1 := node_tx T hT hlen
  have hna : nodeArgs T = T.kids.map Tm.tx := by unfold nodeArgs; rw [hn]; rfl
  have hk := aL_kids T hn
  have hop := op_ne T hn
  obtain ⟨O, hO⟩ : ∃ O, O = T.op := ⟨_, rfl⟩
  rw [← hO] at hop
  simp only [← hO] at a1
  have d1 : O.isEmpty = false := by cases O with | nil => exact absurd rfl hop | cons c r => rfl
  have d2 : (O == []) = false := by rw [beq_eq_false_iff_ne]; exact hop
  obtain ⟨X, hX⟩ : ∃ X, X = T.tx := ⟨_, rfl⟩
  rw [← hX]
  simp only [← hX] at a1
  rcases kids_node T hn with ⟨x, e1⟩ | ⟨x, y, e1⟩
  · have ix := ih x (by rw [e1]; simp)
    rw [hna, e1] at a1
    rw [e1] at hk
    simp only [List.flatMap_cons, List.flatMap_nil, List.append_nil, List.map_cons, List.map_nil] at hk a1
    rw [hk] at hl ⊢
    unfold SA at ix
    have IX := Lib.hid ix
    have H := Lib.hid h
    clear ih e1 hk h hn hna hop hO hX hT hlen ix
    go_enter Tryz.func91, Tryz.ntmps91
    go_wp2_with fail
    refine (a1 _).mono ?_
    rintro e w1 ⟨va, rfl, hb, hx⟩
    obtain ⟨g, off, cap, rfl, hBg, hg, c0⟩ := Txs.one hx
    have HX := Lib.hid (Txs.below (Txs.below H.out hb) ((Below.refl _ _).alloc (Nat.le_refl _) (.cells #[str O, .slice (some ⟨g, off, none⟩) 1 cap] 31)))
    have HBB := Lib.hid (hb.trans (((Below.refl _ _).alloc hb.size (.cells #[str O, .slice (some ⟨g, off, none⟩) 1 cap] 31))))
    have hgn : ¬ g = w1.heap.size := by omega
    clear hb hx
    go_wp2_with fail
    refine wp_loop_rounds 2 ?_
    rw [rounds_succ]
    go_wp2_with fail
    refine (IX.out _ B v ls HX.out (by have := HBB.out.size; omega) hl).mono ?_
    rintro e w2 ⟨v2, rfl, hx2, hb2⟩
    obtain ⟨m0, m1, _, _, hz⟩ := two (clo.new_kept hb2)
    have HX2 := Lib.hid hx2
    have HB2 := Lib.hid (HBB.out.trans (hb2.mono HBB.out.size))
    clear hx2 hb2 c0
    go_wp2_with fail
    rw [rounds_succ]
    go_wp2_with fail
    go_ret
    exact ⟨_, rfl, HX2.out, HB2.out⟩
  · have ix := ih x (by rw [e1]; simp)
    have iy := ih y (by rw [e1]; simp)
    rw [hna, e1] at a1
    rw [e1] at hk
    simp only [List.flatMap_cons, List.flatMap_nil, List.append_nil, List.map_cons, List.map_nil] at hk a1
    rw [hk] at hl ⊢
    rw [puts_append]
    rw [List.length_append] at hl
    unfold SA at ix iy
    have IX := Lib.hid ix
    have IY := Lib.hid iy
    have H := Lib.hid h
    clear ih e1 hk h hn hna hop hO hX hT hlen ix iy
    go_enter Tryz.func91, Tryz.ntmps91
    go_wp2_with fail
    refine (a1 _).mono ?_
    rintro e w1 ⟨va, rfl, hb, hx⟩
    obtain ⟨g, off, cap, rfl, hBg, hg, c0, c1⟩ := Txs.two hx
    have HX := Lib.hid (Txs.below (Txs.below H.out hb) ((Below.refl _ _).alloc (Nat.le_refl _) (.cells #[str O, .slice (some ⟨g, off, none⟩) 2 cap] 31)))
    have HBB := Lib.hid (hb.trans (((Below.refl _ _).alloc hb.size (.cells #[str O, .slice (some ⟨g, off, none⟩) 2 cap] 31))))
    have hgn : ¬ g = w1.heap.size := by omega
    clear hb hx
    go_wp2_with fail
    refine wp_loop_rounds 3 ?_
    rw [rounds_succ]
    go_wp2_with fail
    refine (IX.out _ B v ls HX.out (by have := HBB.out.size; omega) (by omega)).mono ?_
    rintro e w2 ⟨v2, rfl, hx2, hb2⟩
    obtain ⟨m0, m1, _, _, hz⟩ := two (clo.new_kept hb2)
    have k1 : w2.cell? ⟨g, off + 1, none⟩ = some (str y.tx) := by
      rw [hb2.cell (p := ⟨g, off + 1, none⟩) (by simp; omega), World.cell?_alloc_lt _ _ ⟨g, off + 1, none⟩ hg]
      exact c1
    have HX2 := Lib.hid hx2
    have HB2 := Lib.hid (HBB.out.trans (hb2.mono HBB.out.size))
    clear hx2 c0 c1
    have HBL := Lib.hid hb2
    clear hb2
    go_wp2_with fail
    rw [rounds_succ]
    go_wp2_with fail
    refine (IY.out _ B v2 _ HX2.out (by have := HB2.out.size; omega) (by have := puts_len (aL x) ls; omega)).mono ?_
    rintro e w3 ⟨v3, rfl, hx3, hb3⟩
    have n1 := hb3.cell (p := ⟨w1.heap.size, 1, none⟩) hz
    rw [m1] at n1
    have HX3 := Lib.hid hx3
    have HB3 := Lib.hid (HB2.out.trans (hb3.mono HB2.out.size))
    clear hx3 hb3 k1 m0 m1
    go_wp2_with fail
    rw [rounds_succ]
    go_wp2_with fail
    go_ret
    exact ⟨_, rfl, HX3.out, HB3.out⟩

theorem kid_len {T k : Tm} (hn : T.isAtom = false) (hk : k ∈ T.kids) : k.tx.length ≤ T.tx.length := by
  rw [tx_say T hn]
  unfold say
  simp only [List.length_cons, List.length_append]
  have : ∀ (ks : List Tm), k ∈ ks → k.tx.length ≤ ((ks.map Tm.tx).flatMap (32 :: ·)).length := by
    intro ks
    induction ks with
    | nil => intro h; cases h
    | cons a ks ih =>
      intro h
      simp only [List.map_cons, List.flatMap_cons, List.length_append, List.length_cons]
      rcases List.mem_cons.1 h with rfl | h
      · omega
      · have := ih h; omega
  have := this _ hk
  omega

theorem sa_all : ∀ n (T : Tm), T.deep ≤ n → T.ok → T.tx.length ≤ 3000 → SA T
  | 0, T, h, _, _ => by have := deep_pos T; omega
  | n + 1, T, h, hT, hl => by
    rcases isAtom_cases T with hn | ⟨a, rfl⟩
    · exact sa_node T hn hT hl fun k hk => sa_all n k (by have := kid_deep hk; omega) (kid_ok hT hk) (Nat.le_trans (kid_len hn hk) hl)
    · exact sa_atom a hT
end Go.Proofs.YtnlinlodgpbnlaaGreat.spt
