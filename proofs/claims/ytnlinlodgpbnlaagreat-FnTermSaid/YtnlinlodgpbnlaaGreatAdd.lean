/- Contracts of addAtoms and AtomsOf of the program. -/
import Derived.Test.YtnlinlodgpbnlaaGreatApb
import Derived.Test.YtnlinlodgpbnlaaGreatAto
import Derived.Test.YtnlinlodgpbnlaaGreatDpd
import Derived.Test.YtnlinlodgpbnlaaGreatShs
import Derived.Test.YtnlinlodgpbnlaaGreatShc
import Derived.Sort.OwnSorted
namespace Go.Proofs.YtnlinlodgpbnlaaGreat.addt
open Go.RowKit Go.Proofs.YtnlinlodgpbnlaaGreat.tm Go.Proofs.YtnlinlodgpbnlaaGreat.lib Go.Proofs.YtnlinlodgpbnlaaGreat.rdr Go.Proofs.YtnlinlodgpbnlaaGreat.bld Go.Proofs.YtnlinlodgpbnlaaGreat.app Go.Proofs.YtnlinlodgpbnlaaGreat.arg Go.Proofs.YtnlinlodgpbnlaaGreat.dpt Go.Proofs.YtnlinlodgpbnlaaGreat.mrs Go.Proofs.YtnlinlodgpbnlaaGreat.apb Go.Proofs.YtnlinlodgpbnlaaGreat.ato
set_option linter.unusedVariables false

def AEnd (w : World) (B : Nat) (v : Value) (ls : List Bs) (e : Ending) (w' : World) : Prop :=
  ∃ v', e = .returned v' ∧ Strs w' B v' ls ∧ mrs.Aside v w w' ∧ ∀ k, v'.ownBlock = some k → v.ownBlock = some k ∨ w.heap.size ≤ k

def AA (T : Tm) : Prop := ∀ (w : World) (B : Nat) (v : Value) (ls : List Bs), Strs w B v ls → B ≤ w.heap.size → ls.length + (aL T).length ≤ 100000 →
  Calls Tryz.prog 88 #[v, val T] w (AEnd w B v (ls ++ aL T))

set_option maxRecDepth 100000 in
theorem aa_atom (a : Bs) : AA (.atom a) := by
  intro w B v ls h hB hl
  have h1 := as_atom a
  simp only [val] at h1 ⊢
  simp only [aL, List.length_cons, List.length_nil] at hl ⊢
  have H := Lib.hid h
  clear h
  go_enter Tryz.func88, Tryz.ntmps88
  go_wp2_with (at_builtin; refine wp_putB (.tmp 15) (.tmp 17) a B _ ls rfl rfl rfl H.out rfl (by omega) hB ?_; intro v2 w2 t2 b2 k2)
  go_ret
  exact ⟨_, rfl, t2, b2, k2⟩

theorem aL_kid {T k : Tm} (h : k ∈ T.kids) (hn : T.isAtom = false) : (aL k).length ≤ (aL T).length := by
  rw [aL_kids T hn]
  have : ∀ (ks : List Tm), k ∈ ks → (aL k).length ≤ (ks.flatMap aL).length := by
    intro ks
    induction ks with
    | nil => intro h; cases h
    | cons a ks ih =>
      intro h
      simp only [List.flatMap_cons, List.length_append]
      rcases List.mem_cons.1 h with rfl | h
      · omega
      · have := ih h; omega
  exact this _ h

theorem Strs.block {w : World} {B : Nat} {v : Value} {ls : List Bs} (h : Strs w B v ls) : ∀ k, v.ownBlock = some k → B ≤ k ∧ k < w.heap.size := World.ownsRow.lt h

set_option maxHeartbeats 1000000 in
set_option maxRecDepth 100000 in
theorem aa_node (T : Tm) (hn : T.isAtom = false) (ih : ∀ k ∈ T.kids, AA k) : AA T := by
  intro w B v ls h hB hl
  have h0 := as_atom_no T hn
  have h1 := met_args T
  have h2 := inv_args T
  have h3 := args_calls T w
  have hk := aL_kids T hn
  rw [val_eq] at h0 ⊢
  have hblk := Strs.block h
  rcases kids_node T hn with ⟨x, e1⟩ | ⟨x, y, e1⟩
  · have ix := ih x (by rw [e1]; simp)
    rw [e1] at h3 hk
    simp only [List.flatMap_cons, List.flatMap_nil, List.append_nil] at hk
    rw [hk] at hl ⊢
    unfold AA at ix
    have H := Lib.hid h
    have HK := Lib.hid hblk
    have IX := Lib.hid ix
    clear ih e1 hk h hn hblk ix
    obtain ⟨X, hX⟩ : ∃ X, X = aL x := ⟨_, rfl⟩
    have IX2 : Hid (∀ (w : World) (B : Nat) (v : Value) (ls : List Bs), Strs w B v ls → B ≤ w.heap.size → ls.length + X.length ≤ 100000 → Calls Tryz.prog 88 #[v, val x] w (AEnd w B v (ls ++ X))) := by rw [hX]; exact IX.out
    rw [← hX] at hl ⊢
    clear hX IX
    go_enter Tryz.func88, Tryz.ntmps88
    go_wp2_with fail
    refine h3.mono ?_
    rintro e w1 ⟨vk, rfl, hb, hk⟩
    obtain ⟨g, cap, rfl, c0, hg⟩ := Tms.one' hk
    have HB := Lib.hid hb
    clear hb hk
    go_wp2_with fail
    refine wp_loop_rounds 2 ?_
    rw [rounds_succ]
    go_wp2_with fail
    refine (IX2.out _ B v ls (Strs.below H.out HB.out) (Nat.le_trans hB HB.out.size) hl).mono ?_
    rintro e w2 ⟨v2, rfl, s2, a2, k2⟩
    have S2 := Lib.hid s2
    have A2 := Lib.hid (mrs.Aside.after HB.out a2)
    have K2 := Lib.hid k2
    clear s2 a2 k2 c0
    go_wp2_with fail
    rw [rounds_succ]
    go_wp2_with fail
    go_ret
    exact ⟨_, rfl, S2.out, A2.out, fun k hk => (K2.out k hk).imp id fun h => Nat.le_trans HB.out.size h⟩
  · have ix := ih x (by rw [e1]; simp)
    have iy := ih y (by rw [e1]; simp)
    rw [e1] at h3 hk
    simp only [List.flatMap_cons, List.flatMap_nil, List.append_nil] at hk
    rw [hk] at hl ⊢
    unfold AA at ix iy
    have H := Lib.hid h
    have HK := Lib.hid hblk
    have IX := Lib.hid ix
    have IY := Lib.hid iy
    clear ih e1 hk h hn hblk ix iy
    obtain ⟨X, hX⟩ : ∃ X, X = aL x := ⟨_, rfl⟩
    obtain ⟨Y, hY⟩ : ∃ Y, Y = aL y := ⟨_, rfl⟩
    have IX2 : Hid (∀ (w : World) (B : Nat) (v : Value) (ls : List Bs), Strs w B v ls → B ≤ w.heap.size → ls.length + X.length ≤ 100000 → Calls Tryz.prog 88 #[v, val x] w (AEnd w B v (ls ++ X))) := by rw [hX]; exact IX.out
    have IY2 : Hid (∀ (w : World) (B : Nat) (v : Value) (ls : List Bs), Strs w B v ls → B ≤ w.heap.size → ls.length + Y.length ≤ 100000 → Calls Tryz.prog 88 #[v, val y] w (AEnd w B v (ls ++ Y))) := by rw [hY]; exact IY.out
    rw [← hX, ← hY] at hl ⊢
    rw [List.length_append] at hl
    rw [← List.append_assoc]
    clear hX IX hY IY
    go_enter Tryz.func88, Tryz.ntmps88
    go_wp2_with fail
    refine h3.mono ?_
    rintro e w1 ⟨vk, rfl, hb, hk⟩
    obtain ⟨g, cap, rfl, c0, c1, hg⟩ := Tms.two' hk
    have hgw : w.heap.size ≤ g := (World.ownsRow.lt hk g rfl).1
    have HB := Lib.hid hb
    clear hb hk
    go_wp2_with fail
    refine wp_loop_rounds 3 ?_
    rw [rounds_succ]
    go_wp2_with fail
    refine (IX2.out _ B v ls (Strs.below H.out HB.out) (Nat.le_trans hB HB.out.size) (by omega)).mono ?_
    rintro e w2 ⟨v2, rfl, s2, a2, k2⟩
    have m1 : w2.cell? ⟨g, 1, none⟩ = some (val y) := by
      rw [← c1]
      exact World.cell?_of_block (w := w1) (a2.block g hg fun e => by have := HK.out g e; omega)
    have S2 := Lib.hid s2
    have A2 := Lib.hid (mrs.Aside.after HB.out a2)
    have K2 := Lib.hid k2
    have hz := Lib.hid a2.size
    clear s2 a2 k2 c0 c1
    go_wp2_with fail
    rw [rounds_succ]
    go_wp2_with fail
    refine (IY2.out _ B v2 _ S2.out (by have := hB; have := HB.out.size; have := hz.out; omega) (by rw [List.length_append]; omega)).mono ?_
    rintro e w3 ⟨v3, rfl, s3, a3, k3⟩
    have S3 := Lib.hid s3
    have A3 := Lib.hid (Aside.trans' A2.out a3 fun b hb => (K2.out b hb).imp id fun h => Nat.le_trans HB.out.size h)
    have K3 := Lib.hid k3
    clear s3 a3 k3 m1
    go_wp2_with fail
    rw [rounds_succ]
    go_wp2_with fail
    go_ret
    refine ⟨_, rfl, S3.out, A3.out, fun k hk => ?_⟩
    rcases K3.out k hk with h | h
    · exact (K2.out k h).imp id fun h => Nat.le_trans HB.out.size h
    · right; have := HB.out.size; have := hz.out; omega

theorem aa_all : ∀ n (T : Tm), T.deep ≤ n → AA T
  | 0, T, h => by have := deep_pos T; omega
  | n + 1, T, h => by
    rcases isAtom_cases T with hn | ⟨a, rfl⟩
    · exact aa_node T hn fun k hk => aa_all n k (by have := kid_deep hk; omega)
    · exact aa_atom a

theorem aL_ne (T : Tm) : aL T ≠ [] := by
  induction T with
  | atom a => simp [aL]
  | pair l r h1 h2 => simp [aL, h1]
  | hash x h => simpa [aL] using h
  | mac k x h1 h2 => simp [aL, h1]
  | shut k x h1 h2 => simp [aL, h1]
  | pub a => simp [aL]
  | dh a b => simp [aL]

theorem aL_len (T : Tm) (hT : T.ok) : (aL T).length ≤ T.tx.length := by
  induction T with
  | atom a => have := (atomR_len (show atomR a = true from hT)).1; simpa [aL, Tm.tx] using this
  | pair l r h1 h2 => have a1 := h1 hT.1; have a2 := h2 hT.2; simp [aL, Tm.tx, say]; omega
  | hash x h => have a1 := h hT; simp [aL, Tm.tx, say]; omega
  | mac k x h1 h2 => have a1 := h1 hT.1; have a2 := h2 hT.2; simp [aL, Tm.tx, say]; omega
  | shut k x h1 h2 => have a1 := h1 hT.1; have a2 := h2 hT.2; simp [aL, Tm.tx, say]; omega
  | pub a => simp [aL, Tm.tx, say]
  | dh a b => simp [aL, Tm.tx, say, oDh]

/-- What AtomsOf answers. -/
def atomsR (l : Bs) : List Bs := match term l with | some T => puts [] (aL T) | none => []
theorem atomsR_none {l : Bs} (h : term l = none) : atomsR l = [] := by unfold atomsR; rw [h]
theorem atomsR_some {l : Bs} {T : Tm} (h : term l = some T) : atomsR l = puts [] (aL T) := by unfold atomsR; rw [h]

open Go.Sort in
/-- Sort and Compact of a row of the call's own: what is told of the world behind both. -/
theorem sorted_row {w : World} {B g cap : Nat} {cur : Array Value} {ls : List Bs} (hB : B ≤ g) (hb : w.heap[g]? = some (.cells cur 9 (0, 0))) (hn : ls.length ≤ cap) (hm : cap ≤ maxLen) (hc : cur.size = cap * 1)
    (n : Nat) (os : Array Obj) (zs : List Bs) (hz : zs.length = ls.length) :
    Strs (grow (putRow encStr (Sort.ahead w n) g 0 zs.toArray) os) B (.slice (some ⟨g, 0, none⟩) zs.length cap) zs ∧
    mrs.Aside (.slice (some ⟨g, 0, none⟩) zs.length cap) w (grow (putRow encStr (Sort.ahead w n) g 0 zs.toArray) os) ∧
    ∃ cur2, (grow (putRow encStr (Sort.ahead w n) g 0 zs.toArray) os).heap[g]? = some (.cells cur2 9 (0, 0)) ∧ cur2.size = cap * 1 ∧ cur2.toList.take zs.length = zs.map encStr := by
  have h1 := ownsRow_sorted (n := n) (os := os) (ss := ls) (ts := zs) hz hB hb hn hm hc
  have h2 := grownBy_sorted (w := w) (g := g) (n := n) (os := os) zs.toArray
  refine ⟨?_, ⟨h2.os, h2.tape, h2.output, h2.size, fun k hk hne => h2.block k hk (fun e => hne e.symm)⟩, putCells encStr 0 zs.toArray cur, heap_sorted _ hb, by simp [putCells, hc], take_putCells cur zs (by omega)⟩
  unfold Strs
  rw [hz]
  exact h1

set_option maxHeartbeats 1000000 in
set_option maxRecDepth 100000 in
theorem implAtomsOf_calls (s : ByteArray) (hs : s.size ≤ maxLen) (w : World) :
    Calls Tryz.prog 29 #[.string s] w fun e w' => ∃ v, e = .returned v ∧ Below w.heap.size w w' ∧ Wrs w' w.heap.size v (atomsR s.data.toList) := by
  rcases h : term s.data.toList with _ | T
  · rw [atomsR_none h]
    have a1 := grd.termOf_no s hs h
    clear h
    go_enter Tryz.func29, Tryz.ntmps29
    go_wp2_with fail
    refine (a1 _).mono ?_
    rintro e w1 ⟨rfl, hb⟩
    go_wp2_with fail
    go_ret
    exact ⟨_, rfl, hb, .inl ⟨rfl, _, _, rfl⟩⟩
  · rw [atomsR_some h]
    have a1 := grd.termOf_yes s hs T h
    obtain ⟨hT, _, htx⟩ := (term_some.1 h).2
    have hl := aL_len T hT
    have hl2 := (term_some.1 h).1
    rw [← htx] at hl2
    have hne := aL_ne T
    have a2 := fun w B v ls => aa_all T.deep T (Nat.le_refl _) w B v ls
    rw [← same]
    obtain ⟨L, hL⟩ : ∃ L, L = aL T := ⟨_, rfl⟩
    rw [← hL] at hl hne ⊢
    simp only [← hL] at a2
    obtain ⟨Z, hZ⟩ : ∃ Z, Z = L.mergeSort fun x y => decide (x ≤ y) := ⟨_, rfl⟩
    have hZl : Z.length = L.length := by rw [hZ]; exact List.length_mergeSort _
    rw [← hZ]
    have HZ := Lib.hid hZ
    have HNE := Lib.hid hne
    have HL : L.length ≤ 3000 := by omega
    rw [val_eq] at a1 a2
    have A2 := Lib.hid a2
    clear h hT htx hl hl2 hL hZ hne a2
    go_enter Tryz.func29, Tryz.ntmps29
    go_wp2_with fail
    refine (a1 _).mono ?_
    rintro e w1 ⟨rfl, hb⟩
    have HB := Lib.hid hb
    clear hb
    go_wp2_with fail
    refine (A2.out w1 w.heap.size (.slice none 0 0) [] (Strs.nil _ _) HB.out.size (by simp; omega)).mono ?_
    rintro e w2 ⟨v, rfl, s2, d2, k2⟩
    rw [List.nil_append] at s2
    have hB2 : Below w.heap.size w w2 := HB.out.trans (d2.below HB.out.size (fun k hk => by cases hk))
    obtain ⟨_, hh⟩ := s2
    rcases hh with ⟨_, h0⟩ | ⟨g, cap, cur, rfl, hg, hblk, hc1, hc2, hc3, hc4⟩
    · exact absurd (List.eq_nil_of_length_eq_zero h0) HNE.out
    have hH := holds_of_block (ss := L) hblk (by simpa using hc4)
    have hgs : g < w2.heap.size := (Array.getElem?_eq_some_iff.1 hblk).1
    have c1 := shs.sort_some g 0 cap L w2 hH hgs (by omega)
    rw [← HZ.out] at c1
    have C1 := Lib.hid c1
    have HB2 := Lib.hid hB2
    have HBK := Lib.hid hblk
    clear d2 k2 hc4 hH c1 hB2 hblk
    go_wp2_with fail
    refine C1.out.mono ?_
    rintro e w3 ⟨rfl, n3, os3, hw3⟩
    obtain ⟨s3, d3, cur3, hb3, hc3', ht3⟩ := sorted_row (ls := L) hg HBK.out hc1 hc2 hc3 n3 os3 Z hZl
    rw [← hw3] at s3 d3 hb3
    have hH3 := holds_of_block (ss := Z) hb3 ht3
    have c2 := shc.compact_some g 0 cap Z w3 hH3 (by omega) (by omega)
    rw [hZl] at c2
    have HB3 := Lib.hid (HB2.out.trans (d3.below HB2.out.size (fun k hk => by cases hk; exact hg)))
    have C2 := Lib.hid c2
    have HBK3 := Lib.hid hb3
    clear hw3 s3 d3 hb3 ht3 hH3 c2
    go_wp2_with fail
    refine C2.out.mono ?_
    rintro e w4 ⟨rfl, q, hw4⟩
    have hcl := Lib.compact_length_le Z
    obtain ⟨s4, d4, cur4, hb4, hc4', ht4⟩ := sorted_row (ls := L) hg HBK3.out hc1 hc2 hc3' q #[] (Lib.compact Z ++ List.replicate (L.length - (Lib.compact Z).length) []) (by simp; omega)
    rw [Go.Sort.grow_empty, ← hw4] at s4 d4 hb4
    have HB4 := Lib.hid (HB3.out.trans (d4.below HB3.out.size (fun k hk => by cases hk; exact hg)))
    have HS4 := Lib.hid (Strs.wrs s4)
    clear hw4 s4 d4 hb4 ht4
    go_wp2_with fail
    go_ret
    have hlen : (Lib.compact Z ++ List.replicate (L.length - (Lib.compact Z).length) []).length = L.length := by simp; omega
    rcases HS4.out with ⟨h0, _⟩ | ⟨g', off', cap', e', hBg', hg', hc', hf'⟩
    · exfalso
      rw [h0] at hlen
      exact HNE.out (List.eq_nil_of_length_eq_zero hlen.symm)
    · cases e'
      refine ⟨.slice (some ⟨g, 0, none⟩) (Lib.compact Z).length cap, rfl, HB4.out, .inr ⟨g, 0, cap, rfl, hg, hg', fun j l hj => hc' j l ?_, fun j hj => hf' j (by omega)⟩⟩
      have hj' : j < (Lib.compact Z).length := by
        rcases Nat.lt_or_ge j (Lib.compact Z).length with h | h
        · exact h
        · rw [List.getElem?_eq_none h] at hj; cases hj
      rw [List.getElem?_append_left hj']
      exact hj
end Go.Proofs.YtnlinlodgpbnlaaGreat.addt
