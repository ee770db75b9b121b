/- Several small texts, one behind the other. -/
import Derived.Test.YtdikjmhnjlalbabGreatSkrq
import Derived.Test.YtdikjmhnjlalbabGreatQj
import Derived.Test.YtdikjmhnjlalbabGreatQo
import Derived.Test.YtdikjmhnjlalbabGreatQn

/- The model's l03In and l03Builds. -/
namespace Go.Proofs.YtdikjmhnjlalbabGreat.sin
open Go.RowKit Go.Proofs.YtdikjmhnjlalbabGreat.tm Go.Proofs.YtdikjmhnjlalbabGreat.lib Go.Proofs.YtdikjmhnjlalbabGreat.rdr Go.Proofs.YtdikjmhnjlalbabGreat.bld Go.Proofs.YtdikjmhnjlalbabGreat.app Go.Proofs.YtdikjmhnjlalbabGreat.mrk Go.Proofs.YtdikjmhnjlalbabGreat.mrs Go.Proofs.YtdikjmhnjlalbabGreat.snd Go.Proofs.YtdikjmhnjlalbabGreat.kmp
set_option linter.unusedVariables false

set_option maxHeartbeats 1000000 in
set_option maxRecDepth 100000 in
theorem in_calls (v : Value) (ls : List Bs) (t : Bs) (w : World) (h : Rds w v ls) (hl : ls.length ≤ 1000000) :
    Calls Tryz.prog 52 #[v, str t] w fun e w' => e = .returned (.bool (inn ls t)) ∧ w = w' := by
  obtain ⟨ad, cap, rfl⟩ : ∃ ad cap, v = .slice ad ls.length cap := by
    rcases h with ⟨rfl, a, c, e⟩ | ⟨g, off, cap, e, _⟩
    · exact ⟨a, c, e⟩
    · exact ⟨_, _, e⟩
  obtain ⟨n, hn⟩ : ∃ n, n = ls.length := ⟨_, rfl⟩
  have H := Lib.hid h
  have HN := Lib.hid hn
  rw [← hn] at hl ⊢
  clear h hn
  go_enter Tryz.func52, Tryz.ntmps52
  go_wp2_with fail
  go_loop [5, 6, 7, 8, 9, 10, 11, 12, 13, 14, 15, 16, 17] (fun vk _ _ _ _ _ _ _ _ _ _ _ _ => ∃ k : Nat, k ≤ n ∧ vk = .int .i64 k ∧ ∀ j, j < k → ∀ x, ls[j]? = some x → x ≠ t) (fun vk _ _ _ _ _ _ _ _ _ _ _ _ => n - (intOf vk).toNat)
  case atStart => exact ⟨0, Nat.zero_le _, rfl, fun j hj => by omega⟩
  case round =>
    obtain ⟨k, hk, rfl, hall⟩ := hrel
    have HA := Lib.hid hall
    clear hall
    by_cases hlt : k < n
    · obtain ⟨x, hx⟩ : ∃ x, ls[k]? = some x := ⟨_, List.getElem?_eq_getElem (by have := HN.out; omega)⟩
      rcases H.out with ⟨h0, _⟩ | ⟨g, off, cap', e, hg, hc⟩
      · rw [h0] at hx; simp at hx
      cases e
      have c1 : w.cell? ⟨g, off + k, none⟩ = some (str x) := hc k x hx
      have HX := Lib.hid hx
      clear hx hc
      by_cases hxt : x = t
      · subst hxt
        have b2 : (x == x) = true := by simp
        go_wp2_with fail
        go_ret
        exact ⟨by rw [inn_iff.2 (List.mem_of_getElem? HX.out)]; rfl, rfl⟩
      · have b2 : (x == t) = false := by rw [beq_eq_false_iff_ne]; exact hxt
        have HXT := Lib.hid hxt
        clear hxt
        go_wp2_with fail
        go_round
        case rel =>
          refine ⟨k + 1, by omega, by go_num, fun j hj y hy => ?_⟩
          by_cases e : j = k
          · subst e; rw [HX.out] at hy; cases hy; exact HXT.out
          · exact HA.out j (by omega) y hy
        case measure => simp [intOf]; omega
    · have e : k = n := by omega
      subst e
      go_wp2_with fail
      go_ret
      refine ⟨?_, rfl⟩
      rw [inn_no.2 fun hm => ?_]
      · rfl
      · obtain ⟨j, hj, e⟩ := List.getElem_of_mem hm
        exact HA.out j (by have := HN.out; omega) t (by rw [← e]; exact List.getElem?_eq_getElem hj) rfl

def SB (T : Tm) : Prop := ∀ (w : World) (v : Value) (ls : List Bs), Rds w v ls → ls.length ≤ 1000000 →
  Calls Tryz.prog 34 #[v, str T.tx] w fun e w' => e = .returned (.bool (kmp.bld (inn ls) T)) ∧ Below w.heap.size w w'

theorem rds_form {w : World} {v : Value} {ls : List Bs} (h : Rds w v ls) : ∃ ad cap, v = .slice ad ls.length cap := by
  rcases h with ⟨rfl, a, c, e⟩ | ⟨g, off, cap, e, _⟩
  · exact ⟨a, c, e⟩
  · exact ⟨_, _, e⟩

theorem sb_here (T : Tm) (w : World) (v : Value) (ls : List Bs) (h : Rds w v ls) (hl : ls.length ≤ 1000000) (hi : inn ls T.tx = true) :
    Calls Tryz.prog 34 #[v, str T.tx] w fun e w' => e = .returned (.bool true) ∧ Below w.heap.size w w' := by
  have hin := in_calls v ls T.tx w h hl
  obtain ⟨ad, cap, rfl⟩ := rds_form h
  rw [hi] at hin
  obtain ⟨X, hX⟩ : ∃ X, X = T.tx := ⟨_, rfl⟩
  rw [← hX] at hin ⊢
  have HI := Lib.hid hin
  clear hin h hX hi
  go_enter Tryz.func34, Tryz.ntmps34
  go_wp2_with fail
  refine HI.out.mono ?_
  rintro e w' ⟨rfl, rfl⟩
  go_wp2_with fail
  go_ret
  exact ⟨rfl, Below.refl _ _⟩

set_option maxHeartbeats 1000000 in
set_option maxRecDepth 100000 in
theorem sb_atom (a : Bs) (ha : atomR a = true) : SB (.atom a) := by
  intro w v ls h hl
  cases hi : inn ls a with
  | true =>
    have := sb_here (.atom a) w v ls h hl hi
    rw [show kmp.bld (inn ls) (.atom a) = true from hi]
    exact this
  | false =>
    rw [show kmp.bld (inn ls) (.atom a) = false from hi]
    have hin := in_calls v ls a w h hl
    have hnd := spt.node_tx (.atom a) ha (by have := atomR_len ha; simp [Tm.tx]; omega)
    obtain ⟨ad, cap, rfl⟩ := rds_form h
    rw [hi] at hin
    simp only [Tm.tx, Tm.op] at hnd ⊢
    have HI := Lib.hid hin
    have ND := Lib.hid hnd
    clear hin h hi hnd
    go_enter Tryz.func34, Tryz.ntmps34
    go_wp2_with fail
    refine HI.out.mono ?_
    rintro e w' ⟨rfl, rfl⟩
    go_wp2_with fail
    refine (ND.out _).mono ?_
    rintro e w1 ⟨va, rfl, hb, hx⟩
    obtain ⟨g, off, cap', rfl, _⟩ := hx
    have HB := Lib.hid hb
    clear hb
    go_wp2_with fail
    go_ret
    exact ⟨rfl, HB.out.alloc HB.out.size _⟩

structure Bk (ls : List Bs) (T : Tm) (w : World) (w1 wr : World) (k : Nat) : Prop where
  le : k ≤ T.kids.length
  all : ∀ j U, j < k → T.kids[j]? = some U → kmp.bld (inn ls) U = true
  bel : Below w1.heap.size w1 wr

set_option maxHeartbeats 1000000 in
set_option maxRecDepth 100000 in
theorem sb_node (T : Tm) (hn : T.isAtom = false) (hd : T.op ≠ oDh) (hok : T.ok) (hl3 : T.tx.length ≤ 3000) (ih : ∀ k ∈ T.kids, SB k) : SB T := by
  intro w v ls h hl
  cases hi : inn ls T.tx with
  | true =>
    have := sb_here T w v ls h hl hi
    rw [bld_here hi]
    exact this
  | false =>
    rw [bld_node _ T hn hd, hi, Bool.false_or]
    have hin := in_calls v ls T.tx w h hl
    have hnd := spt.node_tx T hok hl3
    have hna : nodeArgs T = T.kids.map Tm.tx := by unfold nodeArgs; rw [hn]; rfl
    rw [hna] at hnd
    rw [hi] at hin
    have h' := h
    obtain ⟨ad, cap, rfl⟩ := rds_form h
    have hkl : T.kids.length ≤ 2 := by cases T <;> simp [Tm.kids]
    have hop : T.op ≠ [] := by cases T <;> simp [Tm.op, oPair, oHash, oMac, oShut, oPub, oDh, Tm.isAtom] at hn ⊢
    obtain ⟨X, hX⟩ : ∃ X, X = T.tx := ⟨_, rfl⟩
    rw [← hX] at hin hnd ⊢
    obtain ⟨O, hO⟩ : ∃ O, O = T.op := ⟨_, rfl⟩
    rw [← hO] at hd hop hnd
    have d1 : O.isEmpty = false := by cases O with | nil => exact absurd rfl hop | cons c r => rfl
    have d2 : (O == []) = false := by rw [beq_eq_false_iff_ne]; exact hop
    have d3 : (O == [100, 104]) = false := by rw [beq_eq_false_iff_ne]; exact hd
    obtain ⟨R, hR⟩ : ∃ R, R = T.kids.all (kmp.bld (inn ls)) := ⟨_, rfl⟩
    rw [← hR]
    obtain ⟨n, hN⟩ : ∃ n, n = T.kids.length := ⟨_, rfl⟩
    have HR := Lib.hid hR
    have HI := Lib.hid hin
    have ND := Lib.hid hnd
    have H := Lib.hid h'
    have IH := Lib.hid ih
    have HN := Lib.hid hN
    rw [← hN] at hkl
    clear hin h h' hi hnd hR ih hN hna hX hO hd hop hn hok hl3
    go_enter Tryz.func34, Tryz.ntmps34
    go_wp2_with fail
    refine HI.out.mono ?_
    rintro e w' ⟨rfl, rfl⟩
    go_wp2_with fail
    refine (ND.out _).mono ?_
    rintro e w1 ⟨va, rfl, hb, hx⟩
    obtain ⟨g, off, cap', rfl, _, hg, hcap, hc⟩ := hx
    have HB := Lib.hid hb
    have HC := Lib.hid hc
    rw [List.length_map, ← HN.out] at hcap ⊢
    clear hb hc
    go_wp2_with fail
    obtain ⟨W1, hW1⟩ : ∃ W, W = w1.alloc (.cells #[str O, .slice (some ⟨g, off, none⟩) n cap'] 72) := ⟨_, rfl⟩
    have HBW := Lib.hid (show Below w.heap.size w W1 by rw [hW1]; exact HB.out.alloc HB.out.size _)
    have e1 : W1.cell? ⟨w1.heap.size, 1, none⟩ = some (.slice (some ⟨g, off, none⟩) n cap') := by rw [hW1]; simp [go_sem]
    have HC1 := Lib.hid (show ∀ j l, (T.kids.map Tm.tx)[j]? = some l → W1.cell? ⟨g, off + j, none⟩ = some (str l) from fun j l hj => by
      rw [hW1, World.cell?_alloc_lt _ _ ⟨g, off + j, none⟩ hg]
      exact HC.out j l hj)
    have hg1 : g < W1.heap.size := by rw [hW1]; simp; omega
    have hb1 : w1.heap.size < W1.heap.size := by rw [hW1]; simp
    rw [← hW1]
    have E1 := Lib.hid e1
    clear hW1 e1 hg
    go_loopw [10, 59, 60, 61, 62, 63, 64, 65, 66, 67, 68, 69, 70, 71, 72, 73] (fun vk _ _ _ _ _ _ _ _ _ _ _ _ _ _ _ wr => ∃ k, vk = .int .i64 (k : Nat) ∧ Bk ls T w W1 wr k) (fun vk _ _ _ _ _ _ _ _ _ _ _ _ _ _ _ _ => n - (intOf vk).toNat)
    case atStart => exact ⟨0, rfl, Nat.zero_le _, fun j U hj => by omega, Below.refl _ _⟩
    case round =>
      obtain ⟨k, rfl, K⟩ := hrel
      have KK := Lib.hid K
      have hk : k ≤ n := by have := K.le; have := HN.out; omega
      have e1 : wr.cell? ⟨w1.heap.size, 1, none⟩ = some (.slice (some ⟨g, off, none⟩) n cap') := by rw [← E1.out]; exact K.bel.cell (p := ⟨w1.heap.size, 1, none⟩) hb1
      have HBR := Lib.hid (HBW.out.trans (K.bel.mono HBW.out.size))
      clear K
      by_cases hlt : k < n
      · obtain ⟨U, hU⟩ : ∃ U, T.kids[k]? = some U := ⟨_, List.getElem?_eq_getElem (by have := HN.out; omega)⟩
        have cu : wr.cell? ⟨g, off + k, none⟩ = some (str U.tx) := by
          rw [← HC1.out k U.tx (by rw [List.getElem?_map, hU]; rfl)]
          exact KK.out.bel.cell (p := ⟨g, off + k, none⟩) hg1
        have hbU := IH.out U (List.mem_of_getElem? hU) wr _ ls (Rds.below H.out HBR.out) hl
        have HU := Lib.hid hU
        obtain ⟨Y, hY⟩ : ∃ Y, Y = U.tx := ⟨_, rfl⟩
        rw [← hY] at cu hbU
        have HBU := Lib.hid hbU
        clear hbU hU hY
        cases hv : kmp.bld (inn ls) U with
        | false =>
          have HV := Lib.hid hv
          rw [hv] at HBU
          clear hv
          go_wp2_with fail
          refine HBU.out.mono ?_
          rintro e w2 ⟨rfl, hb2⟩
          have HB2 := Lib.hid (HBR.out.trans (hb2.mono HBR.out.size))
          clear hb2 cu e1
          go_wp2_with fail
          go_ret
          refine ⟨?_, HB2.out⟩
          have : R = false := by
            rw [HR.out, List.all_eq_false]
            exact ⟨U, List.mem_of_getElem? HU.out, by rw [HV.out]; simp⟩
          rw [this]
          rfl
        | true =>
          have HV := Lib.hid hv
          rw [hv] at HBU
          clear hv
          go_wp2_with fail
          refine HBU.out.mono ?_
          rintro e w2 ⟨rfl, hb2⟩
          have HB2 := Lib.hid (KK.out.bel.trans (hb2.mono KK.out.bel.size))
          clear hb2 cu e1
          go_wp2_with fail
          go_roundw
          case rel =>
            refine ⟨k + 1, by simp, by have := HN.out; omega, fun j V hj hV => ?_, HB2.out⟩
            rcases Nat.lt_or_ge j k with h | h
            · exact KK.out.all j V h hV
            · have : j = k := by omega
              subst this
              rw [HU.out] at hV
              cases hV
              exact HV.out
          case measure => simp [intOf]; omega
      · have e : k = n := by omega
        subst e
        go_wp2_with fail
        go_ret
        refine ⟨?_, HBR.out⟩
        have : R = true := by
          rw [HR.out, List.all_eq_true]
          intro U hU
          obtain ⟨j, hj, e⟩ := List.getElem_of_mem hU
          exact KK.out.all j U (by have := HN.out; omega) (by rw [← e]; exact List.getElem?_eq_getElem hj)
        rw [this]
        rfl

def dhB (a b p q d : Bool) : Bool := d || ((a && (q || b)) || (b && (p || a)))

theorem dhB_eq (S : Bs → Bool) (x y : Bs) : kmp.bld S (.dh x y) = dhB (S x) (S y) (S (Tm.tx (.pub x))) (S (Tm.tx (.pub y))) (S (Tm.tx (.dh x y))) := rfl

set_option maxHeartbeats 4000000 in
set_option maxRecDepth 100000 in
theorem sb_dh (x y : Bs) (hok : (Tm.dh x y).ok) : SB (.dh x y) := by
  intro w v ls h hl
  have hx8 := (atomR_len hok.1).2
  have hy8 := (atomR_len hok.2.1).2
  cases hi : inn ls (Tm.tx (.dh x y)) with
  | true =>
    have := sb_here (.dh x y) w v ls h hl hi
    rw [bld_here hi]
    exact this
  | false =>
    rw [dhB_eq, hi]
    have hin := in_calls v ls (Tm.tx (.dh x y)) w h hl
    have hnd := spt.node_tx (.dh x y) hok (by simp [Tm.tx, say, oDh]; omega)
    have hall := fun (w : World) (h : Rds w v ls) (t : Bs) => in_calls v ls t w h hl
    rw [hi] at hin
    obtain ⟨ad, cap, rfl⟩ := rds_form h
    obtain ⟨X, hX⟩ : ∃ X, X = Tm.tx (.dh x y) := ⟨_, rfl⟩
    rw [← hX] at hin hnd ⊢
    obtain ⟨PX, hPX⟩ : ∃ X, X = say oPub [x] := ⟨_, rfl⟩
    obtain ⟨PY, hPY⟩ : ∃ X, X = say oPub [y] := ⟨_, rfl⟩
    have sx := fun (w : World) (g : Nat) (c0 : w.cell? ⟨g, 0, none⟩ = some (str x)) => ssy.say_one oPub x g 0 1 w c0 (by simp [oPub]) (by omega)
    have sy := fun (w : World) (g : Nat) (c0 : w.cell? ⟨g, 0, none⟩ = some (str y)) => ssy.say_one oPub y g 0 1 w c0 (by simp [oPub]) (by omega)
    rw [← hPX] at sx
    rw [← hPY] at sy
    rw [show Tm.tx (.pub x) = PX from hPX.symm, show Tm.tx (.pub y) = PY from hPY.symm]
    have H := Lib.hid h
    have HI := Lib.hid hin
    have ND := Lib.hid hnd
    have HALL := Lib.hid hall
    have SX := Lib.hid sx
    have SY := Lib.hid sy
    unfold oPub at SX SY
    clear h hin hnd hall sx sy hX hPX hPY hi hok hx8 hy8
    go_enter Tryz.func34, Tryz.ntmps34
    go_wp2_with fail
    refine HI.out.mono ?_
    rintro e w' ⟨rfl, rfl⟩
    go_wp2_with fail
    refine (ND.out _).mono ?_
    rintro e w1 ⟨va, rfl, hb, hx⟩
    change Txs w1 w.heap.size va [x, y] at hx
    obtain ⟨g, off, cap', rfl, _, hg, c0, c1⟩ := sop.Txs.two hx
    have HB := Lib.hid hb
    clear hb hx
    have e0 : str (Tm.dh x y).op = .string ⟨#[100, 104]⟩ := rfl
    rw [e0]
    clear e0
    go_wp2_with fail
    obtain ⟨W1, hW1⟩ : ∃ W, W = w1.alloc (.cells #[.string ⟨#[100, 104]⟩, .slice (some ⟨g, off, none⟩) 2 cap'] 72) := ⟨_, rfl⟩
    have HBW := Lib.hid (show Below w.heap.size w W1 by rw [hW1]; exact HB.out.alloc HB.out.size _)
    have q1 : ∀ d os, (Go.Sort.grow (redrawn W1 d) os).cell? ⟨w1.heap.size, 1, none⟩ = some (.slice (some ⟨g, off, none⟩) 2 cap') := fun d os => cell_regrown (by rw [hW1]; simp [go_sem]) d os
    have q2 : ∀ d os, (Go.Sort.grow (redrawn W1 d) os).cell? ⟨g, off, none⟩ = some (str x) := fun d os => cell_regrown (by rw [hW1, World.cell?_alloc_lt _ _ ⟨g, off, none⟩ hg]; exact c0) d os
    have q3 : ∀ d os, (Go.Sort.grow (redrawn W1 d) os).cell? ⟨g, off + 1, none⟩ = some (str y) := fun d os => cell_regrown (by rw [hW1, World.cell?_alloc_lt _ _ ⟨g, off + 1, none⟩ hg]; exact c1) d os
    rw [← hW1]
    clear hW1 c0 c1
    refine wp_region_quiet_below (by kernel_rfl) (by kernel_rfl) ?_
    iterate 10 (with_reducible refine wpQuiet_step (fun K hK => ?_); go_simp; with_reducible refine hK _ ?_; clear hK K)
    with_reducible refine wpQuiet_nil ?_
    rintro w2 ⟨⟨dq, osq⟩, hw2⟩
    have HB2 := Lib.hid (HBW.out.trans ((show Below W1.heap.size W1 w2 by rw [hw2]; exact below_regrown _ _ _).mono HBW.out.size))
    clear hw2 q1 q2 q3
    go_wp2_with fail
    refine (SX.out _ _ (by simp [go_sem])).mono ?_
    rintro e w3 ⟨rfl, hb3⟩
    have HB3 := Lib.hid (HB2.out.trans (((Below.refl _ _).alloc (Nat.le_refl _) _ |>.trans (hb3.mono (by simp))).mono HB2.out.size))
    clear hb3
    go_wp2_with fail
    refine (SY.out _ _ (by simp [go_sem])).mono ?_
    rintro e w4 ⟨rfl, hb4⟩
    have HB4 := Lib.hid (HB3.out.trans (((Below.refl _ _).alloc (Nat.le_refl _) _ |>.trans (hb4.mono (by simp))).mono HB3.out.size))
    clear hb4
    have R4 := Rds.below H.out HB4.out
    have ix := HALL.out w4 R4 x
    have iy := HALL.out w4 R4 y
    have ipx := HALL.out w4 R4 PX
    have ipy := HALL.out w4 R4 PY
    clear R4
    obtain ⟨sx, hsx⟩ : ∃ s, inn ls x = s := ⟨_, rfl⟩
    obtain ⟨sy, hsy⟩ : ∃ s, inn ls y = s := ⟨_, rfl⟩
    obtain ⟨spx, hspx⟩ : ∃ s, inn ls PX = s := ⟨_, rfl⟩
    obtain ⟨spy, hspy⟩ : ∃ s, inn ls PY = s := ⟨_, rfl⟩
    rw [hsx] at ix
    rw [hsy] at iy
    rw [hspx] at ipx
    rw [hspy] at ipy
    have V := Lib.hid (show dhB (inn ls x) (inn ls y) (inn ls PX) (inn ls PY) false = dhB sx sy spx spy false by rw [hsx, hsy, hspx, hspy])
    clear hsx hsy hspx hspy
    have IX := Lib.hid ix
    have IY := Lib.hid iy
    have IPX := Lib.hid ipx
    have IPY := Lib.hid ipy
    clear ix iy ipx ipy
    go_wp2_with fail
    refine IX.out.mono ?_
    rintro e w' ⟨rfl, rfl⟩
    cases sx with
    | true =>
      go_wp2_with fail
      refine IY.out.mono ?_
      rintro e w' ⟨rfl, rfl⟩
      cases sy with
      | true =>
        go_wp2_with fail
        go_ret
        exact ⟨(by rw [V.out]; first | rfl | (cases spx <;> rfl) | (cases spy <;> rfl) | (cases spx <;> cases spy <;> rfl)), HB4.out⟩
      | false =>
        go_wp2_with fail
        refine IPY.out.mono ?_
        rintro e w' ⟨rfl, rfl⟩
        cases spy with
        | true =>
          go_wp2_with fail
          go_ret
          exact ⟨(by rw [V.out]; first | rfl | (cases spx <;> rfl) | (cases spy <;> rfl) | (cases spx <;> cases spy <;> rfl)), HB4.out⟩
        | false =>
          go_wp2_with fail
          refine IY.out.mono ?_
          rintro e w' ⟨rfl, rfl⟩
          go_wp2_with fail
          go_ret
          exact ⟨(by rw [V.out]; first | rfl | (cases spx <;> rfl) | (cases spy <;> rfl) | (cases spx <;> cases spy <;> rfl)), HB4.out⟩
    | false =>
      go_wp2_with fail
      refine IY.out.mono ?_
      rintro e w' ⟨rfl, rfl⟩
      cases sy with
      | true =>
        go_wp2_with fail
        refine IPX.out.mono ?_
        rintro e w' ⟨rfl, rfl⟩
        cases spx with
        | true =>
          go_wp2_with fail
          go_ret
          exact ⟨(by rw [V.out]; first | rfl | (cases spx <;> rfl) | (cases spy <;> rfl) | (cases spx <;> cases spy <;> rfl)), HB4.out⟩
        | false =>
          go_wp2_with fail
          go_ret
          exact ⟨(by rw [V.out]; first | rfl | (cases spx <;> rfl) | (cases spy <;> rfl) | (cases spx <;> cases spy <;> rfl)), HB4.out⟩
      | false =>
        go_wp2_with fail
        go_ret
        exact ⟨(by rw [V.out]; first | rfl | (cases spx <;> rfl) | (cases spy <;> rfl) | (cases spx <;> cases spy <;> rfl)), HB4.out⟩

theorem sb_all : ∀ n (T : Tm), T.deep ≤ n → T.ok → T.tx.length ≤ 3000 → SB T
  | 0, T, h, _, _ => by have := deep_pos T; omega
  | n + 1, T, h, hok, hl => by
    cases hT : T.isAtom with
    | true =>
      cases T with
      | atom a => exact sb_atom a hok
      | _ => cases hT
    | false =>
      by_cases hd : T.op = oDh
      · cases T with
        | dh a b => exact sb_dh a b hok
        | _ => simp [Tm.op, oDh, oShut, oPair, oHash, oMac, oPub] at hd
      · exact sb_node T hT hd hok hl fun k hk => sb_all n k (by have := kid_deep hk; omega) (kid_ok hok hk) (Nat.le_trans (kid_tx hk) hl)

theorem specBuilds_in (T : Tm) (hok : T.ok) (hl : T.tx.length ≤ 3000) : SB T := sb_all T.deep T (Nat.le_refl _) hok hl

#print axioms specBuilds_in
end Go.Proofs.YtdikjmhnjlalbabGreat.sin

/- knownOf, built and Builds of the program; Builds of the model. -/
namespace Go.Proofs.YtdikjmhnjlalbabGreat.bui
open Go.RowKit Go.Proofs.YtdikjmhnjlalbabGreat.tm Go.Proofs.YtdikjmhnjlalbabGreat.lib Go.Proofs.YtdikjmhnjlalbabGreat.rdr Go.Proofs.YtdikjmhnjlalbabGreat.bld Go.Proofs.YtdikjmhnjlalbabGreat.app Go.Proofs.YtdikjmhnjlalbabGreat.mrk Go.Proofs.YtdikjmhnjlalbabGreat.mrs Go.Proofs.YtdikjmhnjlalbabGreat.kmp Go.Proofs.YtdikjmhnjlalbabGreat.kst Go.Proofs.YtdikjmhnjlalbabGreat.prt Go.Proofs.YtdikjmhnjlalbabGreat.pso Go.Proofs.YtdikjmhnjlalbabGreat.skr Go.Proofs.YtdikjmhnjlalbabGreat.ato
set_option linter.unusedVariables false

structure Lk (w : World) (L : List Bs) (wr : World) (k : Nat) : Prop where
  le : k ≤ L.length
  set : Kset wr w.heap.size (L.take k)
  bel : Below w.heap.size w wr

set_option maxHeartbeats 1000000 in
set_option maxRecDepth 100000 in
theorem knownOf_calls (v : Value) (B : Nat) (Ts : List Tm) (es : List El) (w : World) (hp : Pts w B v Ts es) (hn : (Ts.map Tm.tx).Nodup) (hl : ∀ T ∈ Ts, T.tx.length ≤ 1000000) (hc : Ts.length ≤ 1000000) :
    Calls Tryz.prog 36 #[v] w fun e w' => e = .returned (.map (some w.heap.size)) ∧ Below w.heap.size w w' ∧ Kset w' w.heap.size (Ts.map Tm.tx) := by
  have hmm := @run_makeMap Tryz.prog
  obtain ⟨L, hL⟩ : ∃ L, L = Ts.map Tm.tx := ⟨_, rfl⟩
  have hLn : L.length = Ts.length := by rw [hL]; simp
  have hes := hp.len
  obtain ⟨n, hN⟩ : ∃ n, n = Ts.length := ⟨_, rfl⟩
  have hv : ∃ ad cap, v = .slice ad n cap ∧ (∀ j T, Ts[j]? = some T → ∃ g e, ad = some ⟨g, 0, none⟩ ∧ g < w.heap.size ∧ e.t = T.tx ∧ Lies w g (j * 3) e) := by
    rcases hp.own.form with ⟨rfl, h⟩ | ⟨g, cap, rfl, h1, h2⟩
    · refine ⟨none, 0, by rw [hN, ← hes, h]; rfl, fun j T hj => ?_⟩
      rw [h] at hes
      have := List.eq_nil_of_length_eq_zero hes.symm
      rw [this] at hj
      simp at hj
    · refine ⟨some ⟨g, 0, none⟩, cap, by rw [hN, hes], fun j T hj => ?_⟩
      have hj' : j < es.length := by rw [hes]; exact (List.getElem?_eq_some_iff.1 hj).1
      have he := List.getElem?_eq_getElem hj'
      exact ⟨g, es[j], rfl, h2, (hp.prt j T _ hj he).text.1, hp.own.at_ (g := g) rfl he⟩
  obtain ⟨ad, cap, rfl, hat⟩ := hv
  rw [← hL] at hn ⊢
  have HL := Lib.hid hL
  have HN := Lib.hid hN
  have HA := Lib.hid hat
  have HD := Lib.hid hn
  have HT := Lib.hid hl
  rw [← hN] at hc hLn
  clear hp hes hat hn hl hL hN
  go_enter Tryz.func36, Tryz.ntmps36
  go_wp2_with fail
  go_loopw [5, 9, 10, 11, 12, 13, 14, 15, 16] (fun _ vk _ _ _ _ _ _ _ wr => ∃ k, vk = .int .i64 (k : Nat) ∧ Lk w L wr k) (fun _ vk _ _ _ _ _ _ _ _ => n - (intOf vk).toNat)
  case atStart => exact ⟨0, rfl, Nat.zero_le _, Kset.made w, bds.new1 _ _⟩
  case round =>
    obtain ⟨k, rfl, K⟩ := hrel
    have KK := Lib.hid K
    have hk : k ≤ n := by have := K.le; omega
    clear K
    by_cases hlt : k < n
    · obtain ⟨T, hT⟩ : ∃ T, Ts[k]? = some T := ⟨_, List.getElem?_eq_getElem (by have := HN.out; omega)⟩
      obtain ⟨g, ⟨kt, ko, kad, kn, kc⟩, rfl, hg, he, c0, c1, c2⟩ := HA.out k T hT
      simp only at c0 c1 c2 he
      have hLk : L[k]? = some kt := by rw [HL.out, List.getElem?_map, hT, he]; rfl
      have hkl : kt.length ≤ maxLen := by rw [he]; have := HT.out T (List.mem_of_getElem? hT); unfold maxLen; omega
      have m0 : wr.cell? ⟨g, k * 3, none⟩ = some (str kt) := by rw [← c0]; exact KK.out.bel.cell (p := ⟨g, k * 3, none⟩) hg
      have m1 : wr.cell? ⟨g, k * 3 + 1, none⟩ = some (str ko) := by rw [← c1]; exact KK.out.bel.cell (p := ⟨g, k * 3 + 1, none⟩) hg
      have m2 : wr.cell? ⟨g, k * 3 + 2, none⟩ = some (.slice kad kn kc) := by rw [← c2]; exact KK.out.bel.cell (p := ⟨g, k * 3 + 2, none⟩) hg
      have hnew : ¬ kt ∈ L.take k := by
        intro hm
        obtain ⟨j, hj, e⟩ := List.getElem_of_mem hm
        have hj' : j < k := by simp at hj; omega
        have e2 : L[j]? = some kt := by
          rw [← List.getElem?_take_of_lt hj', List.getElem?_eq_getElem hj, e]
        exact absurd ((List.getElem?_inj (by omega) HD.out).1 (e2.trans hLk.symm)) (by omega)
      have HLK := Lib.hid hLk
      have hA : Below w.heap.size w (wr.alloc (.cells #[str kt, str ko, .slice kad kn kc] 53)) := KK.out.bel.alloc KK.out.bel.size _
      have hsz := KK.out.bel.size
      have HS := Lib.hid (KK.out.set.below (bds.new1 wr (.cells #[str kt, str ko, .slice kad kn kc] 53)) KK.out.set.lt)
      have HAA := Lib.hid hA
      have htl : (L.take k).length < maxLen := by rw [List.length_take]; unfold maxLen; omega
      clear c0 c1 c2 he hT hLk hA
      go_wp2_with (at_mapUpdate; refine wp_mput (.tmp 13) (.tmp 15) (.const (.bool true)) w.heap.size (L.take k) kt rfl rfl rfl rfl rfl HS.out hkl hnew htl ?_; intro w3 hs3 hg3)
      have HB3 := Lib.hid (HAA.out.trans (⟨hg3.os, hg3.tape, hg3.output, hg3.size, fun j hj => hg3.block j (Nat.lt_of_lt_of_le hj HAA.out.size) (by simp; omega)⟩ : Below w.heap.size _ w3))
      have HS3 := Lib.hid hs3
      clear hs3 hg3 m0 m1 m2
      go_wp2_with fail
      go_roundw
      case rel =>
        refine ⟨k + 1, by simp, by omega, ?_, HB3.out⟩
        rw [List.take_add_one, HLK.out]
        exact HS3.out
      case measure => simp [intOf]; omega
    · have e : k = n := by omega
      subst e
      go_wp2_with fail
      go_ret
      refine ⟨rfl, KK.out.bel, ?_⟩
      have := KK.out.set
      rw [List.take_of_length_le (by omega)] at this
      exact this

/-- What is built answers, of a set. -/
def asks (L : List Bs) (t : Bs) : Bool := match term t with | some T => kmp.bld (inn L) T | none => false

theorem asks_some {L : List Bs} {t : Bs} {T : Tm} (h : term t = some T) : asks L t = kmp.bld (inn L) T := by unfold asks; rw [h]
theorem asks_none {L : List Bs} {t : Bs} (h : term t = none) : asks L t = false := by unfold asks; rw [h]

set_option maxHeartbeats 1000000 in
set_option maxRecDepth 100000 in
theorem built_calls (t : Bs) (ht : t.length ≤ maxLen) (b : Nat) (L : List Bs) (w : World) (hs : Kset w b L) :
    Calls Tryz.prog 27 #[.func (.func 29) #[.map (some b)] #[], str t] w fun e w' => e = .returned (.bool (asks L t)) ∧ Below w.heap.size w w' := by
  have hcf : ∀ (v : Value) (w : World), (callFunc 29 #[.map (some b), v]).run Tryz.prog w = .ok (.enter 29 #[.map (some b), v]) w := fun v w => by kernel_rfl
  have HS := Lib.hid hs
  clear hs
  rcases h : term t with _ | T
  · have a1 := grd.termOf_no ⟨t.toArray⟩ (by show t.toArray.size ≤ maxLen; simpa using ht) h
    have HN := Lib.hid (asks_none (L := L) h)
    clear h hcf
    go_enter Tryz.func27, Tryz.ntmps27
    go_wp2_with fail
    refine (a1 _).mono ?_
    rintro e w1 ⟨rfl, hb⟩
    have HB := Lib.hid hb
    clear hb
    go_wp2_with fail
    go_ret
    exact ⟨by rw [HN.out]; rfl, HB.out⟩
  · have a1 := grd.termOf_yes ⟨t.toArray⟩ (by show t.toArray.size ≤ maxLen; simpa using ht) T h
    have hT := (term_some.1 h).2.1
    have hTl : T.tx.length ≤ 1000000 := by have := (term_some.1 h).1; rw [(term_some.1 h).2.2.2]; omega
    have px := pof.partOf_calls T hTl
    have bx := bds.builds_calls T hT hTl
    have HN := Lib.hid (asks_some (L := L) h)
    have BX := Lib.hid bx
    clear h bx
    obtain ⟨tt, vv, ev⟩ := val_iface T
    rw [ev] at px a1
    clear ev
    go_enter Tryz.func27, Tryz.ntmps27
    go_wp2_with fail
    refine (a1 _).mono ?_
    rintro e w1 ⟨rfl, hb⟩
    have HB := Lib.hid hb
    clear hb
    go_wp2_with fail
    refine (px _).mono ?_
    rintro e w2 ⟨⟨kt, ko, kad, kn, kc⟩, rfl, hb2, hp⟩
    have HB2 := Lib.hid (HB.out.trans (hb2.mono HB.out.size))
    have BC := Lib.hid (BX.out w2 b L _ ⟨kt, ko, kad, kn, kc⟩ (HS.out.below HB2.out HS.out.lt) hp (fun g hg => hg.2))
    simp only [El.v] at BC ⊢
    clear hb2 hp
    go_wp2_with fail
    refine BC.out.mono ?_
    rintro e w3 ⟨rfl, hb3⟩
    have HB3 := Lib.hid (HB2.out.trans (hb3.mono HB2.out.size))
    clear hb3
    go_wp2_with fail
    go_ret
    exact ⟨by rw [HN.out]; rfl, HB3.out⟩

def BEnd (ls : List Bs) (t : Bs) (w : World) (e : Ending) (w' : World) : Prop :=
  Below w.heap.size w w' ∧ ((∃ Ts, Kn ls Ts) ∧ e = .returned (.bool (asks ls t)) ∨ (∀ Ts, ¬ Kn ls Ts) ∧ e = .returned (.bool false))

theorem kn_set {ls : List Bs} {Ts : List Tm} (h : Kn ls Ts) : (Ts.map Tm.tx).Nodup ∧ (∀ T ∈ Ts, T.tx.length ≤ 1000000) ∧ Ts.length ≤ 1000000 := by
  refine ⟨by rw [← h.txs]; exact rise_nodup h.rise, fun T hT => by have := (term_some.1 (h.right T hT)).1; omega, ?_⟩
  have h1 := h.few
  rw [h.txs] at h1
  simp at h1
  omega

set_option maxHeartbeats 1000000 in
set_option maxRecDepth 100000 in
theorem implBuilds_calls (ad : Option Addr) (n cap : Nat) (ls : List Bs) (t : Bs) (ht : t.length ≤ maxLen) (w : World) (hn : n = ls.length) (h : Rds w (.slice ad n cap) ls) (hm : n ≤ maxLen) (hs : ∀ x ∈ ls, x.length ≤ maxLen) :
    Calls Tryz.prog 10 #[.slice ad n cap, str t] w (BEnd ls t w) := by
  have h1 := partsOf_calls ad n cap ls w hn h hm hs
  have hmf : ∀ (fn : Fn) (first cap : Array Value) (w : World), (Instr.makeFunc fn first cap).run Tryz.prog w = .ok (.func fn first cap) w := fun _ _ _ _ => rfl
  have H1 := Lib.hid h1
  clear h1 hn h hm hs
  go_enter Tryz.func10, Tryz.ntmps10
  go_wp2_with fail
  refine H1.out.mono ?_
  rintro e w1 ⟨hb, hk⟩
  have HB := Lib.hid hb
  clear hb
  rcases hk with ⟨Ts, v, es, hkn, rfl, hpt⟩ | ⟨hno, rfl⟩
  · have HK := Lib.hid hkn
    have KO := Lib.hid (knownOf_calls v _ Ts es w1 hpt (kn_set hkn).1 (kn_set hkn).2.1 (kn_set hkn).2.2)
    clear hkn hpt
    go_wp2_with fail
    refine KO.out.mono ?_
    rintro e w2 ⟨rfl, hb2, hs2⟩
    have HB2 := Lib.hid (HB.out.trans (hb2.mono HB.out.size))
    have BC := Lib.hid (built_calls t ht w1.heap.size _ w2 hs2)
    clear hb2 hs2
    go_wp2_with fail
    refine BC.out.mono ?_
    rintro e w3 ⟨rfl, hb3⟩
    have HB3 := Lib.hid (HB2.out.trans (hb3.mono HB2.out.size))
    clear hb3
    go_wp2_with fail
    go_ret
    exact ⟨HB3.out, .inl ⟨⟨Ts, HK.out⟩, by rw [HK.out.txs]; rfl⟩⟩
  · have HK := Lib.hid hno
    clear hno
    go_wp2_with fail
    go_ret
    exact ⟨HB.out, .inr ⟨HK.out, rfl⟩⟩

set_option maxHeartbeats 1000000 in
set_option maxRecDepth 100000 in
theorem specBuilds_calls (ad : Option Addr) (n cap : Nat) (ls : List Bs) (t : Bs) (ht : t.length ≤ maxLen) (w : World) (hn : n = ls.length) (h : Rds w (.slice ad n cap) ls) (hm : n ≤ maxLen) (hs : ∀ x ∈ ls, x.length ≤ maxLen) :
    Calls Tryz.prog 11 #[.slice ad n cap, str t] w (BEnd ls t w) := by
  have h1 := specKnownRight_calls ad n cap ls w hn h hm hs
  have h2 := fun w => srt.specTermRight_calls ⟨t.toArray⟩ (by show t.toArray.size ≤ maxLen; simpa using ht) w
  have H := Lib.hid h
  have H1 := Lib.hid h1
  have H2 := Lib.hid h2
  clear h1 h2 hn h hm hs
  go_enter Tryz.func11, Tryz.ntmps11
  go_wp2_with fail
  refine H1.out.mono ?_
  rintro e w1 ⟨hb, hk⟩
  have HB := Lib.hid hb
  clear hb
  rcases hk with ⟨hkn, rfl⟩ | ⟨hno, rfl⟩
  · obtain ⟨Ts, hkn⟩ := hkn
    have HK := Lib.hid hkn
    clear hkn
    go_wp2_with fail
    refine (H2.out _).mono ?_
    rintro e w2 ⟨rfl, hb2⟩
    have HB2 := Lib.hid (HB.out.trans (hb2.mono HB.out.size))
    clear hb2
    rcases hT : term t with _ | T
    · simp only [Option.isSome_none]
      have HN := Lib.hid (asks_none (L := ls) hT)
      clear hT
      go_wp2_with fail
      go_ret
      exact ⟨HB2.out, .inl ⟨⟨Ts, HK.out⟩, by rw [HN.out]; rfl⟩⟩
    · simp only [Option.isSome_some]
      have HN := Lib.hid (asks_some (L := ls) hT)
      have SB := Lib.hid (sin.specBuilds_in T (term_some.1 hT).2.1 (by have := (term_some.1 hT).1; rw [(term_some.1 hT).2.2.2]; exact this) w2 _ ls (Rds.below H.out HB2.out) (by have := HK.out.few; omega))
      rw [(term_some.1 hT).2.2.2] at SB
      clear hT
      go_wp2_with fail
      refine SB.out.mono ?_
      rintro e w3 ⟨rfl, hb3⟩
      have HB3 := Lib.hid (HB2.out.trans (hb3.mono HB2.out.size))
      clear hb3
      go_wp2_with fail
      go_ret
      exact ⟨HB3.out, .inl ⟨⟨Ts, HK.out⟩, by rw [HN.out]; rfl⟩⟩
  · have HK := Lib.hid hno
    clear hno
    go_wp2_with fail
    go_ret
    exact ⟨HB.out, .inr ⟨HK.out, rfl⟩⟩

#print axioms implBuilds_calls
#print axioms specBuilds_calls
end Go.Proofs.YtdikjmhnjlalbabGreat.bui
