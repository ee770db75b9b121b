/- The model's l03Take. Written by wip/gen_stk.py. -/
import Derived.Test.YtdikjmhnjlalbabGreatQq
import Derived.Test.YtdikjmhnjlalbabGreatPrtq
namespace Go.Proofs.YtdikjmhnjlalbabGreat.stk
open Go.RowKit Go.Proofs.YtdikjmhnjlalbabGreat.tm Go.Proofs.YtdikjmhnjlalbabGreat.lib Go.Proofs.YtdikjmhnjlalbabGreat.rdr Go.Proofs.YtdikjmhnjlalbabGreat.bld Go.Proofs.YtdikjmhnjlalbabGreat.app Go.Proofs.YtdikjmhnjlalbabGreat.mrk Go.Proofs.YtdikjmhnjlalbabGreat.mrs Go.Proofs.YtdikjmhnjlalbabGreat.snd Go.Proofs.YtdikjmhnjlalbabGreat.ato Go.Proofs.YtdikjmhnjlalbabGreat.kmp Go.Proofs.YtdikjmhnjlalbabGreat.pso Go.Proofs.YtdikjmhnjlalbabGreat.spt
set_option linter.unusedVariables false

def lenOf : Value → Nat | .slice _ n _ => n | _ => 0
def agOf : Value → Bool | .bool b => b | _ => false

/-- What holds at each turn of the outer loop. -/
structure Ot (ls : List Bs) (w : World) (wr : World) (v : Value) (ag : Bool) (out : List Bs) : Prop where
  txs : Txs wr w.heap.size v out
  mdl : Mdl ls out
  bel : Below w.heap.size w wr
  fin : ag = false → ∀ T : Tm, T.ok → T.tx ∈ out → ¬ out.length < (nx out T).length

/-- .. of the inner one: out0: what was there when it began. -/
structure In (ls : List Bs) (w : World) (out0 : List Bs) (wr : World) (v : Value) (ag : Bool) (i : Nat) (out : List Bs) : Prop where
  txs : Txs wr w.heap.size v out
  mdl : Mdl ls out
  bel : Below w.heap.size w wr
  way : (ag = false ∧ out = out0 ∧ i ≤ out0.length ∧ ∀ j, j < i → ∀ T : Tm, T.ok → out0[j]? = some T.tx → ¬ out0.length < (nx out0 T).length) ∨ (ag = true ∧ out0.length < out.length ∧ i ≤ out0.length + 1)

theorem out_bound {ls out : List Bs} {Ts : List Tm} (h : Kn ls Ts) (m : Mdl ls out) : out.length ≤ 60060 ∧ ∀ x ∈ out, ∃ T, term x = some T := by
  have := bound h.txs h.right (rise_nodup m.rise) m.min
  have h1 := h.few
  rw [h.txs] at h1
  simp at h1
  exact ⟨by omega, this.2⟩

theorem Txs.rds2 {w : World} {B : Nat} {v : Value} {ls : List Bs} (h : Txs w B v ls) : Rds w v ls := by
  obtain ⟨g, off, cap, e, h1, h2, h3, h4⟩ := h
  exact .inr ⟨g, off, cap, e, h2, h4⟩

/-- the slice that l03Take begins with: nothing, but not nil. -/
theorem txs_empty (w w' : World) (h : Below (w.alloc (.cells #[] 9)).heap.size (w.alloc (.cells #[] 9)) w') (cap : Nat) : Txs w' w.heap.size (.slice (some ⟨w.heap.size, 0, none⟩) 0 cap) [] :=
  ⟨w.heap.size, 0, cap, rfl, Nat.le_refl _, by have := h.size; simp at this; omega, Nat.zero_le _, by intro j l hj; simp at hj⟩

theorem In.same {ls : List Bs} {w : World} {out0 : List Bs} {wr : World} {v : Value} {i : Nat} (I : In ls w out0 wr v false i out0) (hi : i < out0.length) {w2 : World} (hb : Below wr.heap.size wr w2) {T : Tm} (hT : T.ok) (ht : out0[i]? = some T.tx) (hn : ¬ out0.length < (nx out0 T).length) :
    In ls w out0 w2 v false (i + 1) out0 := by
  refine ⟨Txs.below I.txs hb, I.mdl, I.bel.trans (hb.mono I.bel.size), .inl ⟨rfl, rfl, hi, fun j hj U hU hx => ?_⟩⟩
  rcases I.way with ⟨_, _, _, h⟩ | ⟨h, _⟩
  · rcases Nat.lt_or_ge j i with h1 | h1
    · exact h j h1 U hU hx
    · have : j = i := by omega
      subst this
      rw [ht] at hx
      have e : T.tx = U.tx := by simpa using hx
      obtain rfl := tx_inj hT hU e
      exact hn
  · cases h

theorem In.grew {ls : List Bs} {w : World} {out0 : List Bs} {wr : World} {v : Value} {i : Nat} (I : In ls w out0 wr v false i out0) (hi : i < out0.length) {w2 : World} (hb : Below wr.heap.size wr w2) {T : Tm} (hT : T.ok) (ht : out0[i]? = some T.tx) (hn : out0.length < (nx out0 T).length)
    {v2 : Value} (hv : Txs w2 w.heap.size v2 (nx out0 T)) : In ls w out0 w2 v2 true (i + 1) (nx out0 T) :=
  ⟨hv, I.mdl.nx hT (List.mem_of_getElem? ht), I.bel.trans (hb.mono I.bel.size), .inr ⟨rfl, hn, by omega⟩⟩

theorem In.out {ls : List Bs} {w : World} {out0 : List Bs} {wr : World} {v : Value} {ag : Bool} {i : Nat} {out : List Bs} (I : In ls w out0 wr v ag i out) (h : ¬ (i < out.length ∧ ag = false)) : Ot ls w wr v ag out := by
  refine ⟨I.txs, I.mdl, I.bel, fun e T hT hx => ?_⟩
  rcases I.way with ⟨_, rfl, _, h1⟩ | ⟨h1, _⟩
  · obtain ⟨j, hj, e'⟩ := List.getElem_of_mem hx
    exact h1 j (by have : ¬ i < out.length := fun h' => h ⟨h', e⟩; omega) T hT (by rw [← e']; exact List.getElem?_eq_getElem hj)
  · rw [h1] at e; cases e

section
variable {w : World} {ops : Array Oper} {rest : List Oper} {o : Oper} {a : Act} {Q : Exit → Act → World → Prop}

theorem run_add_none (t ty e : TypeId) (i : TypeInfo) {P : Program} (ht : P.underlying t = some (.slice e)) (hi : P.info? e = some i) (g : Nat) (ad : Option Addr) (c : Nat) :
    (Builtin.append_ #[t, t] ty #[.slice (some ⟨g, 0, none⟩) 0 0, .slice ad 0 c]).run P w = .ok (.slice (some ⟨g, 0, none⟩) 0 0) w := by
  cases ad <;> simp [Builtin.append_, run_underlying ht, sizeOf, typeInfo, hi, Builtin.lenOf, Builtin.firstCells, storeCells, go_sem]

set_option maxRecDepth 100000 in
/-- append of all texts that lie somewhere to a new, empty row: a row of the call's own. -/
theorem wp_copyN (s x : Operand) (ls : List Bs) (v0 : Value) (hgd : o.guard = none)
    (ho : o.op = .call { callee := .builtin .append, args := #[s, x], argTypes := #[23, 23] })
    (hs : a.eval s = .slice (some ⟨w.heap.size, 0, none⟩) 0 0) (hx : a.eval x = v0) (hr : Rds w v0 ls) (hl : ls.length ≤ 1000000)
    (h : ∀ v' w', Txs w' w.heap.size v' ls → Below w.heap.size w w' → wpList Tryz.prog ops Q rest (a.put o.dst v') w') :
    wpList Tryz.prog ops Q (o :: rest) a (w.alloc (.cells #[] 9)) := by
  rcases hr with ⟨rfl, ad, cap, rfl⟩ | ⟨g, off, cap, rfl, hg, hc⟩
  · obtain ⟨i0, hi, hz0, hz1, hz2⟩ := info_parts infoS
    refine wpList_plain hgd fun K hK => ?_
    have hr := run_add_none (w := w.alloc (.cells #[] 9)) 23 o.type 9 i0 Tryz.underlying23 hi w.heap.size ad cap
    unfold Oper.wp execOp
    simp only [ho, resolve, invoke, builtin, Sem.run_bind, Sem.run_pure, Result.andThen_ok, List.map_toArray, List.map_cons, List.map_nil, hs, hx, hr]
    exact hK _ _ (h _ _ (txs_empty w _ (Below.refl _ _) 0) ((Below.refl _ _).alloc (Nat.le_refl _) _))
  · by_cases hne : ls = []
    · subst hne
      obtain ⟨i0, hi, hz0, hz1, hz2⟩ := info_parts infoS
      refine wpList_plain hgd fun K hK => ?_
      have hr := run_add_none (w := w.alloc (.cells #[] 9)) 23 o.type 9 i0 Tryz.underlying23 hi w.heap.size (some ⟨g, off, none⟩) cap
      unfold Oper.wp execOp
      simp only [ho, resolve, invoke, builtin, Sem.run_bind, Sem.run_pure, Result.andThen_ok, List.map_toArray, List.map_cons, List.map_nil, hs, hx, List.length_nil, hr]
      exact hK _ _ (h _ _ (txs_empty w _ (Below.refl _ _) 0) ((Below.refl _ _).alloc (Nat.le_refl _) _))
    · refine spt.wp_putN s x ⟨g, off, none⟩ ls.length cap ls w.heap.size _ [] hgd ho hs (sar.strs_empty _ _ (Nat.le_refl _)) hx rfl (fun j l hj => ?_) (by simp; omega) (by simp) fun v' w' h1 h2 => ?_
      · rw [Addr.add_lit, World.cell?_alloc_lt _ _ ⟨g, off + j, none⟩ hg]
        exact hc j l hj
      · rw [List.nil_append] at h1
        exact h v' w' (spt.Strs.txs h1 hne) (((Below.refl _ _).alloc (Nat.le_refl _) _).trans h2)
end

set_option maxHeartbeats 8000000 in
set_option maxRecDepth 100000 in
theorem take_calls (v0 : Value) (ls : List Bs) (Ts : List Tm) (w : World) (h : Rds w v0 ls) (hk : Kn ls Ts) :
    Calls Tryz.prog 35 #[v0] w fun e w' => ∃ v out, e = .returned v ∧ Below w.heap.size w w' ∧ Txs w' w.heap.size v out ∧ Least ls out ∧ Rise out := by
  have hfew := hk.few
  have H := Lib.hid h
  have HK := Lib.hid hk
  clear h hk
  go_enter Tryz.func35, Tryz.ntmps35
  go_wp2_with (at_builtin; refine wp_copyN (.tmp 8) (.tmp 9) ls v0 rfl rfl rfl rfl H.out (by omega) ?_; intro v1 w1 t1 b1)
  have T1 := Lib.hid t1
  have B1 := Lib.hid b1
  clear t1 b1
  go_loopw [3, 4, 5, 6, 7, 12, 13, 14, 15, 16, 17, 18, 19, 20, 21, 22, 23, 24, 25, 26, 27, 28, 29, 30, 31, 32, 33, 34, 35, 36, 37, 38, 39, 40, 41, 42, 43, 44, 45, 46, 47, 48, 49, 50, 51, 52, 53, 54, 55, 56, 57, 58, 59, 60, 61, 62, 11] (fun v3 v4 _ _ _ _ _ _ _ _ _ _ _ _ _ _ _ _ _ _ _ _ _ _ _ _ _ _ _ _ _ _ _ _ _ _ _ _ _ _ _ _ _ _ _ _ _ _ _ _ _ _ _ _ _ _ _ wr => ∃ out ag, v4 = .bool ag ∧ Ot ls w wr v3 ag out) (fun v3 v4 _ _ _ _ _ _ _ _ _ _ _ _ _ _ _ _ _ _ _ _ _ _ _ _ _ _ _ _ _ _ _ _ _ _ _ _ _ _ _ _ _ _ _ _ _ _ _ _ _ _ _ _ _ _ _ _ => if agOf v4 then 100001 - lenOf v3 else 0)
  case atStart => exact ⟨ls, true, rfl, T1.out, Mdl.start HK.out.rise, B1.out, fun h => by cases h⟩
  case round =>
    obtain ⟨out0, ag, rfl, O⟩ := hrel
    have HO := Lib.hid O
    obtain ⟨g0, off0, cap0, rfl, q1, q2, q3, q4⟩ := O.txs
    have hb0 := (out_bound HK.out O.mdl).1
    clear O q1 q2 q3 q4
    cases ag with
    | false =>
      go_wp2_with fail
      go_ret
      exact ⟨_, out0, rfl, HO.out.bel, HO.out.txs, HO.out.mdl.least (HO.out.fin rfl), HO.out.mdl.rise⟩
    | true =>
      go_wp2_with fail
      go_loopw [3, 4, 5, 6, 7, 12, 13, 14, 15, 16, 17, 18, 19, 20, 21, 22, 23, 24, 25, 26, 27, 28, 29, 30, 31, 32, 33, 34, 35, 36, 37, 38, 39, 40, 41, 42, 43, 44, 45, 46, 47, 48, 49, 50, 51, 52, 53, 54, 55, 56, 57, 58, 59, 60, 61, 62] (fun v3 v4 v5 _ _ _ _ _ _ _ _ _ _ _ _ _ _ _ _ _ _ _ _ _ _ _ _ _ _ _ _ _ _ _ _ _ _ _ _ _ _ _ _ _ _ _ _ _ _ _ _ _ _ _ _ _ wr => ∃ out ag i, v4 = .bool ag ∧ v5 = .int .i64 (i : Nat) ∧ In ls w out0 wr v3 ag i out) (fun _ _ v5 _ _ _ _ _ _ _ _ _ _ _ _ _ _ _ _ _ _ _ _ _ _ _ _ _ _ _ _ _ _ _ _ _ _ _ _ _ _ _ _ _ _ _ _ _ _ _ _ _ _ _ _ _ _ => 100001 - (intOf v5).toNat)
      case atStart => exact ⟨out0, false, 0, rfl, rfl, HO.out.txs, HO.out.mdl, HO.out.bel, .inl ⟨rfl, rfl, Nat.zero_le _, fun j hj => by omega⟩⟩
      case round =>
        obtain ⟨out, ag, i, rfl, rfl, I⟩ := hrel
        have HI := Lib.hid I
        obtain ⟨g, off, cap, rfl, q1, hg, q3, q4⟩ := I.txs
        have hb1 := (out_bound HK.out I.mdl).1
        have hi : i ≤ 60061 := by rcases I.way with ⟨_, _, h, _⟩ | ⟨_, _, h⟩ <;> omega
        clear I q1 q3
        by_cases hgo : i < out.length ∧ ag = false
        · obtain ⟨hlt, rfl⟩ := hgo
          obtain rfl : out = out0 := by rcases HI.out.way with ⟨_, h, _⟩ | ⟨h, _⟩; exact h; cases h
          obtain ⟨x, hx⟩ : ∃ x, out[i]? = some x := ⟨_, List.getElem?_eq_getElem hlt⟩
          obtain ⟨T, hT⟩ := (out_bound HK.out HI.out.mdl).2 x (List.mem_of_getElem? hx)
          obtain ⟨t1, t2, t3, t4⟩ := term_some.1 hT
          have c1 := q4 i x hx
          subst t4
          have nd := spt.node_tx T t2 t1
          have HX := Lib.hid hx
          have HOK := Lib.hid t2
          have HTM := Lib.hid hT
          have ND := Lib.hid nd
          obtain ⟨X, hX⟩ : ∃ X, X = T.tx := ⟨_, rfl⟩
          rw [← hX] at c1 ND
          have HXX := Lib.hid hX
          clear hx hT t1 t2 t3 nd q4 hX
          go_wp2_with fail
          refine (ND.out _).mono ?_
          rintro e w2 ⟨va, rfl, hb2, hx2⟩
          have HB2 := Lib.hid hb2
          have HX2 := Lib.hid hx2
          have HBW2 := Lib.hid (HI.out.bel.trans (hb2.mono HI.out.bel.size))
          have TX2 := Lib.hid (Txs.below HI.out.txs hb2)
          clear hb2 hx2 c1
          obtain ⟨ga, offa, capa, rfl, qa1, hga, qa3, qa4⟩ := HX2.out
          have QA := Lib.hid qa4
          have hw2 := HBW2.out.size
          clear qa4 qa1 qa3
          have hone : T.op ≠ oPair → T.op ≠ oShut → nx out T = out := by
            intro h1 h2
            cases T with
            | pair a b => exact absurd rfl h1
            | shut k x => exact absurd rfl h2
            | _ => rfl
          by_cases hp : T.op = oPair
          · obtain ⟨ta, tb, rfl⟩ : ∃ a b, T = .pair a b := by
              cases T with
              | pair a b => exact ⟨a, b, rfl⟩
              | _ => simp [Tm.op, oDh, oShut, oPair, oHash, oMac, oPub] at hp
            clear hone hp
            have e0 : str (Tm.pair ta tb).op = .string ⟨#[112, 97, 105, 114]⟩ := rfl
            rw [e0]
            clear e0
            simp only [show (nodeArgs (Tm.pair ta tb)).length = 2 from rfl]

            obtain ⟨W3, hW3⟩ : ∃ W, W = w2.alloc (.cells #[.string ⟨#[112, 97, 105, 114]⟩, .slice (some ⟨ga, offa, none⟩) 2 capa] 72) := ⟨_, rfl⟩
            have h23 : Below w2.heap.size w2 W3 := by rw [hW3]; exact (Below.refl _ _).alloc (Nat.le_refl _) _
            have HB3 := Lib.hid (HB2.out.trans (h23.mono HB2.out.size))
            have TX3 := Lib.hid (Txs.below TX2.out h23)
            have e1 : W3.cell? ⟨w2.heap.size, 1, none⟩ = some (.slice (some ⟨ga, offa, none⟩) 2 capa) := by rw [hW3]; simp [go_sem]
            have ka : W3.cell? ⟨ga, offa, none⟩ = some (str ta.tx) := by rw [h23.cell (p := ⟨ga, offa, none⟩) hga]; exact QA.out 0 _ rfl
            have kb : W3.cell? ⟨ga, offa + 1, none⟩ = some (str tb.tx) := by rw [h23.cell (p := ⟨ga, offa + 1, none⟩) hga]; exact QA.out 1 _ rfl
            have hw3 : w.heap.size ≤ W3.heap.size := Nat.le_trans hw2 h23.size
            have hga3 : ga < W3.heap.size := Nat.lt_of_lt_of_le hga h23.size
            have hn3 : w2.heap.size < W3.heap.size := by rw [hW3]; simp

            obtain ⟨YA, hYA⟩ : ∃ Y, Y = ta.tx := ⟨_, rfl⟩
            obtain ⟨YB, hYB⟩ : ∃ Y, Y = tb.tx := ⟨_, rfl⟩
            rw [← hYA] at ka
            rw [← hYB] at kb
            have hnx : nx out (.pair ta tb) = put (put out YA) YB := by rw [hYA, hYB]; rfl
            have HNX := Lib.hid hnx
            have hTD : Txs W3.drew w.heap.size (.slice (some ⟨g, off, none⟩) out.length cap) out := Txs.below TX3.out ⟨rfl, rfl, rfl, Nat.le_refl _, fun _ _ => rfl⟩
            have PC := Lib.hid (put_calls _ out YA w.heap.size W3.drew hTD hw3 (by omega))
            clear hYA hYB h23 hnx hTD
            go_wp2_with fail
            rw [← hW3]
            clear hW3
            by_cases hgr : out.length < (put (put out YA) YB).length
            · refine wp_region_any (by kernel_rfl) ?_
              change wpAny _ _ _ _ _ _ _ (World.drew _)
              refine wpAny_take (i := 0) (v := ?_) rfl (by kernel_rfl) (by kernel_rfl) (by kernel_rfl) (fun _ _ _ h => h) (Or.inl ⟨by rfl, ?_⟩) ?_
              rotate_left
              · intro w; go_simp; first | done | with_reducible rfl
              refine wpAny_take (i := 1) (v := ?_) rfl (by kernel_rfl) (by kernel_rfl) (by kernel_rfl) (fun _ _ _ h => h) (Or.inl ⟨by rfl, ?_⟩) ?_
              rotate_left
              · intro w; go_simp; first | done | with_reducible rfl
              refine wpAny_take (i := 6) (v := ?_) rfl (by kernel_rfl) (by kernel_rfl) (by kernel_rfl) (fun _ _ _ h => h) (Or.inl ⟨by rfl, ?_⟩) ?_
              rotate_left
              · intro w; go_simp; first | done | with_reducible rfl
              refine wpAny_ready (rs := [2, 7]) (by kernel_rfl) (by simp) ?_
              refine AllReady.cons rfl (fun K hK => ?_) ?_
              · go_simp
                refine hK _ _ ?_
                clear hK K
                refine wpAny_take (i := 3) (v := ?_) rfl (by kernel_rfl) (by kernel_rfl) (by kernel_rfl) (fun _ _ _ h => h) (Or.inl ⟨by rfl, ?_⟩) ?_
                rotate_left
                · intro w; go_simp; first | done | with_reducible rfl
                refine wpAny_ready (rs := [4, 7]) (by kernel_rfl) (by simp) ?_
                refine AllReady.cons rfl (fun K hK => ?_) ?_
                · go_simp
                  refine hK _ _ ?_
                  clear hK K
                  refine wpAny_ready (rs := [5, 7]) (by kernel_rfl) (by simp) ?_
                  refine AllReady.cons rfl (fun K hK => ?_) ?_
                  · go_simp
                    refine PC.out.mono ?_
                    rintro e w4 ⟨v4, rfl, hx4, hb4⟩
                    refine hK _ _ ?_
                    clear hK K
                    have hb4' : Below W3.heap.size W3 w4 := ⟨hb4.os, hb4.tape, hb4.output, hb4.size, hb4.block⟩
                    have HB4 := Lib.hid (HB3.out.trans (hb4'.mono HB3.out.size))
                    have TX4 := Lib.hid hx4
                    have f1 : w4.cell? ⟨w2.heap.size, 1, none⟩ = some (.slice (some ⟨ga, offa, none⟩) 2 capa) := by rw [hb4'.cell (p := ⟨w2.heap.size, 1, none⟩) hn3]; exact e1
                    have fb : w4.cell? ⟨ga, offa + 1, none⟩ = some (str YB) := by rw [hb4'.cell (p := ⟨ga, offa + 1, none⟩) hga3]; exact kb
                    have hw4 : w.heap.size ≤ w4.heap.size := Nat.le_trans hw3 hb4'.size
                    clear hb4 hb4' e1 ka kb hx4
                    refine wpAny_ready (rs := [7]) (by kernel_rfl) (by simp) ?_
                    refine AllReady.cons rfl (fun K hK => ?_) AllReady.nil
                    go_simp
                    refine hK _ _ ?_
                    clear hK K
                    refine wpAny_take (i := 8) (v := ?_) rfl (by kernel_rfl) (by kernel_rfl) (by kernel_rfl) (fun _ _ _ h => h) (Or.inl ⟨by rfl, ?_⟩) ?_
                    rotate_left
                    · intro w; go_simp; first | done | with_reducible rfl
                    refine wpAny_ready (rs := [9]) (by kernel_rfl) (by simp) ?_
                    refine AllReady.cons rfl (fun K hK => ?_) AllReady.nil
                    go_simp
                    refine hK _ _ ?_
                    clear hK K
                    refine wpAny_ready (rs := [10]) (by kernel_rfl) (by simp) ?_
                    refine AllReady.cons rfl (fun K hK => ?_) AllReady.nil
                    go_simp
                    refine (put_calls _ (put out YA) YB w.heap.size w4 TX4.out hw4 (by have := put_len out YA; omega)).mono ?_
                    rintro e w5 ⟨v5, rfl, hx5, hb5⟩
                    refine hK _ _ ?_
                    clear hK K
                    have HB5 := Lib.hid (HB4.out.trans (hb5.mono HB4.out.size))
                    have HX5 := Lib.hid hx5
                    obtain ⟨g5, off5, cap5, rfl, _⟩ := hx5
                    clear hb5 f1 fb
                    refine prt.wpAny_tail 11 [_] rfl (by kernel_rfl) rfl ?_
                    go_wp2_with fail
                    go_roundw
                    case rel => exact ⟨_, true, i + 1, rfl, by simp, HI.out.grew hlt HB5.out HOK.out HX.out (by rw [HNX.out]; exact hgr) (by rw [HNX.out]; exact HX5.out)⟩
                    case measure => simp [intOf]; omega
                  refine AllReady.cons rfl (fun K hK => ?_) AllReady.nil
                  go_simp
                  refine hK _ _ ?_
                  clear hK K
                  refine wpAny_take (i := 8) (v := ?_) rfl (by kernel_rfl) (by kernel_rfl) (by kernel_rfl) (fun _ _ _ h => h) (Or.inl ⟨by rfl, ?_⟩) ?_
                  rotate_left
                  · intro w; go_simp; first | done | with_reducible rfl
                  refine wpAny_ready (rs := [5, 9]) (by kernel_rfl) (by simp) ?_
                  refine AllReady.cons rfl (fun K hK => ?_) ?_
                  · go_simp
                    refine PC.out.mono ?_
                    rintro e w4 ⟨v4, rfl, hx4, hb4⟩
                    refine hK _ _ ?_
                    clear hK K
                    have hb4' : Below W3.heap.size W3 w4 := ⟨hb4.os, hb4.tape, hb4.output, hb4.size, hb4.block⟩
                    have HB4 := Lib.hid (HB3.out.trans (hb4'.mono HB3.out.size))
                    have TX4 := Lib.hid hx4
                    have f1 : w4.cell? ⟨w2.heap.size, 1, none⟩ = some (.slice (some ⟨ga, offa, none⟩) 2 capa) := by rw [hb4'.cell (p := ⟨w2.heap.size, 1, none⟩) hn3]; exact e1
                    have fb : w4.cell? ⟨ga, offa + 1, none⟩ = some (str YB) := by rw [hb4'.cell (p := ⟨ga, offa + 1, none⟩) hga3]; exact kb
                    have hw4 : w.heap.size ≤ w4.heap.size := Nat.le_trans hw3 hb4'.size
                    clear hb4 hb4' e1 ka kb hx4
                    refine wpAny_ready (rs := [9]) (by kernel_rfl) (by simp) ?_
                    refine AllReady.cons rfl (fun K hK => ?_) AllReady.nil
                    go_simp
                    refine hK _ _ ?_
                    clear hK K
                    refine wpAny_ready (rs := [10]) (by kernel_rfl) (by simp) ?_
                    refine AllReady.cons rfl (fun K hK => ?_) AllReady.nil
                    go_simp
                    refine (put_calls _ (put out YA) YB w.heap.size w4 TX4.out hw4 (by have := put_len out YA; omega)).mono ?_
                    rintro e w5 ⟨v5, rfl, hx5, hb5⟩
                    refine hK _ _ ?_
                    clear hK K
                    have HB5 := Lib.hid (HB4.out.trans (hb5.mono HB4.out.size))
                    have HX5 := Lib.hid hx5
                    obtain ⟨g5, off5, cap5, rfl, _⟩ := hx5
                    clear hb5 f1 fb
                    refine prt.wpAny_tail 11 [_] rfl (by kernel_rfl) rfl ?_
                    go_wp2_with fail
                    go_roundw
                    case rel => exact ⟨_, true, i + 1, rfl, by simp, HI.out.grew hlt HB5.out HOK.out HX.out (by rw [HNX.out]; exact hgr) (by rw [HNX.out]; exact HX5.out)⟩
                    case measure => simp [intOf]; omega
                  refine AllReady.cons rfl (fun K hK => ?_) AllReady.nil
                  go_simp
                  refine hK _ _ ?_
                  clear hK K
                  refine wpAny_ready (rs := [5]) (by kernel_rfl) (by simp) ?_
                  refine AllReady.cons rfl (fun K hK => ?_) AllReady.nil
                  go_simp
                  refine PC.out.mono ?_
                  rintro e w4 ⟨v4, rfl, hx4, hb4⟩
                  refine hK _ _ ?_
                  clear hK K
                  have hb4' : Below W3.heap.size W3 w4 := ⟨hb4.os, hb4.tape, hb4.output, hb4.size, hb4.block⟩
                  have HB4 := Lib.hid (HB3.out.trans (hb4'.mono HB3.out.size))
                  have TX4 := Lib.hid hx4
                  have f1 : w4.cell? ⟨w2.heap.size, 1, none⟩ = some (.slice (some ⟨ga, offa, none⟩) 2 capa) := by rw [hb4'.cell (p := ⟨w2.heap.size, 1, none⟩) hn3]; exact e1
                  have fb : w4.cell? ⟨ga, offa + 1, none⟩ = some (str YB) := by rw [hb4'.cell (p := ⟨ga, offa + 1, none⟩) hga3]; exact kb
                  have hw4 : w.heap.size ≤ w4.heap.size := Nat.le_trans hw3 hb4'.size
                  clear hb4 hb4' e1 ka kb hx4
                  refine wpAny_ready (rs := [10]) (by kernel_rfl) (by simp) ?_
                  refine AllReady.cons rfl (fun K hK => ?_) AllReady.nil
                  go_simp
                  refine (put_calls _ (put out YA) YB w.heap.size w4 TX4.out hw4 (by have := put_len out YA; omega)).mono ?_
                  rintro e w5 ⟨v5, rfl, hx5, hb5⟩
                  refine hK _ _ ?_
                  clear hK K
                  have HB5 := Lib.hid (HB4.out.trans (hb5.mono HB4.out.size))
                  have HX5 := Lib.hid hx5
                  obtain ⟨g5, off5, cap5, rfl, _⟩ := hx5
                  clear hb5 f1 fb
                  refine prt.wpAny_tail 11 [_] rfl (by kernel_rfl) rfl ?_
                  go_wp2_with fail
                  go_roundw
                  case rel => exact ⟨_, true, i + 1, rfl, by simp, HI.out.grew hlt HB5.out HOK.out HX.out (by rw [HNX.out]; exact hgr) (by rw [HNX.out]; exact HX5.out)⟩
                  case measure => simp [intOf]; omega
                refine AllReady.cons rfl (fun K hK => ?_) AllReady.nil
                go_simp
                refine hK _ _ ?_
                clear hK K
                refine wpAny_take (i := 8) (v := ?_) rfl (by kernel_rfl) (by kernel_rfl) (by kernel_rfl) (fun _ _ _ h => h) (Or.inl ⟨by rfl, ?_⟩) ?_
                rotate_left
                · intro w; go_simp; first | done | with_reducible rfl
                refine wpAny_ready (rs := [4, 9]) (by kernel_rfl) (by simp) ?_
                refine AllReady.cons rfl (fun K hK => ?_) ?_
                · go_simp
                  refine hK _ _ ?_
                  clear hK K
                  refine wpAny_ready (rs := [5, 9]) (by kernel_rfl) (by simp) ?_
                  refine AllReady.cons rfl (fun K hK => ?_) ?_
                  · go_simp
                    refine PC.out.mono ?_
                    rintro e w4 ⟨v4, rfl, hx4, hb4⟩
                    refine hK _ _ ?_
                    clear hK K
                    have hb4' : Below W3.heap.size W3 w4 := ⟨hb4.os, hb4.tape, hb4.output, hb4.size, hb4.block⟩
                    have HB4 := Lib.hid (HB3.out.trans (hb4'.mono HB3.out.size))
                    have TX4 := Lib.hid hx4
                    have f1 : w4.cell? ⟨w2.heap.size, 1, none⟩ = some (.slice (some ⟨ga, offa, none⟩) 2 capa) := by rw [hb4'.cell (p := ⟨w2.heap.size, 1, none⟩) hn3]; exact e1
                    have fb : w4.cell? ⟨ga, offa + 1, none⟩ = some (str YB) := by rw [hb4'.cell (p := ⟨ga, offa + 1, none⟩) hga3]; exact kb
                    have hw4 : w.heap.size ≤ w4.heap.size := Nat.le_trans hw3 hb4'.size
                    clear hb4 hb4' e1 ka kb hx4
                    refine wpAny_ready (rs := [9]) (by kernel_rfl) (by simp) ?_
                    refine AllReady.cons rfl (fun K hK => ?_) AllReady.nil
                    go_simp
                    refine hK _ _ ?_
                    clear hK K
                    refine wpAny_ready (rs := [10]) (by kernel_rfl) (by simp) ?_
                    refine AllReady.cons rfl (fun K hK => ?_) AllReady.nil
                    go_simp
                    refine (put_calls _ (put out YA) YB w.heap.size w4 TX4.out hw4 (by have := put_len out YA; omega)).mono ?_
                    rintro e w5 ⟨v5, rfl, hx5, hb5⟩
                    refine hK _ _ ?_
                    clear hK K
                    have HB5 := Lib.hid (HB4.out.trans (hb5.mono HB4.out.size))
                    have HX5 := Lib.hid hx5
                    obtain ⟨g5, off5, cap5, rfl, _⟩ := hx5
                    clear hb5 f1 fb
                    refine prt.wpAny_tail 11 [_] rfl (by kernel_rfl) rfl ?_
                    go_wp2_with fail
                    go_roundw
                    case rel => exact ⟨_, true, i + 1, rfl, by simp, HI.out.grew hlt HB5.out HOK.out HX.out (by rw [HNX.out]; exact hgr) (by rw [HNX.out]; exact HX5.out)⟩
                    case measure => simp [intOf]; omega
                  refine AllReady.cons rfl (fun K hK => ?_) AllReady.nil
                  go_simp
                  refine hK _ _ ?_
                  clear hK K
                  refine wpAny_ready (rs := [5]) (by kernel_rfl) (by simp) ?_
                  refine AllReady.cons rfl (fun K hK => ?_) AllReady.nil
                  go_simp
                  refine PC.out.mono ?_
                  rintro e w4 ⟨v4, rfl, hx4, hb4⟩
                  refine hK _ _ ?_
                  clear hK K
                  have hb4' : Below W3.heap.size W3 w4 := ⟨hb4.os, hb4.tape, hb4.output, hb4.size, hb4.block⟩
                  have HB4 := Lib.hid (HB3.out.trans (hb4'.mono HB3.out.size))
                  have TX4 := Lib.hid hx4
                  have f1 : w4.cell? ⟨w2.heap.size, 1, none⟩ = some (.slice (some ⟨ga, offa, none⟩) 2 capa) := by rw [hb4'.cell (p := ⟨w2.heap.size, 1, none⟩) hn3]; exact e1
                  have fb : w4.cell? ⟨ga, offa + 1, none⟩ = some (str YB) := by rw [hb4'.cell (p := ⟨ga, offa + 1, none⟩) hga3]; exact kb
                  have hw4 : w.heap.size ≤ w4.heap.size := Nat.le_trans hw3 hb4'.size
                  clear hb4 hb4' e1 ka kb hx4
                  refine wpAny_ready (rs := [10]) (by kernel_rfl) (by simp) ?_
                  refine AllReady.cons rfl (fun K hK => ?_) AllReady.nil
                  go_simp
                  refine (put_calls _ (put out YA) YB w.heap.size w4 TX4.out hw4 (by have := put_len out YA; omega)).mono ?_
                  rintro e w5 ⟨v5, rfl, hx5, hb5⟩
                  refine hK _ _ ?_
                  clear hK K
                  have HB5 := Lib.hid (HB4.out.trans (hb5.mono HB4.out.size))
                  have HX5 := Lib.hid hx5
                  obtain ⟨g5, off5, cap5, rfl, _⟩ := hx5
                  clear hb5 f1 fb
                  refine prt.wpAny_tail 11 [_] rfl (by kernel_rfl) rfl ?_
                  go_wp2_with fail
                  go_roundw
                  case rel => exact ⟨_, true, i + 1, rfl, by simp, HI.out.grew hlt HB5.out HOK.out HX.out (by rw [HNX.out]; exact hgr) (by rw [HNX.out]; exact HX5.out)⟩
                  case measure => simp [intOf]; omega
                refine AllReady.cons rfl (fun K hK => ?_) AllReady.nil
                go_simp
                refine hK _ _ ?_
                clear hK K
                refine wpAny_ready (rs := [4]) (by kernel_rfl) (by simp) ?_
                refine AllReady.cons rfl (fun K hK => ?_) AllReady.nil
                go_simp
                refine hK _ _ ?_
                clear hK K
                refine wpAny_ready (rs := [5]) (by kernel_rfl) (by simp) ?_
                refine AllReady.cons rfl (fun K hK => ?_) AllReady.nil
                go_simp
                refine PC.out.mono ?_
                rintro e w4 ⟨v4, rfl, hx4, hb4⟩
                refine hK _ _ ?_
                clear hK K
                have hb4' : Below W3.heap.size W3 w4 := ⟨hb4.os, hb4.tape, hb4.output, hb4.size, hb4.block⟩
                have HB4 := Lib.hid (HB3.out.trans (hb4'.mono HB3.out.size))
                have TX4 := Lib.hid hx4
                have f1 : w4.cell? ⟨w2.heap.size, 1, none⟩ = some (.slice (some ⟨ga, offa, none⟩) 2 capa) := by rw [hb4'.cell (p := ⟨w2.heap.size, 1, none⟩) hn3]; exact e1
                have fb : w4.cell? ⟨ga, offa + 1, none⟩ = some (str YB) := by rw [hb4'.cell (p := ⟨ga, offa + 1, none⟩) hga3]; exact kb
                have hw4 : w.heap.size ≤ w4.heap.size := Nat.le_trans hw3 hb4'.size
                clear hb4 hb4' e1 ka kb hx4
                refine wpAny_ready (rs := [10]) (by kernel_rfl) (by simp) ?_
                refine AllReady.cons rfl (fun K hK => ?_) AllReady.nil
                go_simp
                refine (put_calls _ (put out YA) YB w.heap.size w4 TX4.out hw4 (by have := put_len out YA; omega)).mono ?_
                rintro e w5 ⟨v5, rfl, hx5, hb5⟩
                refine hK _ _ ?_
                clear hK K
                have HB5 := Lib.hid (HB4.out.trans (hb5.mono HB4.out.size))
                have HX5 := Lib.hid hx5
                obtain ⟨g5, off5, cap5, rfl, _⟩ := hx5
                clear hb5 f1 fb
                refine prt.wpAny_tail 11 [_] rfl (by kernel_rfl) rfl ?_
                go_wp2_with fail
                go_roundw
                case rel => exact ⟨_, true, i + 1, rfl, by simp, HI.out.grew hlt HB5.out HOK.out HX.out (by rw [HNX.out]; exact hgr) (by rw [HNX.out]; exact HX5.out)⟩
                case measure => simp [intOf]; omega
              refine AllReady.cons rfl (fun K hK => ?_) AllReady.nil
              go_simp
              refine hK _ _ ?_
              clear hK K
              refine wpAny_take (i := 8) (v := ?_) rfl (by kernel_rfl) (by kernel_rfl) (by kernel_rfl) (fun _ _ _ h => h) (Or.inl ⟨by rfl, ?_⟩) ?_
              rotate_left
              · intro w; go_simp; first | done | with_reducible rfl
              refine wpAny_ready (rs := [2, 9]) (by kernel_rfl) (by simp) ?_
              refine AllReady.cons rfl (fun K hK => ?_) ?_
              · go_simp
                refine hK _ _ ?_
                clear hK K
                refine wpAny_take (i := 3) (v := ?_) rfl (by kernel_rfl) (by kernel_rfl) (by kernel_rfl) (fun _ _ _ h => h) (Or.inl ⟨by rfl, ?_⟩) ?_
                rotate_left
                · intro w; go_simp; first | done | with_reducible rfl
                refine wpAny_ready (rs := [4, 9]) (by kernel_rfl) (by simp) ?_
                refine AllReady.cons rfl (fun K hK => ?_) ?_
                · go_simp
                  refine hK _ _ ?_
                  clear hK K
                  refine wpAny_ready (rs := [5, 9]) (by kernel_rfl) (by simp) ?_
                  refine AllReady.cons rfl (fun K hK => ?_) ?_
                  · go_simp
                    refine PC.out.mono ?_
                    rintro e w4 ⟨v4, rfl, hx4, hb4⟩
                    refine hK _ _ ?_
                    clear hK K
                    have hb4' : Below W3.heap.size W3 w4 := ⟨hb4.os, hb4.tape, hb4.output, hb4.size, hb4.block⟩
                    have HB4 := Lib.hid (HB3.out.trans (hb4'.mono HB3.out.size))
                    have TX4 := Lib.hid hx4
                    have f1 : w4.cell? ⟨w2.heap.size, 1, none⟩ = some (.slice (some ⟨ga, offa, none⟩) 2 capa) := by rw [hb4'.cell (p := ⟨w2.heap.size, 1, none⟩) hn3]; exact e1
                    have fb : w4.cell? ⟨ga, offa + 1, none⟩ = some (str YB) := by rw [hb4'.cell (p := ⟨ga, offa + 1, none⟩) hga3]; exact kb
                    have hw4 : w.heap.size ≤ w4.heap.size := Nat.le_trans hw3 hb4'.size
                    clear hb4 hb4' e1 ka kb hx4
                    refine wpAny_ready (rs := [9]) (by kernel_rfl) (by simp) ?_
                    refine AllReady.cons rfl (fun K hK => ?_) AllReady.nil
                    go_simp
                    refine hK _ _ ?_
                    clear hK K
                    refine wpAny_ready (rs := [10]) (by kernel_rfl) (by simp) ?_
                    refine AllReady.cons rfl (fun K hK => ?_) AllReady.nil
                    go_simp
                    refine (put_calls _ (put out YA) YB w.heap.size w4 TX4.out hw4 (by have := put_len out YA; omega)).mono ?_
                    rintro e w5 ⟨v5, rfl, hx5, hb5⟩
                    refine hK _ _ ?_
                    clear hK K
                    have HB5 := Lib.hid (HB4.out.trans (hb5.mono HB4.out.size))
                    have HX5 := Lib.hid hx5
                    obtain ⟨g5, off5, cap5, rfl, _⟩ := hx5
                    clear hb5 f1 fb
                    refine prt.wpAny_tail 11 [_] rfl (by kernel_rfl) rfl ?_
                    go_wp2_with fail
                    go_roundw
                    case rel => exact ⟨_, true, i + 1, rfl, by simp, HI.out.grew hlt HB5.out HOK.out HX.out (by rw [HNX.out]; exact hgr) (by rw [HNX.out]; exact HX5.out)⟩
                    case measure => simp [intOf]; omega
                  refine AllReady.cons rfl (fun K hK => ?_) AllReady.nil
                  go_simp
                  refine hK _ _ ?_
                  clear hK K
                  refine wpAny_ready (rs := [5]) (by kernel_rfl) (by simp) ?_
                  refine AllReady.cons rfl (fun K hK => ?_) AllReady.nil
                  go_simp
                  refine PC.out.mono ?_
                  rintro e w4 ⟨v4, rfl, hx4, hb4⟩
                  refine hK _ _ ?_
                  clear hK K
                  have hb4' : Below W3.heap.size W3 w4 := ⟨hb4.os, hb4.tape, hb4.output, hb4.size, hb4.block⟩
                  have HB4 := Lib.hid (HB3.out.trans (hb4'.mono HB3.out.size))
                  have TX4 := Lib.hid hx4
                  have f1 : w4.cell? ⟨w2.heap.size, 1, none⟩ = some (.slice (some ⟨ga, offa, none⟩) 2 capa) := by rw [hb4'.cell (p := ⟨w2.heap.size, 1, none⟩) hn3]; exact e1
                  have fb : w4.cell? ⟨ga, offa + 1, none⟩ = some (str YB) := by rw [hb4'.cell (p := ⟨ga, offa + 1, none⟩) hga3]; exact kb
                  have hw4 : w.heap.size ≤ w4.heap.size := Nat.le_trans hw3 hb4'.size
                  clear hb4 hb4' e1 ka kb hx4
                  refine wpAny_ready (rs := [10]) (by kernel_rfl) (by simp) ?_
                  refine AllReady.cons rfl (fun K hK => ?_) AllReady.nil
                  go_simp
                  refine (put_calls _ (put out YA) YB w.heap.size w4 TX4.out hw4 (by have := put_len out YA; omega)).mono ?_
                  rintro e w5 ⟨v5, rfl, hx5, hb5⟩
                  refine hK _ _ ?_
                  clear hK K
                  have HB5 := Lib.hid (HB4.out.trans (hb5.mono HB4.out.size))
                  have HX5 := Lib.hid hx5
                  obtain ⟨g5, off5, cap5, rfl, _⟩ := hx5
                  clear hb5 f1 fb
                  refine prt.wpAny_tail 11 [_] rfl (by kernel_rfl) rfl ?_
                  go_wp2_with fail
                  go_roundw
                  case rel => exact ⟨_, true, i + 1, rfl, by simp, HI.out.grew hlt HB5.out HOK.out HX.out (by rw [HNX.out]; exact hgr) (by rw [HNX.out]; exact HX5.out)⟩
                  case measure => simp [intOf]; omega
                refine AllReady.cons rfl (fun K hK => ?_) AllReady.nil
                go_simp
                refine hK _ _ ?_
                clear hK K
                refine wpAny_ready (rs := [4]) (by kernel_rfl) (by simp) ?_
                refine AllReady.cons rfl (fun K hK => ?_) AllReady.nil
                go_simp
                refine hK _ _ ?_
                clear hK K
                refine wpAny_ready (rs := [5]) (by kernel_rfl) (by simp) ?_
                refine AllReady.cons rfl (fun K hK => ?_) AllReady.nil
                go_simp
                refine PC.out.mono ?_
                rintro e w4 ⟨v4, rfl, hx4, hb4⟩
                refine hK _ _ ?_
                clear hK K
                have hb4' : Below W3.heap.size W3 w4 := ⟨hb4.os, hb4.tape, hb4.output, hb4.size, hb4.block⟩
                have HB4 := Lib.hid (HB3.out.trans (hb4'.mono HB3.out.size))
                have TX4 := Lib.hid hx4
                have f1 : w4.cell? ⟨w2.heap.size, 1, none⟩ = some (.slice (some ⟨ga, offa, none⟩) 2 capa) := by rw [hb4'.cell (p := ⟨w2.heap.size, 1, none⟩) hn3]; exact e1
                have fb : w4.cell? ⟨ga, offa + 1, none⟩ = some (str YB) := by rw [hb4'.cell (p := ⟨ga, offa + 1, none⟩) hga3]; exact kb
                have hw4 : w.heap.size ≤ w4.heap.size := Nat.le_trans hw3 hb4'.size
                clear hb4 hb4' e1 ka kb hx4
                refine wpAny_ready (rs := [10]) (by kernel_rfl) (by simp) ?_
                refine AllReady.cons rfl (fun K hK => ?_) AllReady.nil
                go_simp
                refine (put_calls _ (put out YA) YB w.heap.size w4 TX4.out hw4 (by have := put_len out YA; omega)).mono ?_
                rintro e w5 ⟨v5, rfl, hx5, hb5⟩
                refine hK _ _ ?_
                clear hK K
                have HB5 := Lib.hid (HB4.out.trans (hb5.mono HB4.out.size))
                have HX5 := Lib.hid hx5
                obtain ⟨g5, off5, cap5, rfl, _⟩ := hx5
                clear hb5 f1 fb
                refine prt.wpAny_tail 11 [_] rfl (by kernel_rfl) rfl ?_
                go_wp2_with fail
                go_roundw
                case rel => exact ⟨_, true, i + 1, rfl, by simp, HI.out.grew hlt HB5.out HOK.out HX.out (by rw [HNX.out]; exact hgr) (by rw [HNX.out]; exact HX5.out)⟩
                case measure => simp [intOf]; omega
              refine AllReady.cons rfl (fun K hK => ?_) AllReady.nil
              go_simp
              refine hK _ _ ?_
              clear hK K
              refine wpAny_ready (rs := [2]) (by kernel_rfl) (by simp) ?_
              refine AllReady.cons rfl (fun K hK => ?_) AllReady.nil
              go_simp
              refine hK _ _ ?_
              clear hK K
              refine wpAny_take (i := 3) (v := ?_) rfl (by kernel_rfl) (by kernel_rfl) (by kernel_rfl) (fun _ _ _ h => h) (Or.inl ⟨by rfl, ?_⟩) ?_
              rotate_left
              · intro w; go_simp; first | done | with_reducible rfl
              refine wpAny_ready (rs := [4]) (by kernel_rfl) (by simp) ?_
              refine AllReady.cons rfl (fun K hK => ?_) AllReady.nil
              go_simp
              refine hK _ _ ?_
              clear hK K
              refine wpAny_ready (rs := [5]) (by kernel_rfl) (by simp) ?_
              refine AllReady.cons rfl (fun K hK => ?_) AllReady.nil
              go_simp
              refine PC.out.mono ?_
              rintro e w4 ⟨v4, rfl, hx4, hb4⟩
              refine hK _ _ ?_
              clear hK K
              have hb4' : Below W3.heap.size W3 w4 := ⟨hb4.os, hb4.tape, hb4.output, hb4.size, hb4.block⟩
              have HB4 := Lib.hid (HB3.out.trans (hb4'.mono HB3.out.size))
              have TX4 := Lib.hid hx4
              have f1 : w4.cell? ⟨w2.heap.size, 1, none⟩ = some (.slice (some ⟨ga, offa, none⟩) 2 capa) := by rw [hb4'.cell (p := ⟨w2.heap.size, 1, none⟩) hn3]; exact e1
              have fb : w4.cell? ⟨ga, offa + 1, none⟩ = some (str YB) := by rw [hb4'.cell (p := ⟨ga, offa + 1, none⟩) hga3]; exact kb
              have hw4 : w.heap.size ≤ w4.heap.size := Nat.le_trans hw3 hb4'.size
              clear hb4 hb4' e1 ka kb hx4
              refine wpAny_ready (rs := [10]) (by kernel_rfl) (by simp) ?_
              refine AllReady.cons rfl (fun K hK => ?_) AllReady.nil
              go_simp
              refine (put_calls _ (put out YA) YB w.heap.size w4 TX4.out hw4 (by have := put_len out YA; omega)).mono ?_
              rintro e w5 ⟨v5, rfl, hx5, hb5⟩
              refine hK _ _ ?_
              clear hK K
              have HB5 := Lib.hid (HB4.out.trans (hb5.mono HB4.out.size))
              have HX5 := Lib.hid hx5
              obtain ⟨g5, off5, cap5, rfl, _⟩ := hx5
              clear hb5 f1 fb
              refine prt.wpAny_tail 11 [_] rfl (by kernel_rfl) rfl ?_
              go_wp2_with fail
              go_roundw
              case rel => exact ⟨_, true, i + 1, rfl, by simp, HI.out.grew hlt HB5.out HOK.out HX.out (by rw [HNX.out]; exact hgr) (by rw [HNX.out]; exact HX5.out)⟩
              case measure => simp [intOf]; omega
            · refine wp_region_any (by kernel_rfl) ?_
              change wpAny _ _ _ _ _ _ _ (World.drew _)
              refine wpAny_take (i := 0) (v := ?_) rfl (by kernel_rfl) (by kernel_rfl) (by kernel_rfl) (fun _ _ _ h => h) (Or.inl ⟨by rfl, ?_⟩) ?_
              rotate_left
              · intro w; go_simp; first | done | with_reducible rfl
              refine wpAny_take (i := 1) (v := ?_) rfl (by kernel_rfl) (by kernel_rfl) (by kernel_rfl) (fun _ _ _ h => h) (Or.inl ⟨by rfl, ?_⟩) ?_
              rotate_left
              · intro w; go_simp; first | done | with_reducible rfl
              refine wpAny_take (i := 6) (v := ?_) rfl (by kernel_rfl) (by kernel_rfl) (by kernel_rfl) (fun _ _ _ h => h) (Or.inl ⟨by rfl, ?_⟩) ?_
              rotate_left
              · intro w; go_simp; first | done | with_reducible rfl
              refine wpAny_ready (rs := [2, 7]) (by kernel_rfl) (by simp) ?_
              refine AllReady.cons rfl (fun K hK => ?_) ?_
              · go_simp
                refine hK _ _ ?_
                clear hK K
                refine wpAny_take (i := 3) (v := ?_) rfl (by kernel_rfl) (by kernel_rfl) (by kernel_rfl) (fun _ _ _ h => h) (Or.inl ⟨by rfl, ?_⟩) ?_
                rotate_left
                · intro w; go_simp; first | done | with_reducible rfl
                refine wpAny_ready (rs := [4, 7]) (by kernel_rfl) (by simp) ?_
                refine AllReady.cons rfl (fun K hK => ?_) ?_
                · go_simp
                  refine hK _ _ ?_
                  clear hK K
                  refine wpAny_ready (rs := [5, 7]) (by kernel_rfl) (by simp) ?_
                  refine AllReady.cons rfl (fun K hK => ?_) ?_
                  · go_simp
                    refine PC.out.mono ?_
                    rintro e w4 ⟨v4, rfl, hx4, hb4⟩
                    refine hK _ _ ?_
                    clear hK K
                    have hb4' : Below W3.heap.size W3 w4 := ⟨hb4.os, hb4.tape, hb4.output, hb4.size, hb4.block⟩
                    have HB4 := Lib.hid (HB3.out.trans (hb4'.mono HB3.out.size))
                    have TX4 := Lib.hid hx4
                    have f1 : w4.cell? ⟨w2.heap.size, 1, none⟩ = some (.slice (some ⟨ga, offa, none⟩) 2 capa) := by rw [hb4'.cell (p := ⟨w2.heap.size, 1, none⟩) hn3]; exact e1
                    have fb : w4.cell? ⟨ga, offa + 1, none⟩ = some (str YB) := by rw [hb4'.cell (p := ⟨ga, offa + 1, none⟩) hga3]; exact kb
                    have hw4 : w.heap.size ≤ w4.heap.size := Nat.le_trans hw3 hb4'.size
                    clear hb4 hb4' e1 ka kb hx4
                    refine wpAny_ready (rs := [7]) (by kernel_rfl) (by simp) ?_
                    refine AllReady.cons rfl (fun K hK => ?_) AllReady.nil
                    go_simp
                    refine hK _ _ ?_
                    clear hK K
                    refine wpAny_take (i := 8) (v := ?_) rfl (by kernel_rfl) (by kernel_rfl) (by kernel_rfl) (fun _ _ _ h => h) (Or.inl ⟨by rfl, ?_⟩) ?_
                    rotate_left
                    · intro w; go_simp; first | done | with_reducible rfl
                    refine wpAny_ready (rs := [9]) (by kernel_rfl) (by simp) ?_
                    refine AllReady.cons rfl (fun K hK => ?_) AllReady.nil
                    go_simp
                    refine hK _ _ ?_
                    clear hK K
                    refine wpAny_ready (rs := [10]) (by kernel_rfl) (by simp) ?_
                    refine AllReady.cons rfl (fun K hK => ?_) AllReady.nil
                    go_simp
                    refine (put_calls _ (put out YA) YB w.heap.size w4 TX4.out hw4 (by have := put_len out YA; omega)).mono ?_
                    rintro e w5 ⟨v5, rfl, hx5, hb5⟩
                    refine hK _ _ ?_
                    clear hK K
                    have HB5 := Lib.hid (HB4.out.trans (hb5.mono HB4.out.size))
                    have HX5 := Lib.hid hx5
                    obtain ⟨g5, off5, cap5, rfl, _⟩ := hx5
                    clear hb5 f1 fb
                    refine prt.wpAny_tail 11 [_] rfl (by kernel_rfl) rfl ?_
                    go_wp2_with fail
                    go_roundw
                    case rel => exact ⟨_, false, i + 1, rfl, by simp, HI.out.same hlt HB5.out HOK.out HX.out (by rw [HNX.out]; exact hgr)⟩
                    case measure => simp [intOf]; omega
                  refine AllReady.cons rfl (fun K hK => ?_) AllReady.nil
                  go_simp
                  refine hK _ _ ?_
                  clear hK K
                  refine wpAny_take (i := 8) (v := ?_) rfl (by kernel_rfl) (by kernel_rfl) (by kernel_rfl) (fun _ _ _ h => h) (Or.inl ⟨by rfl, ?_⟩) ?_
                  rotate_left
                  · intro w; go_simp; first | done | with_reducible rfl
                  refine wpAny_ready (rs := [5, 9]) (by kernel_rfl) (by simp) ?_
                  refine AllReady.cons rfl (fun K hK => ?_) ?_
                  · go_simp
                    refine PC.out.mono ?_
                    rintro e w4 ⟨v4, rfl, hx4, hb4⟩
                    refine hK _ _ ?_
                    clear hK K
                    have hb4' : Below W3.heap.size W3 w4 := ⟨hb4.os, hb4.tape, hb4.output, hb4.size, hb4.block⟩
                    have HB4 := Lib.hid (HB3.out.trans (hb4'.mono HB3.out.size))
                    have TX4 := Lib.hid hx4
                    have f1 : w4.cell? ⟨w2.heap.size, 1, none⟩ = some (.slice (some ⟨ga, offa, none⟩) 2 capa) := by rw [hb4'.cell (p := ⟨w2.heap.size, 1, none⟩) hn3]; exact e1
                    have fb : w4.cell? ⟨ga, offa + 1, none⟩ = some (str YB) := by rw [hb4'.cell (p := ⟨ga, offa + 1, none⟩) hga3]; exact kb
                    have hw4 : w.heap.size ≤ w4.heap.size := Nat.le_trans hw3 hb4'.size
                    clear hb4 hb4' e1 ka kb hx4
                    refine wpAny_ready (rs := [9]) (by kernel_rfl) (by simp) ?_
                    refine AllReady.cons rfl (fun K hK => ?_) AllReady.nil
                    go_simp
                    refine hK _ _ ?_
                    clear hK K
                    refine wpAny_ready (rs := [10]) (by kernel_rfl) (by simp) ?_
                    refine AllReady.cons rfl (fun K hK => ?_) AllReady.nil
                    go_simp
                    refine (put_calls _ (put out YA) YB w.heap.size w4 TX4.out hw4 (by have := put_len out YA; omega)).mono ?_
                    rintro e w5 ⟨v5, rfl, hx5, hb5⟩
                    refine hK _ _ ?_
                    clear hK K
                    have HB5 := Lib.hid (HB4.out.trans (hb5.mono HB4.out.size))
                    have HX5 := Lib.hid hx5
                    obtain ⟨g5, off5, cap5, rfl, _⟩ := hx5
                    clear hb5 f1 fb
                    refine prt.wpAny_tail 11 [_] rfl (by kernel_rfl) rfl ?_
                    go_wp2_with fail
                    go_roundw
                    case rel => exact ⟨_, false, i + 1, rfl, by simp, HI.out.same hlt HB5.out HOK.out HX.out (by rw [HNX.out]; exact hgr)⟩
                    case measure => simp [intOf]; omega
                  refine AllReady.cons rfl (fun K hK => ?_) AllReady.nil
                  go_simp
                  refine hK _ _ ?_
                  clear hK K
                  refine wpAny_ready (rs := [5]) (by kernel_rfl) (by simp) ?_
                  refine AllReady.cons rfl (fun K hK => ?_) AllReady.nil
                  go_simp
                  refine PC.out.mono ?_
                  rintro e w4 ⟨v4, rfl, hx4, hb4⟩
                  refine hK _ _ ?_
                  clear hK K
                  have hb4' : Below W3.heap.size W3 w4 := ⟨hb4.os, hb4.tape, hb4.output, hb4.size, hb4.block⟩
                  have HB4 := Lib.hid (HB3.out.trans (hb4'.mono HB3.out.size))
                  have TX4 := Lib.hid hx4
                  have f1 : w4.cell? ⟨w2.heap.size, 1, none⟩ = some (.slice (some ⟨ga, offa, none⟩) 2 capa) := by rw [hb4'.cell (p := ⟨w2.heap.size, 1, none⟩) hn3]; exact e1
                  have fb : w4.cell? ⟨ga, offa + 1, none⟩ = some (str YB) := by rw [hb4'.cell (p := ⟨ga, offa + 1, none⟩) hga3]; exact kb
                  have hw4 : w.heap.size ≤ w4.heap.size := Nat.le_trans hw3 hb4'.size
                  clear hb4 hb4' e1 ka kb hx4
                  refine wpAny_ready (rs := [10]) (by kernel_rfl) (by simp) ?_
                  refine AllReady.cons rfl (fun K hK => ?_) AllReady.nil
                  go_simp
                  refine (put_calls _ (put out YA) YB w.heap.size w4 TX4.out hw4 (by have := put_len out YA; omega)).mono ?_
                  rintro e w5 ⟨v5, rfl, hx5, hb5⟩
                  refine hK _ _ ?_
                  clear hK K
                  have HB5 := Lib.hid (HB4.out.trans (hb5.mono HB4.out.size))
                  have HX5 := Lib.hid hx5
                  obtain ⟨g5, off5, cap5, rfl, _⟩ := hx5
                  clear hb5 f1 fb
                  refine prt.wpAny_tail 11 [_] rfl (by kernel_rfl) rfl ?_
                  go_wp2_with fail
                  go_roundw
                  case rel => exact ⟨_, false, i + 1, rfl, by simp, HI.out.same hlt HB5.out HOK.out HX.out (by rw [HNX.out]; exact hgr)⟩
                  case measure => simp [intOf]; omega
                refine AllReady.cons rfl (fun K hK => ?_) AllReady.nil
                go_simp
                refine hK _ _ ?_
                clear hK K
                refine wpAny_take (i := 8) (v := ?_) rfl (by kernel_rfl) (by kernel_rfl) (by kernel_rfl) (fun _ _ _ h => h) (Or.inl ⟨by rfl, ?_⟩) ?_
                rotate_left
                · intro w; go_simp; first | done | with_reducible rfl
                refine wpAny_ready (rs := [4, 9]) (by kernel_rfl) (by simp) ?_
                refine AllReady.cons rfl (fun K hK => ?_) ?_
                · go_simp
                  refine hK _ _ ?_
                  clear hK K
                  refine wpAny_ready (rs := [5, 9]) (by kernel_rfl) (by simp) ?_
                  refine AllReady.cons rfl (fun K hK => ?_) ?_
                  · go_simp
                    refine PC.out.mono ?_
                    rintro e w4 ⟨v4, rfl, hx4, hb4⟩
                    refine hK _ _ ?_
                    clear hK K
                    have hb4' : Below W3.heap.size W3 w4 := ⟨hb4.os, hb4.tape, hb4.output, hb4.size, hb4.block⟩
                    have HB4 := Lib.hid (HB3.out.trans (hb4'.mono HB3.out.size))
                    have TX4 := Lib.hid hx4
                    have f1 : w4.cell? ⟨w2.heap.size, 1, none⟩ = some (.slice (some ⟨ga, offa, none⟩) 2 capa) := by rw [hb4'.cell (p := ⟨w2.heap.size, 1, none⟩) hn3]; exact e1
                    have fb : w4.cell? ⟨ga, offa + 1, none⟩ = some (str YB) := by rw [hb4'.cell (p := ⟨ga, offa + 1, none⟩) hga3]; exact kb
                    have hw4 : w.heap.size ≤ w4.heap.size := Nat.le_trans hw3 hb4'.size
                    clear hb4 hb4' e1 ka kb hx4
                    refine wpAny_ready (rs := [9]) (by kernel_rfl) (by simp) ?_
                    refine AllReady.cons rfl (fun K hK => ?_) AllReady.nil
                    go_simp
                    refine hK _ _ ?_
                    clear hK K
                    refine wpAny_ready (rs := [10]) (by kernel_rfl) (by simp) ?_
                    refine AllReady.cons rfl (fun K hK => ?_) AllReady.nil
                    go_simp
                    refine (put_calls _ (put out YA) YB w.heap.size w4 TX4.out hw4 (by have := put_len out YA; omega)).mono ?_
                    rintro e w5 ⟨v5, rfl, hx5, hb5⟩
                    refine hK _ _ ?_
                    clear hK K
                    have HB5 := Lib.hid (HB4.out.trans (hb5.mono HB4.out.size))
                    have HX5 := Lib.hid hx5
                    obtain ⟨g5, off5, cap5, rfl, _⟩ := hx5
                    clear hb5 f1 fb
                    refine prt.wpAny_tail 11 [_] rfl (by kernel_rfl) rfl ?_
                    go_wp2_with fail
                    go_roundw
                    case rel => exact ⟨_, false, i + 1, rfl, by simp, HI.out.same hlt HB5.out HOK.out HX.out (by rw [HNX.out]; exact hgr)⟩
                    case measure => simp [intOf]; omega
                  refine AllReady.cons rfl (fun K hK => ?_) AllReady.nil
                  go_simp
                  refine hK _ _ ?_
                  clear hK K
                  refine wpAny_ready (rs := [5]) (by kernel_rfl) (by simp) ?_
                  refine AllReady.cons rfl (fun K hK => ?_) AllReady.nil
                  go_simp
                  refine PC.out.mono ?_
                  rintro e w4 ⟨v4, rfl, hx4, hb4⟩
                  refine hK _ _ ?_
                  clear hK K
                  have hb4' : Below W3.heap.size W3 w4 := ⟨hb4.os, hb4.tape, hb4.output, hb4.size, hb4.block⟩
                  have HB4 := Lib.hid (HB3.out.trans (hb4'.mono HB3.out.size))
                  have TX4 := Lib.hid hx4
                  have f1 : w4.cell? ⟨w2.heap.size, 1, none⟩ = some (.slice (some ⟨ga, offa, none⟩) 2 capa) := by rw [hb4'.cell (p := ⟨w2.heap.size, 1, none⟩) hn3]; exact e1
                  have fb : w4.cell? ⟨ga, offa + 1, none⟩ = some (str YB) := by rw [hb4'.cell (p := ⟨ga, offa + 1, none⟩) hga3]; exact kb
                  have hw4 : w.heap.size ≤ w4.heap.size := Nat.le_trans hw3 hb4'.size
                  clear hb4 hb4' e1 ka kb hx4
                  refine wpAny_ready (rs := [10]) (by kernel_rfl) (by simp) ?_
                  refine AllReady.cons rfl (fun K hK => ?_) AllReady.nil
                  go_simp
                  refine (put_calls _ (put out YA) YB w.heap.size w4 TX4.out hw4 (by have := put_len out YA; omega)).mono ?_
                  rintro e w5 ⟨v5, rfl, hx5, hb5⟩
                  refine hK _ _ ?_
                  clear hK K
                  have HB5 := Lib.hid (HB4.out.trans (hb5.mono HB4.out.size))
                  have HX5 := Lib.hid hx5
                  obtain ⟨g5, off5, cap5, rfl, _⟩ := hx5
                  clear hb5 f1 fb
                  refine prt.wpAny_tail 11 [_] rfl (by kernel_rfl) rfl ?_
                  go_wp2_with fail
                  go_roundw
                  case rel => exact ⟨_, false, i + 1, rfl, by simp, HI.out.same hlt HB5.out HOK.out HX.out (by rw [HNX.out]; exact hgr)⟩
                  case measure => simp [intOf]; omega
                refine AllReady.cons rfl (fun K hK => ?_) AllReady.nil
                go_simp
                refine hK _ _ ?_
                clear hK K
                refine wpAny_ready (rs := [4]) (by kernel_rfl) (by simp) ?_
                refine AllReady.cons rfl (fun K hK => ?_) AllReady.nil
                go_simp
                refine hK _ _ ?_
                clear hK K
                refine wpAny_ready (rs := [5]) (by kernel_rfl) (by simp) ?_
                refine AllReady.cons rfl (fun K hK => ?_) AllReady.nil
                go_simp
                refine PC.out.mono ?_
                rintro e w4 ⟨v4, rfl, hx4, hb4⟩
                refine hK _ _ ?_
                clear hK K
                have hb4' : Below W3.heap.size W3 w4 := ⟨hb4.os, hb4.tape, hb4.output, hb4.size, hb4.block⟩
                have HB4 := Lib.hid (HB3.out.trans (hb4'.mono HB3.out.size))
                have TX4 := Lib.hid hx4
                have f1 : w4.cell? ⟨w2.heap.size, 1, none⟩ = some (.slice (some ⟨ga, offa, none⟩) 2 capa) := by rw [hb4'.cell (p := ⟨w2.heap.size, 1, none⟩) hn3]; exact e1
                have fb : w4.cell? ⟨ga, offa + 1, none⟩ = some (str YB) := by rw [hb4'.cell (p := ⟨ga, offa + 1, none⟩) hga3]; exact kb
                have hw4 : w.heap.size ≤ w4.heap.size := Nat.le_trans hw3 hb4'.size
                clear hb4 hb4' e1 ka kb hx4
                refine wpAny_ready (rs := [10]) (by kernel_rfl) (by simp) ?_
                refine AllReady.cons rfl (fun K hK => ?_) AllReady.nil
                go_simp
                refine (put_calls _ (put out YA) YB w.heap.size w4 TX4.out hw4 (by have := put_len out YA; omega)).mono ?_
                rintro e w5 ⟨v5, rfl, hx5, hb5⟩
                refine hK _ _ ?_
                clear hK K
                have HB5 := Lib.hid (HB4.out.trans (hb5.mono HB4.out.size))
                have HX5 := Lib.hid hx5
                obtain ⟨g5, off5, cap5, rfl, _⟩ := hx5
                clear hb5 f1 fb
                refine prt.wpAny_tail 11 [_] rfl (by kernel_rfl) rfl ?_
                go_wp2_with fail
                go_roundw
                case rel => exact ⟨_, false, i + 1, rfl, by simp, HI.out.same hlt HB5.out HOK.out HX.out (by rw [HNX.out]; exact hgr)⟩
                case measure => simp [intOf]; omega
              refine AllReady.cons rfl (fun K hK => ?_) AllReady.nil
              go_simp
              refine hK _ _ ?_
              clear hK K
              refine wpAny_take (i := 8) (v := ?_) rfl (by kernel_rfl) (by kernel_rfl) (by kernel_rfl) (fun _ _ _ h => h) (Or.inl ⟨by rfl, ?_⟩) ?_
              rotate_left
              · intro w; go_simp; first | done | with_reducible rfl
              refine wpAny_ready (rs := [2, 9]) (by kernel_rfl) (by simp) ?_
              refine AllReady.cons rfl (fun K hK => ?_) ?_
              · go_simp
                refine hK _ _ ?_
                clear hK K
                refine wpAny_take (i := 3) (v := ?_) rfl (by kernel_rfl) (by kernel_rfl) (by kernel_rfl) (fun _ _ _ h => h) (Or.inl ⟨by rfl, ?_⟩) ?_
                rotate_left
                · intro w; go_simp; first | done | with_reducible rfl
                refine wpAny_ready (rs := [4, 9]) (by kernel_rfl) (by simp) ?_
                refine AllReady.cons rfl (fun K hK => ?_) ?_
                · go_simp
                  refine hK _ _ ?_
                  clear hK K
                  refine wpAny_ready (rs := [5, 9]) (by kernel_rfl) (by simp) ?_
                  refine AllReady.cons rfl (fun K hK => ?_) ?_
                  · go_simp
                    refine PC.out.mono ?_
                    rintro e w4 ⟨v4, rfl, hx4, hb4⟩
                    refine hK _ _ ?_
                    clear hK K
                    have hb4' : Below W3.heap.size W3 w4 := ⟨hb4.os, hb4.tape, hb4.output, hb4.size, hb4.block⟩
                    have HB4 := Lib.hid (HB3.out.trans (hb4'.mono HB3.out.size))
                    have TX4 := Lib.hid hx4
                    have f1 : w4.cell? ⟨w2.heap.size, 1, none⟩ = some (.slice (some ⟨ga, offa, none⟩) 2 capa) := by rw [hb4'.cell (p := ⟨w2.heap.size, 1, none⟩) hn3]; exact e1
                    have fb : w4.cell? ⟨ga, offa + 1, none⟩ = some (str YB) := by rw [hb4'.cell (p := ⟨ga, offa + 1, none⟩) hga3]; exact kb
                    have hw4 : w.heap.size ≤ w4.heap.size := Nat.le_trans hw3 hb4'.size
                    clear hb4 hb4' e1 ka kb hx4
                    refine wpAny_ready (rs := [9]) (by kernel_rfl) (by simp) ?_
                    refine AllReady.cons rfl (fun K hK => ?_) AllReady.nil
                    go_simp
                    refine hK _ _ ?_
                    clear hK K
                    refine wpAny_ready (rs := [10]) (by kernel_rfl) (by simp) ?_
                    refine AllReady.cons rfl (fun K hK => ?_) AllReady.nil
                    go_simp
                    refine (put_calls _ (put out YA) YB w.heap.size w4 TX4.out hw4 (by have := put_len out YA; omega)).mono ?_
                    rintro e w5 ⟨v5, rfl, hx5, hb5⟩
                    refine hK _ _ ?_
                    clear hK K
                    have HB5 := Lib.hid (HB4.out.trans (hb5.mono HB4.out.size))
                    have HX5 := Lib.hid hx5
                    obtain ⟨g5, off5, cap5, rfl, _⟩ := hx5
                    clear hb5 f1 fb
                    refine prt.wpAny_tail 11 [_] rfl (by kernel_rfl) rfl ?_
                    go_wp2_with fail
                    go_roundw
                    case rel => exact ⟨_, false, i + 1, rfl, by simp, HI.out.same hlt HB5.out HOK.out HX.out (by rw [HNX.out]; exact hgr)⟩
                    case measure => simp [intOf]; omega
                  refine AllReady.cons rfl (fun K hK => ?_) AllReady.nil
                  go_simp
                  refine hK _ _ ?_
                  clear hK K
                  refine wpAny_ready (rs := [5]) (by kernel_rfl) (by simp) ?_
                  refine AllReady.cons rfl (fun K hK => ?_) AllReady.nil
                  go_simp
                  refine PC.out.mono ?_
                  rintro e w4 ⟨v4, rfl, hx4, hb4⟩
                  refine hK _ _ ?_
                  clear hK K
                  have hb4' : Below W3.heap.size W3 w4 := ⟨hb4.os, hb4.tape, hb4.output, hb4.size, hb4.block⟩
                  have HB4 := Lib.hid (HB3.out.trans (hb4'.mono HB3.out.size))
                  have TX4 := Lib.hid hx4
                  have f1 : w4.cell? ⟨w2.heap.size, 1, none⟩ = some (.slice (some ⟨ga, offa, none⟩) 2 capa) := by rw [hb4'.cell (p := ⟨w2.heap.size, 1, none⟩) hn3]; exact e1
                  have fb : w4.cell? ⟨ga, offa + 1, none⟩ = some (str YB) := by rw [hb4'.cell (p := ⟨ga, offa + 1, none⟩) hga3]; exact kb
                  have hw4 : w.heap.size ≤ w4.heap.size := Nat.le_trans hw3 hb4'.size
                  clear hb4 hb4' e1 ka kb hx4
                  refine wpAny_ready (rs := [10]) (by kernel_rfl) (by simp) ?_
                  refine AllReady.cons rfl (fun K hK => ?_) AllReady.nil
                  go_simp
                  refine (put_calls _ (put out YA) YB w.heap.size w4 TX4.out hw4 (by have := put_len out YA; omega)).mono ?_
                  rintro e w5 ⟨v5, rfl, hx5, hb5⟩
                  refine hK _ _ ?_
                  clear hK K
                  have HB5 := Lib.hid (HB4.out.trans (hb5.mono HB4.out.size))
                  have HX5 := Lib.hid hx5
                  obtain ⟨g5, off5, cap5, rfl, _⟩ := hx5
                  clear hb5 f1 fb
                  refine prt.wpAny_tail 11 [_] rfl (by kernel_rfl) rfl ?_
                  go_wp2_with fail
                  go_roundw
                  case rel => exact ⟨_, false, i + 1, rfl, by simp, HI.out.same hlt HB5.out HOK.out HX.out (by rw [HNX.out]; exact hgr)⟩
                  case measure => simp [intOf]; omega
                refine AllReady.cons rfl (fun K hK => ?_) AllReady.nil
                go_simp
                refine hK _ _ ?_
                clear hK K
                refine wpAny_ready (rs := [4]) (by kernel_rfl) (by simp) ?_
                refine AllReady.cons rfl (fun K hK => ?_) AllReady.nil
                go_simp
                refine hK _ _ ?_
                clear hK K
                refine wpAny_ready (rs := [5]) (by kernel_rfl) (by simp) ?_
                refine AllReady.cons rfl (fun K hK => ?_) AllReady.nil
                go_simp
                refine PC.out.mono ?_
                rintro e w4 ⟨v4, rfl, hx4, hb4⟩
                refine hK _ _ ?_
                clear hK K
                have hb4' : Below W3.heap.size W3 w4 := ⟨hb4.os, hb4.tape, hb4.output, hb4.size, hb4.block⟩
                have HB4 := Lib.hid (HB3.out.trans (hb4'.mono HB3.out.size))
                have TX4 := Lib.hid hx4
                have f1 : w4.cell? ⟨w2.heap.size, 1, none⟩ = some (.slice (some ⟨ga, offa, none⟩) 2 capa) := by rw [hb4'.cell (p := ⟨w2.heap.size, 1, none⟩) hn3]; exact e1
                have fb : w4.cell? ⟨ga, offa + 1, none⟩ = some (str YB) := by rw [hb4'.cell (p := ⟨ga, offa + 1, none⟩) hga3]; exact kb
                have hw4 : w.heap.size ≤ w4.heap.size := Nat.le_trans hw3 hb4'.size
                clear hb4 hb4' e1 ka kb hx4
                refine wpAny_ready (rs := [10]) (by kernel_rfl) (by simp) ?_
                refine AllReady.cons rfl (fun K hK => ?_) AllReady.nil
                go_simp
                refine (put_calls _ (put out YA) YB w.heap.size w4 TX4.out hw4 (by have := put_len out YA; omega)).mono ?_
                rintro e w5 ⟨v5, rfl, hx5, hb5⟩
                refine hK _ _ ?_
                clear hK K
                have HB5 := Lib.hid (HB4.out.trans (hb5.mono HB4.out.size))
                have HX5 := Lib.hid hx5
                obtain ⟨g5, off5, cap5, rfl, _⟩ := hx5
                clear hb5 f1 fb
                refine prt.wpAny_tail 11 [_] rfl (by kernel_rfl) rfl ?_
                go_wp2_with fail
                go_roundw
                case rel => exact ⟨_, false, i + 1, rfl, by simp, HI.out.same hlt HB5.out HOK.out HX.out (by rw [HNX.out]; exact hgr)⟩
                case measure => simp [intOf]; omega
              refine AllReady.cons rfl (fun K hK => ?_) AllReady.nil
              go_simp
              refine hK _ _ ?_
              clear hK K
              refine wpAny_ready (rs := [2]) (by kernel_rfl) (by simp) ?_
              refine AllReady.cons rfl (fun K hK => ?_) AllReady.nil
              go_simp
              refine hK _ _ ?_
              clear hK K
              refine wpAny_take (i := 3) (v := ?_) rfl (by kernel_rfl) (by kernel_rfl) (by kernel_rfl) (fun _ _ _ h => h) (Or.inl ⟨by rfl, ?_⟩) ?_
              rotate_left
              · intro w; go_simp; first | done | with_reducible rfl
              refine wpAny_ready (rs := [4]) (by kernel_rfl) (by simp) ?_
              refine AllReady.cons rfl (fun K hK => ?_) AllReady.nil
              go_simp
              refine hK _ _ ?_
              clear hK K
              refine wpAny_ready (rs := [5]) (by kernel_rfl) (by simp) ?_
              refine AllReady.cons rfl (fun K hK => ?_) AllReady.nil
              go_simp
              refine PC.out.mono ?_
              rintro e w4 ⟨v4, rfl, hx4, hb4⟩
              refine hK _ _ ?_
              clear hK K
              have hb4' : Below W3.heap.size W3 w4 := ⟨hb4.os, hb4.tape, hb4.output, hb4.size, hb4.block⟩
              have HB4 := Lib.hid (HB3.out.trans (hb4'.mono HB3.out.size))
              have TX4 := Lib.hid hx4
              have f1 : w4.cell? ⟨w2.heap.size, 1, none⟩ = some (.slice (some ⟨ga, offa, none⟩) 2 capa) := by rw [hb4'.cell (p := ⟨w2.heap.size, 1, none⟩) hn3]; exact e1
              have fb : w4.cell? ⟨ga, offa + 1, none⟩ = some (str YB) := by rw [hb4'.cell (p := ⟨ga, offa + 1, none⟩) hga3]; exact kb
              have hw4 : w.heap.size ≤ w4.heap.size := Nat.le_trans hw3 hb4'.size
              clear hb4 hb4' e1 ka kb hx4
              refine wpAny_ready (rs := [10]) (by kernel_rfl) (by simp) ?_
              refine AllReady.cons rfl (fun K hK => ?_) AllReady.nil
              go_simp
              refine (put_calls _ (put out YA) YB w.heap.size w4 TX4.out hw4 (by have := put_len out YA; omega)).mono ?_
              rintro e w5 ⟨v5, rfl, hx5, hb5⟩
              refine hK _ _ ?_
              clear hK K
              have HB5 := Lib.hid (HB4.out.trans (hb5.mono HB4.out.size))
              have HX5 := Lib.hid hx5
              obtain ⟨g5, off5, cap5, rfl, _⟩ := hx5
              clear hb5 f1 fb
              refine prt.wpAny_tail 11 [_] rfl (by kernel_rfl) rfl ?_
              go_wp2_with fail
              go_roundw
              case rel => exact ⟨_, false, i + 1, rfl, by simp, HI.out.same hlt HB5.out HOK.out HX.out (by rw [HNX.out]; exact hgr)⟩
              case measure => simp [intOf]; omega
          · by_cases hs : T.op = oShut
            · obtain ⟨tk, tx, rfl⟩ : ∃ a b, T = .shut a b := by
                cases T with
                | shut a b => exact ⟨a, b, rfl⟩
                | _ => simp [Tm.op, oDh, oShut, oPair, oHash, oMac, oPub] at hs
              clear hone hp hs
              have e0 : str (Tm.shut tk tx).op = .string ⟨#[115, 104, 117, 116]⟩ := rfl
              rw [e0]
              clear e0
              simp only [show (nodeArgs (Tm.shut tk tx)).length = 2 from rfl]

              obtain ⟨W3, hW3⟩ : ∃ W, W = w2.alloc (.cells #[.string ⟨#[115, 104, 117, 116]⟩, .slice (some ⟨ga, offa, none⟩) 2 capa] 72) := ⟨_, rfl⟩
              have h23 : Below w2.heap.size w2 W3 := by rw [hW3]; exact (Below.refl _ _).alloc (Nat.le_refl _) _
              have HB3 := Lib.hid (HB2.out.trans (h23.mono HB2.out.size))
              have TX3 := Lib.hid (Txs.below TX2.out h23)
              have e1 : W3.cell? ⟨w2.heap.size, 1, none⟩ = some (.slice (some ⟨ga, offa, none⟩) 2 capa) := by rw [hW3]; simp [go_sem]
              have ka : W3.cell? ⟨ga, offa, none⟩ = some (str tk.tx) := by rw [h23.cell (p := ⟨ga, offa, none⟩) hga]; exact QA.out 0 _ rfl
              have kb : W3.cell? ⟨ga, offa + 1, none⟩ = some (str tx.tx) := by rw [h23.cell (p := ⟨ga, offa + 1, none⟩) hga]; exact QA.out 1 _ rfl
              have hw3 : w.heap.size ≤ W3.heap.size := Nat.le_trans hw2 h23.size
              have hga3 : ga < W3.heap.size := Nat.lt_of_lt_of_le hga h23.size
              have hn3 : w2.heap.size < W3.heap.size := by rw [hW3]; simp

              have hkt := term_kid HTM.out (k := tk) (by simp [Tm.kids])
              have sbk := sin.specBuilds_in tk (term_some.1 hkt).2.1 (term_some.1 hkt).1 W3 _ out (stk.Txs.rds2 TX3.out) (by omega)
              have SBK := Lib.hid sbk
              obtain ⟨YA, hYA⟩ : ∃ Y, Y = tk.tx := ⟨_, rfl⟩
              obtain ⟨YB, hYB⟩ : ∃ Y, Y = tx.tx := ⟨_, rfl⟩
              rw [← hYA] at ka SBK
              rw [← hYB] at kb
              have HYB := Lib.hid hYB
              have ka2 : w2.cell? ⟨ga, offa, none⟩ = some (str YA) := by rw [hYA]; exact QA.out 0 _ rfl
              clear hkt sbk hYA hYB h23
              cases hbl : kmp.bld (inn out) tk with
              | false =>
                have hnx : nx out (.shut tk tx) = out := by show (if kmp.bld (inn out) tk then _ else _) = out; rw [hbl]; rfl
                have HNX := Lib.hid hnx
                rw [hbl] at SBK
                clear hnx hbl
                go_wp2_with fail
                rw [← hW3]
                clear hW3
                refine SBK.out.mono ?_
                rintro e w4 ⟨rfl, hb4⟩
                have HB4 := Lib.hid (HB3.out.trans (hb4.mono HB3.out.size))
                clear hb4 e1 ka kb
                go_wp2_with fail
                go_roundw
                case rel => exact ⟨_, false, i + 1, rfl, by simp, HI.out.same hlt HB4.out HOK.out HX.out (by rw [HNX.out]; omega)⟩
                case measure => simp [intOf]; omega
              | true =>
                have hnx : nx out (.shut tk tx) = put out YB := by show (if kmp.bld (inn out) tk then _ else _) = _; rw [hbl, HYB.out]; rfl
                have HNX := Lib.hid hnx
                rw [hbl] at SBK
                clear hnx hbl
                go_wp2_with fail
                rw [← hW3]
                clear hW3
                refine SBK.out.mono ?_
                rintro e w4 ⟨rfl, hb4⟩
                have HB4 := Lib.hid (HB3.out.trans (hb4.mono HB3.out.size))
                have TX4 := Lib.hid (Txs.below TX3.out hb4)
                have f1 : w4.cell? ⟨w2.heap.size, 1, none⟩ = some (.slice (some ⟨ga, offa, none⟩) 2 capa) := by rw [hb4.cell (p := ⟨w2.heap.size, 1, none⟩) hn3]; exact e1
                have fb : w4.cell? ⟨ga, offa + 1, none⟩ = some (str YB) := by rw [hb4.cell (p := ⟨ga, offa + 1, none⟩) hga3]; exact kb
                have hw4 : w.heap.size ≤ w4.heap.size := Nat.le_trans hw3 hb4.size
                clear hb4 e1 ka kb
                go_wp2_with fail
                refine (put_calls _ out YB w.heap.size w4 TX4.out hw4 (by omega)).mono ?_
                rintro e w5 ⟨v5, rfl, hx5, hb5⟩
                have HB5 := Lib.hid (HB4.out.trans (hb5.mono HB4.out.size))
                have HX5 := Lib.hid hx5
                obtain ⟨g5, off5, cap5, rfl, _⟩ := hx5
                clear hb5
                by_cases hgr : out.length < (put out YB).length
                · go_wp2_with fail
                  go_roundw
                  case rel => exact ⟨_, true, i + 1, rfl, by simp, HI.out.grew hlt HB5.out HOK.out HX.out (by rw [HNX.out]; exact hgr) (by rw [HNX.out]; exact HX5.out)⟩
                  case measure => simp [intOf]; omega
                · go_wp2_with fail
                  go_roundw
                  case rel => exact ⟨_, false, i + 1, rfl, by simp, HI.out.same hlt HB5.out HOK.out HX.out (by rw [HNX.out]; exact hgr)⟩
                  case measure => simp [intOf]; omega
            · have hnx := hone hp hs
              clear hone
              obtain ⟨O, hO⟩ : ∃ O, O = T.op := ⟨_, rfl⟩
              rw [← hO] at hp hs ⊢
              have d1 : (O == [112, 97, 105, 114]) = false := by rw [beq_eq_false_iff_ne]; exact hp
              have d2 : (O == [115, 104, 117, 116]) = false := by rw [beq_eq_false_iff_ne]; exact hs
              have HNX := Lib.hid hnx
              clear hnx hO hp hs
              go_wp2_with fail
              go_roundw
              case rel =>
                exact ⟨out, false, i + 1, rfl, by simp, HI.out.same hlt (HB2.out.alloc HB2.out.size _) HOK.out HX.out (by rw [HNX.out]; omega)⟩
              case measure => simp [intOf]; omega
        · have OT := Lib.hid (HI.out.out hgo)
          have OT2 := Lib.hid (HI.out.way)
          clear q4
          cases ag with
          | false =>
            have hnl : ¬ i < out.length := fun h => hgo ⟨h, rfl⟩
            clear hgo
            go_wp2_with fail
            go_roundw
            case rel => exact ⟨out, false, rfl, OT.out⟩
            case measure => simp [agOf, lenOf]; omega
          | true =>
            have hgt : out0.length < out.length := by
              rcases OT2.out with ⟨h, _⟩ | ⟨_, h, _⟩
              · cases h
              · exact h
            clear hgo
            by_cases hil : i < out.length
            · go_wp2_with fail
              go_roundw
              case rel => exact ⟨out, true, rfl, OT.out⟩
              case measure => simp [agOf, lenOf]; omega
            · go_wp2_with fail
              go_roundw
              case rel => exact ⟨out, true, rfl, OT.out⟩
              case measure => simp [agOf, lenOf]; omega

#print axioms take_calls
end Go.Proofs.YtdikjmhnjlalbabGreat.stk
