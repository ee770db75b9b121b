/- Contract of partOf. -/
import Derived.Test.YtdikjmhnjlalbabGreatPrtq
import Derived.Test.YtdikjmhnjlalbabGreatQa
import Derived.Test.YtdikjmhnjlalbabGreatQi
namespace Go.Proofs.YtdikjmhnjlalbabGreat.pof
open Go.RowKit Go.Proofs.YtdikjmhnjlalbabGreat.tm Go.Proofs.YtdikjmhnjlalbabGreat.lib Go.Proofs.YtdikjmhnjlalbabGreat.rdr Go.Proofs.YtdikjmhnjlalbabGreat.bld Go.Proofs.YtdikjmhnjlalbabGreat.app Go.Proofs.YtdikjmhnjlalbabGreat.mrs Go.Proofs.YtdikjmhnjlalbabGreat.arg Go.Proofs.YtdikjmhnjlalbabGreat.txo Go.Proofs.YtdikjmhnjlalbabGreat.prt
set_option linter.unusedVariables false

def PO (T : Tm) : Prop := ∀ w, Calls Tryz.prog 41 #[val T] w fun e w' => ∃ k : El, e = .returned k.v ∧ Below w.heap.size w w' ∧ Prt w' (fun g => w.heap.size ≤ g ∧ g < w'.heap.size) T k

/-- What holds behind k rounds: b: the block of the part that is made; v: the slice of its args so far. -/
structure Lp (T : Tm) (w : World) (b : Nat) (wr : World) (k : Nat) (v : Value) (es : List El) : Prop where
  le : k ≤ T.kids.length
  len : es.length = k
  only : Only b w wr
  blk : wr.heap[b]? = some (.cells #[str T.tx, str T.op, v] 53 (0, 0))
  own : Els wr w.heap.size v es
  nil : k = 0 → v = .slice none 0 0
  prt : ∀ (j : Nat) (U : Tm) (e : El), T.kids[j]? = some U → es[j]? = some e → Prt wr (fun g => w.heap.size ≤ g ∧ g < wr.heap.size ∧ v.ownBlock ≠ some g) U e

theorem three {w : World} {b : Nat} {v0 v1 v2 : Value} {t : TypeId} (h : w.heap[b]? = some (.cells #[v0, v1, v2] t (0, 0))) :
    w.cell? ⟨b, 0, none⟩ = some v0 ∧ w.cell? ⟨b, 1, none⟩ = some v1 ∧ w.cell? ⟨b, 2, none⟩ = some v2 ∧ w.frozen? ⟨b, 0, none⟩ = false ∧ w.frozen? ⟨b, 1, none⟩ = false ∧ w.frozen? ⟨b, 2, none⟩ = false ∧ b < w.heap.size := by
  have hb : b < w.heap.size := by
    rcases Nat.lt_or_ge b w.heap.size with h' | h'
    · exact h'
    · rw [Array.getElem?_eq_none h'] at h; cases h
  refine ⟨?_, ?_, ?_, ?_, ?_, ?_, hb⟩
  · rw [cell_of_row w b 0 _ t (0, 0) h]; rfl
  · rw [cell_of_row w b 1 _ t (0, 0) h]; rfl
  · rw [cell_of_row w b 2 _ t (0, 0) h]; rfl
  · simp [World.frozen?, h]
  · simp [World.frozen?, h]
  · simp [World.frozen?, h]

theorem tms_at {w : World} {B : Nat} {v : Value} {ts : List Tm} (h : Tms w B v ts) : (v = .slice none 0 0 ∧ ts = []) ∨ ∃ g cap, v = .slice (some ⟨g, 0, none⟩) ts.length cap ∧ B ≤ g ∧ g < w.heap.size ∧ ∀ j U, ts[j]? = some U → w.cell? ⟨g, j, none⟩ = some (val U) := by
  have h' := h
  obtain ⟨hl, h⟩ := h
  rcases h with ⟨rfl, h⟩ | ⟨g, cap, cur, rfl, hg, hh, _⟩
  · exact .inl ⟨rfl, List.eq_nil_of_length_eq_zero h⟩
  · refine .inr ⟨g, cap, rfl, hg, (World.ownsRow.lt h' g rfl).2, fun j U hj => ?_⟩
    have := World.ownsRow.cells h' (g := g) rfl j (val U) (by rw [List.getElem?_map, hj]; rfl)
    rw [Addr.add_lit] at this
    simpa using this

theorem blk_set {w : World} {b : Nat} {x y z : Value} {t : TypeId} (v : Value) (h : w.heap[b]? = some (.cells #[x, y, z] t (0, 0))) : (w.setCell ⟨b, 2, none⟩ v).heap[b]? = some (.cells #[x, y, v] t (0, 0)) := by
  have hb := (three h).2.2.2.2.2.2
  simp [World.setCell, Array.getElem?_modify, h]

theorem Lp.step {T : Tm} {w : World} {b : Nat} {wr : World} {k : Nat} {v : Value} {es : List El} (L : Lp T w b wr k v es) (hb : b < w.heap.size) {x : Tm} (hx : T.kids[k]? = some x) {w4 w5 : World} (h4 : Below wr.heap.size wr w4) {ke : El}
    (hp : Prt w4 (fun g => wr.heap.size ≤ g ∧ g < w4.heap.size) x ke) {v5 : Value} (t5 : Els w5 w.heap.size v5 (es ++ [ke])) (a5 : mrs.Aside v w4 w5) (n5 : ∀ j, v5.ownBlock = some j → v.ownBlock = some j ∨ w4.heap.size < j) :
    Lp T w b (w5.setCell ⟨b, 2, none⟩ v5) (k + 1) v5 (es ++ [ke]) := by
  have hv := World.ownsRow.lt L.own
  have hvb : v.ownBlock ≠ some b := fun e => by have := hv b e; omega
  have hs := L.only.size
  have hs4 := h4.size
  have hs5 := a5.size
  have hk : k < T.kids.length := by
    rcases Nat.lt_or_ge k T.kids.length with h | h
    · exact h
    · rw [List.getElem?_eq_none h] at hx; cases hx
  have hb5 : w5.heap[b]? = some (.cells #[str T.tx, str T.op, v] 53 (0, 0)) := by
    rw [a5.block b (by omega) hvb, h4.block b (by omega)]
    exact L.blk
  have keep : ∀ g, g < w4.heap.size → g ≠ b → v.ownBlock ≠ some g → (w5.setCell ⟨b, 2, none⟩ v5).heap[g]? = w4.heap[g]? := fun g hg hne hgv => by
    rw [Below.heap_setCell _ _ _ _ (by simpa using hne)]
    exact a5.block g hg hgv
  refine ⟨hk, by simp [L.len], ?_, blk_set v5 hb5, ?_, by omega, ?_⟩
  · refine ⟨?_, ?_, ?_, ?_, fun g hg hne => ?_⟩
    · exact a5.os.trans (h4.os.trans L.only.os)
    · exact a5.tape.trans (h4.tape.trans L.only.tape)
    · exact a5.output.trans (h4.output.trans L.only.output)
    · simp [World.setCell]; omega
    · exact (keep g (by omega) hne fun e => by have := hv g e; omega).trans ((h4.block g (by omega)).trans (L.only.block g hg hne))
  · refine t5.same fun g hg => Below.heap_setCell _ _ _ _ ?_
    have := World.ownsRow.lt t5 g hg
    show g ≠ b
    omega
  · intro j U e hU he
    rcases Nat.lt_or_ge j k with hj | hj
    · rw [List.getElem?_append_left (by rw [L.len]; exact hj)] at he
      refine (L.prt j U e hU he).same (fun g hg => ?_) U e
      obtain ⟨g1, g2, g3⟩ := hg
      refine ⟨(keep g (by omega) (by omega) g3).trans (h4.block g g2), g1, by simp [World.setCell]; omega, fun e => ?_⟩
      rcases n5 g e with h | h
      · exact g3 h
      · omega
    · have hj' : j = k := by
        have := (List.getElem?_eq_some_iff.1 he).1
        simp [L.len] at this
        omega
      subst hj'
      rw [hx] at hU
      cases hU
      rw [List.getElem?_append_right (by rw [L.len]; exact Nat.le_refl _), L.len, Nat.sub_self] at he
      cases he
      refine hp.same (fun g hg => ?_) x ke
      obtain ⟨g1, g2⟩ := hg
      refine ⟨keep g g2 (by omega) fun e => ?_, by omega, by simp [World.setCell]; omega, fun e => ?_⟩
      · have := (hv g e).2; omega
      · rcases n5 g e with h | h
        · have := (hv g h).2; omega
        · omega

theorem kids_cases (T : Tm) : (T.kids = [] ∧ ∃ a, T = .atom a) ∨ (∃ x, T.kids = [x]) ∨ (∃ x y, T.kids = [x, y]) := by
  cases T with
  | atom a => exact .inl ⟨rfl, a, rfl⟩
  | pair x y => exact .inr (.inr ⟨x, y, rfl⟩)
  | hash x => exact .inr (.inl ⟨x, rfl⟩)
  | mac x y => exact .inr (.inr ⟨x, y, rfl⟩)
  | shut x y => exact .inr (.inr ⟨x, y, rfl⟩)
  | pub a => exact .inr (.inl ⟨.atom a, rfl⟩)
  | dh a b => exact .inr (.inr ⟨.atom a, .atom b, rfl⟩)

theorem Lp.done {T : Tm} {w : World} {b : Nat} {wr : World} {vad : Option Addr} {vn vc : Nat} {es : List El} (L : Lp T w b wr T.kids.length (.slice vad vn vc) es) :
    Prt wr (fun g => w.heap.size ≤ g ∧ g < wr.heap.size) T ⟨T.tx, T.op, vad, vn, vc⟩ := by
  have hle := L.len
  have weak : ∀ (U : Tm) (e : El), Prt wr (fun g => w.heap.size ≤ g ∧ g < wr.heap.size ∧ (Value.slice vad vn vc).ownBlock ≠ some g) U e → Prt wr (fun g => w.heap.size ≤ g ∧ g < wr.heap.size) U e :=
    fun U e h => h.same (fun g hg => ⟨rfl, hg.1, hg.2.1⟩) U e
  rcases kids_cases T with ⟨hk, a, rfl⟩ | ⟨x, hk⟩ | ⟨x, y, hk⟩
  · have := L.nil rfl
    cases this
    rfl
  · rw [hk] at hle
    match es, hle, L with
    | [e0], _, L =>
      rcases L.own.form with ⟨_, h⟩ | ⟨g, cap, e, hg, hg2⟩
      · cases h
      · cases e
        exact Prt.mk1 hk rfl rfl rfl rfl ⟨hg, hg2⟩ (L.own.at_ (g := g) rfl (j := 0) rfl) (weak _ _ (L.prt 0 x e0 (by rw [hk]; rfl) rfl))
  · rw [hk] at hle
    match es, hle, L with
    | [e0, e1], _, L =>
      rcases L.own.form with ⟨_, h⟩ | ⟨g, cap, e, hg, hg2⟩
      · cases h
      · cases e
        exact Prt.mk2 hk rfl rfl rfl rfl ⟨hg, hg2⟩ (L.own.at_ (g := g) rfl (j := 0) rfl) (L.own.at_ (g := g) rfl (j := 1) rfl) (weak _ _ (L.prt 0 x e0 (by rw [hk]; rfl) rfl)) (weak _ _ (L.prt 1 y e1 (by rw [hk]; rfl) rfl))

set_option maxHeartbeats 1000000 in
set_option maxRecDepth 100000 in
theorem po_node (T : Tm) (hl : T.tx.length ≤ 1000000) (ih : ∀ k ∈ T.kids, PO k) : PO T := by
  intro w
  have h1 := met_args T
  have h2 := inv_args T
  have h3 := met_op T
  have h4 := inv_op T
  have h5 := args_calls T
  have h6 := op_calls T
  have h7 := textOf_calls T hl
  have hkl : T.kids.length ≤ 2 := by cases T <;> simp [Tm.kids]
  have IH := Lib.hid ih
  clear ih
  rw [val_eq] at h7 ⊢
  go_enter Tryz.func41, Tryz.ntmps41
  go_wp2_with fail
  refine (h7 _).mono ?_
  rintro e w1 ⟨rfl, hb⟩
  have HB := Lib.hid hb
  clear hb
  go_wp2_with fail
  refine (h6 _).mono ?_
  rintro e w2 ⟨rfl, hb2⟩
  have HB2 := Lib.hid (HB.out.trans (hb2.mono HB.out.size))
  clear hb2 h1 h2 h3 h4 h6 h7
  have h1 := met_args T
  have h2 := inv_args T
  go_wp2_with fail
  refine (h5 _).mono ?_
  rintro e w3 ⟨v, rfl, hb3, hk⟩
  have HB3 := Lib.hid (HB2.out.trans ((((Below.refl _ _).alloc (Nat.le_refl _) _).trans (hb3.mono (by simp))).mono HB2.out.size))
  have hblk : w3.heap[w2.heap.size]? = some (.cells #[str T.tx, str T.op, .slice none 0 0] 53 (0, 0)) := by
    rw [hb3.block _ (by simp)]
    exact heap_alloc_new w2 _
  have hn : ∃ ad cap, v = .slice ad T.kids.length cap := by
    rcases tms_at hk with ⟨rfl, e⟩ | ⟨g, cap, rfl, _⟩
    · exact ⟨none, 0, by rw [e]; rfl⟩
    · exact ⟨_, _, rfl⟩
  obtain ⟨ad, cap, rfl⟩ := hn
  have HK := Lib.hid hk
  have HBLK := Lib.hid hblk
  obtain ⟨n, hN⟩ : ∃ n, n = T.kids.length := ⟨_, rfl⟩
  rw [← hN] at hkl ⊢
  have HN := Lib.hid hN
  have hlo : w.heap.size + 1 ≤ w2.heap.size := by have := HB2.out.size; simpa using this
  have hw3 : w2.heap.size < w3.heap.size := by have := hb3.size; simp at this; omega
  clear hk hblk hb3 h1 h2 h5 hN
  go_wp2_with fail
  go_loopw [5, 14, 15, 16, 17, 18, 19, 20, 21, 22, 23, 24, 25] (fun _ vk _ _ _ _ _ _ _ _ _ _ _ wr => ∃ k v es, vk = .int .i64 (k : Nat) ∧ Lp T w3 w2.heap.size wr k v es) (fun _ vk _ _ _ _ _ _ _ _ _ _ _ _ => n - (intOf vk).toNat)
  case atStart => exact ⟨0, _, [], rfl, Nat.zero_le _, rfl, Only.refl _ _, HBLK.out, Els.nil _ _, fun _ => rfl, by intro j U e _ h; simp at h⟩
  case round =>
    obtain ⟨k, v, es, rfl, L⟩ := hrel
    have HL := Lib.hid L
    have hk : k ≤ n := by have := L.le; have := HN.out; omega
    obtain ⟨vad, vn, vc, rfl⟩ : ∃ vad vn vc, v = .slice vad vn vc := by
      rcases L.own.form with ⟨e, _⟩ | ⟨g, cap, e, _⟩ <;> exact ⟨_, _, _, e⟩
    obtain ⟨c0, c1, c2, f0, f1, f2, hb⟩ := three L.blk
    have hes : es.length + 1 ≤ 1000000 := by rw [L.len]; omega
    have NB := Lib.hid (show (Value.slice vad vn vc).ownBlock ≠ some w2.heap.size from fun e => by have := World.ownsRow.lt L.own _ e; omega)
    have hwr := L.only.size
    clear L
    by_cases hlt : k < n
    · have hk' : k < T.kids.length := by have := HN.out; omega
      obtain ⟨x, hx⟩ : ∃ x, T.kids[k]? = some x := ⟨_, List.getElem?_eq_getElem hk'⟩
      rcases tms_at HK.out with ⟨_, h0⟩ | ⟨g, cap', e, hg0, hg, hc⟩
      · rw [h0] at hx; simp at hx
      cases e
      have ci : wr.cell? ⟨g, k, none⟩ = some (val x) := by
        rw [← hc k x hx]
        exact World.cell?_of_block (HL.out.only.block g hg (by simp at hg0; omega))
      have px := IH.out x (List.mem_of_getElem? hx)
      have HX := Lib.hid hx
      clear hc hx hg0
      go_wp2_with fail
      refine wp_region_any (by kernel_rfl) ?_
      change wpAny _ _ _ _ _ _ _ (World.drew _)
      refine wpAny_take (i := 0) (v := ?_) rfl (by kernel_rfl) (by kernel_rfl) (by kernel_rfl) (fun _ _ _ h => h) (Or.inl ⟨by rfl, ?_⟩) ?_
      rotate_left
      · intro w; go_simp; first | done | with_reducible rfl
      refine wpAny_take (i := 2) (v := ?_) rfl (by kernel_rfl) (by kernel_rfl) (by kernel_rfl) (fun _ _ _ h => h) (Or.inl ⟨by rfl, ?_⟩) ?_
      rotate_left
      · intro w; go_simp; first | done | with_reducible rfl
      refine wpAny_ready (rs := [1, 3]) (by kernel_rfl) (by simp) ?_
      refine AllReady.cons rfl (fun K hK => ?_) (AllReady.cons rfl (fun K hK => ?_) AllReady.nil)
      · go_simp
        refine hK _ _ ?_
        clear hK K
        refine wpAny_ready (rs := [3]) (by kernel_rfl) (by simp) ?_
        refine AllReady.cons rfl (fun K hK => ?_) AllReady.nil
        go_simp
        refine (px _).mono ?_
        rintro e w4 ⟨⟨kt, ko, kad, kn, kc⟩, rfl, hb4, hp⟩
        simp only [El.v]
        refine hK _ _ ?_
        clear hK K
        have H4 := Lib.hid (show Below wr.heap.size wr w4 from ⟨hb4.os, hb4.tape, hb4.output, hb4.size, hb4.block⟩)
        have HP := Lib.hid (show Prt w4 (fun g => wr.heap.size ≤ g ∧ g < w4.heap.size) x ⟨kt, ko, kad, kn, kc⟩ from hp)
        have O4 := Lib.hid (HL.out.own.same fun g hg => H4.out.block g (World.ownsRow.lt HL.out.own g hg).2)
        have hz4 := H4.out.size
        have hb4' : w2.heap.size < w4.heap.size := Nat.lt_of_lt_of_le hb hz4
        have c4 : w4.cell? ⟨w2.heap.size, 2, none⟩ = some (.slice vad vn vc) := (World.cell?_of_block (H4.out.block w2.heap.size hb)).trans c2
        clear hb4 hp
        refine wpAny_ready (rs := [4]) (by kernel_rfl) (by simp) ?_
        refine AllReady.cons rfl (fun K hK => ?_) AllReady.nil
        go_simp
        refine hK _ _ ?_
        clear hK K
        refine wpAny_tail 5 [_, _, _] rfl (by kernel_rfl) rfl ?_
        (at_builtin; refine wp_putE (.tmp 19) (.tmp 22) ⟨kt, ko, kad, kn, kc⟩ w3.heap.size _ es rfl rfl rfl O4.out rfl hes (by omega) ?_; intro v5 w5 t5 a5 n5)
        obtain ⟨v5a, v5n, v5c, rfl⟩ : ∃ va vn vc, v5 = .slice va vn vc := by
          rcases t5.form with ⟨e, _⟩ | ⟨g, cap, e, _⟩ <;> exact ⟨_, _, _, e⟩
        have hb5 : w5.heap[w2.heap.size]? = w4.heap[w2.heap.size]? := a5.block _ (by omega) NB.out
        have c5 : w5.cell? ⟨w2.heap.size, 2, none⟩ = some (.slice vad vn vc) := (World.cell?_of_block hb5).trans c4
        have f5 : w5.frozen? ⟨w2.heap.size, 2, none⟩ = false := by rw [World.frozen?_of_block (a := ⟨w2.heap.size, 2, none⟩) hb5, World.frozen?_of_block (a := ⟨w2.heap.size, 2, none⟩) (w := wr) (H4.out.block w2.heap.size hb)]; exact f2
        have ST := Lib.hid (HL.out.step hw3 HX.out H4.out HP.out t5 a5 n5)
        clear t5 a5 n5 hb5
        go_wp2_with fail
        go_roundw
        case rel => exact ⟨k + 1, _, _, by simp, ST.out⟩
        case measure => simp [intOf]; omega
      · go_simp
        refine (px _).mono ?_
        rintro e w4 ⟨⟨kt, ko, kad, kn, kc⟩, rfl, hb4, hp⟩
        simp only [El.v]
        refine hK _ _ ?_
        clear hK K
        have H4 := Lib.hid (show Below wr.heap.size wr w4 from ⟨hb4.os, hb4.tape, hb4.output, hb4.size, hb4.block⟩)
        have HP := Lib.hid (show Prt w4 (fun g => wr.heap.size ≤ g ∧ g < w4.heap.size) x ⟨kt, ko, kad, kn, kc⟩ from hp)
        have O4 := Lib.hid (HL.out.own.same fun g hg => H4.out.block g (World.ownsRow.lt HL.out.own g hg).2)
        have hz4 := H4.out.size
        have hb4' : w2.heap.size < w4.heap.size := Nat.lt_of_lt_of_le hb hz4
        have c4 : w4.cell? ⟨w2.heap.size, 2, none⟩ = some (.slice vad vn vc) := (World.cell?_of_block (H4.out.block w2.heap.size hb)).trans c2
        clear hb4 hp
        refine wpAny_ready (rs := [1, 4]) (by kernel_rfl) (by simp) ?_
        refine AllReady.cons rfl (fun K hK => ?_) (AllReady.cons rfl (fun K hK => ?_) AllReady.nil)
        · go_simp
          refine hK _ _ ?_
          clear hK K
          refine wpAny_ready (rs := [4]) (by kernel_rfl) (by simp) ?_
          refine AllReady.cons rfl (fun K hK => ?_) AllReady.nil
          go_simp
          refine hK _ _ ?_
          clear hK K
          refine wpAny_tail 5 [_, _, _] rfl (by kernel_rfl) rfl ?_
          (at_builtin; refine wp_putE (.tmp 19) (.tmp 22) ⟨kt, ko, kad, kn, kc⟩ w3.heap.size _ es rfl rfl rfl O4.out rfl hes (by omega) ?_; intro v5 w5 t5 a5 n5)
          obtain ⟨v5a, v5n, v5c, rfl⟩ : ∃ va vn vc, v5 = .slice va vn vc := by
            rcases t5.form with ⟨e, _⟩ | ⟨g, cap, e, _⟩ <;> exact ⟨_, _, _, e⟩
          have hb5 : w5.heap[w2.heap.size]? = w4.heap[w2.heap.size]? := a5.block _ (by omega) NB.out
          have c5 : w5.cell? ⟨w2.heap.size, 2, none⟩ = some (.slice vad vn vc) := (World.cell?_of_block hb5).trans c4
          have f5 : w5.frozen? ⟨w2.heap.size, 2, none⟩ = false := by rw [World.frozen?_of_block (a := ⟨w2.heap.size, 2, none⟩) hb5, World.frozen?_of_block (a := ⟨w2.heap.size, 2, none⟩) (w := wr) (H4.out.block w2.heap.size hb)]; exact f2
          have ST := Lib.hid (HL.out.step hw3 HX.out H4.out HP.out t5 a5 n5)
          clear t5 a5 n5 hb5
          go_wp2_with fail
          go_roundw
          case rel => exact ⟨k + 1, _, _, by simp, ST.out⟩
          case measure => simp [intOf]; omega
        · go_simp
          refine hK _ _ ?_
          clear hK K
          refine wpAny_ready (rs := [1]) (by kernel_rfl) (by simp) ?_
          refine AllReady.cons rfl (fun K hK => ?_) AllReady.nil
          go_simp
          refine hK _ _ ?_
          clear hK K
          refine wpAny_tail 5 [_, _, _] rfl (by kernel_rfl) rfl ?_
          (at_builtin; refine wp_putE (.tmp 19) (.tmp 22) ⟨kt, ko, kad, kn, kc⟩ w3.heap.size _ es rfl rfl rfl O4.out rfl hes (by omega) ?_; intro v5 w5 t5 a5 n5)
          obtain ⟨v5a, v5n, v5c, rfl⟩ : ∃ va vn vc, v5 = .slice va vn vc := by
            rcases t5.form with ⟨e, _⟩ | ⟨g, cap, e, _⟩ <;> exact ⟨_, _, _, e⟩
          have hb5 : w5.heap[w2.heap.size]? = w4.heap[w2.heap.size]? := a5.block _ (by omega) NB.out
          have c5 : w5.cell? ⟨w2.heap.size, 2, none⟩ = some (.slice vad vn vc) := (World.cell?_of_block hb5).trans c4
          have f5 : w5.frozen? ⟨w2.heap.size, 2, none⟩ = false := by rw [World.frozen?_of_block (a := ⟨w2.heap.size, 2, none⟩) hb5, World.frozen?_of_block (a := ⟨w2.heap.size, 2, none⟩) (w := wr) (H4.out.block w2.heap.size hb)]; exact f2
          have ST := Lib.hid (HL.out.step hw3 HX.out H4.out HP.out t5 a5 n5)
          clear t5 a5 n5 hb5
          go_wp2_with fail
          go_roundw
          case rel => exact ⟨k + 1, _, _, by simp, ST.out⟩
          case measure => simp [intOf]; omega
    · obtain rfl : k = n := by omega
      have hb2 : wr.heap[w.heap.size]? = some (.cells #[str [], str [], .slice none 0 0] 53 (0, 0)) := by
        rw [HL.out.only.block _ (by omega) (by omega), HB3.out.block _ (by simp)]
        exact heap_alloc_new w _
      obtain ⟨d0, d1, d2, g0, g1, g2, hb2'⟩ := three hb2
      clear hb2
      go_wp2_with fail
      have DN := Lib.hid (show Prt wr (fun g => w3.heap.size ≤ g ∧ g < wr.heap.size) T ⟨T.tx, T.op, vad, vn, vc⟩ from by have := HN.out; subst this; exact HL.out.done)
      have BW := Lib.hid (show Below w.heap.size w wr from (grd.Below.push (HB3.out.mono (by simp))).trans (HL.out.only.below (by omega) (by omega)))
      refine bodyPost_ret (v := .agg #[str T.tx, str T.op, .slice vad vn vc]) (by simp [results, Tryz.results41, go_sem, d0, d1, d2]) rfl ⟨⟨T.tx, T.op, vad, vn, vc⟩, rfl, ((BW.out.setCell (Nat.le_refl _) _).setCell (Nat.le_refl _) _).setCell (Nat.le_refl _) _, DN.out.same (fun g hg => ⟨?_, by omega, by simpa [World.setCell] using hg.2⟩) _ _⟩
      have hne : g ≠ w.heap.size := by omega
      rw [Below.heap_setCell _ _ _ _ hne, Below.heap_setCell _ _ _ _ hne, Below.heap_setCell _ _ _ _ hne]

theorem po_all : ∀ n (T : Tm), T.deep ≤ n → T.tx.length ≤ 1000000 → PO T
  | 0, T, h, _ => by have := deep_pos T; omega
  | n + 1, T, h, hl => po_node T hl fun k hk => po_all n k (by have := kid_deep hk; omega) (Nat.le_trans (kmp.kid_tx hk) hl)

theorem partOf_calls (T : Tm) (hl : T.tx.length ≤ 1000000) (w : World) :
    Calls Tryz.prog 41 #[val T] w fun e w' => ∃ k : El, e = .returned k.v ∧ Below w.heap.size w w' ∧ Prt w' (fun g => w.heap.size ≤ g ∧ g < w'.heap.size) T k := po_all T.deep T (Nat.le_refl _) hl w

#print axioms partOf_calls
end Go.Proofs.YtdikjmhnjlalbabGreat.pof
