/- JarTick of the program and of the model. -/
import Derived.Test.YtdikjmhnjlalbaaDoorGjd
import Derived.Deep.DeepCutAuto
import Derived.Deep.CutBlock
namespace Go.Proofs.YtdikjmhnjlalbaaDoor.gjt
open Go.RowKit Go.Sort Go.Proofs.YtdikjmhnjlalbaaDoor.tm Go.Proofs.YtdikjmhnjlalbaaDoor.lib Go.Proofs.YtdikjmhnjlalbaaDoor.rdr Go.Proofs.YtdikjmhnjlalbaaDoor.bld Go.Proofs.YtdikjmhnjlalbaaDoor.ltp Go.Proofs.YtdikjmhnjlalbaaDoor.gdp Go.Proofs.YtdikjmhnjlalbaaDoor.gtp Go.Proofs.YtdikjmhnjlalbaaDoor.rbk Go.Proofs.YtdikjmhnjlalbaaDoor.dec Go.Proofs.YtdikjmhnjlalbaaDoor.tab
set_option linter.unusedVariables false

theorem alloc2 (w : World) (a b : Obj) : ((w.alloc a).alloc b).heap[w.heap.size]? = some a ∧ ((w.alloc a).alloc b).heap[w.heap.size + 1]? = some b := by
  refine ⟨(Below.heap_alloc _ _ _ (by simp)).trans (heap_alloc_new w a), ?_⟩
  have := heap_alloc_new (w.alloc a) b
  rw [World.size_alloc] at this
  exact this
theorem cat (D : Bs) : (⟨#[115]⟩ : ByteArray) ++ ⟨D.toArray⟩ = ⟨((115 : UInt8) :: D).toArray⟩ := by
  apply ByteArray.ext
  simp
theorem five {w : World} {b : Nat} {v0 v1 v2 v3 v4 : Value} {t : TypeId} (h : w.heap[b]? = some (.cells #[v0, v1, v2, v3, v4] t (0, 0))) :
    w.cell? ⟨b, 0, none⟩ = some v0 ∧ w.cell? ⟨b, 1, none⟩ = some v1 ∧ w.cell? ⟨b, 2, none⟩ = some v2 ∧ w.cell? ⟨b, 3, none⟩ = some v3 ∧ w.cell? ⟨b, 4, none⟩ = some v4 ∧ b < w.heap.size ∧ ∀ o, w.frozen? ⟨b, o, none⟩ = false := by
  refine ⟨?_, ?_, ?_, ?_, ?_, (Array.getElem?_eq_some_iff.1 h).1, fun o => by simp [World.frozen?, h]⟩ <;> (rw [cell_of_row w b _ _ t (0, 0) h]; rfl)
theorem four {w : World} {b : Nat} {v0 v1 v2 v3 : Value} {t : TypeId} (h : w.heap[b]? = some (.cells #[v0, v1, v2, v3] t (0, 0))) :
    w.cell? ⟨b, 0, none⟩ = some v0 ∧ w.cell? ⟨b, 1, none⟩ = some v1 ∧ w.cell? ⟨b, 2, none⟩ = some v2 ∧ w.cell? ⟨b, 3, none⟩ = some v3 ∧ b < w.heap.size ∧ ∀ o, w.frozen? ⟨b, o, none⟩ = false := by
  refine ⟨?_, ?_, ?_, ?_, (Array.getElem?_eq_some_iff.1 h).1, fun o => by simp [World.frozen?, h]⟩ <;> (rw [cell_of_row w b _ _ t (0, 0) h]; rfl)

theorem split {P : Program} {md : Region.Mode} {ops : Array Oper} {Q : Exit → Act → World → Prop} {n : Nat} {l : Array Bool} {a : Act} {w : World} (l' : Array Bool) (a' : Nat → Act) (m : Nat) (C : World → Nat → Prop)
    (hT : ∀ X O, C X O → wpAny P md ops Q m l' (a' O) X) (h : (∀ X O, C X O → wpAny P md ops Q m l' (a' O) X) → wpAny P md ops Q n l a w) : wpAny P md ops Q n l a w := h hT
theorem relist {P : Program} {md : Region.Mode} {ops : Array Oper} {Q : Exit → Act → World → Prop} {n : Nat} {l : Array Bool} (l' : Array Bool) {a : Act} {w : World} (e : l = l') (h : wpAny P md ops Q n l' a w) : wpAny P md ops Q n l a w := by
  rw [e]; exact h
theorem setFour {w : World} {b : Nat} {a0 a1 a2 a3 : Value} {t : TypeId} (h : w.heap[b]? = some (.cells #[a0, a1, a2, a3] t (0, 0))) (v0 v1 v2 v3 : Value) :
    ((((w.setCell ⟨b, 0, none⟩ v0).setCell ⟨b, 1, none⟩ v1).setCell ⟨b, 2, none⟩ v2).setCell ⟨b, 3, none⟩ v3).heap[b]? = some (.cells #[v0, v1, v2, v3] t (0, 0)) := by
  have h0 := heap_setCell_same w b 0 _ _ v0 h
  have h1 := heap_setCell_same _ b 1 _ _ v1 h0
  have h2 := heap_setCell_same _ b 2 _ _ v2 h1
  exact heap_setCell_same _ b 3 _ _ v3 h2

theorem fourF {w : World} {b : Nat} {v0 v1 v2 v3 : Value} {t : TypeId} (h : w.heap[b]? = some (.cells #[v0, v1, v2, v3] t (0, 0))) :
    w.cell? ⟨b, 0, none⟩ = some v0 ∧ w.cell? ⟨b, 1, none⟩ = some v1 ∧ w.cell? ⟨b, 2, none⟩ = some v2 ∧ w.cell? ⟨b, 3, none⟩ = some v3 ∧ b < w.heap.size ∧ w.frozen? ⟨b, 0, none⟩ = false ∧ w.frozen? ⟨b, 1, none⟩ = false ∧ w.frozen? ⟨b, 2, none⟩ = false ∧ w.frozen? ⟨b, 3, none⟩ = false := by
  obtain ⟨h0, h1, h2, h3, h4, h5⟩ := four h
  exact ⟨h0, h1, h2, h3, h4, h5 _, h5 _, h5 _, h5 _⟩

set_option maxHeartbeats 40000000 in
set_option maxRecDepth 100000 in
theorem turned_calls (j : Jr) (now : Int) (hn : j.now.length ≤ 1000000) (h1 : 0 ≤ j.at_) (h2 : j.at_ ≤ 1000000) (h3 : 0 ≤ j.next) (h4 : j.next ≤ 1000000) (t0 : 0 ≤ now) (t1 : now ≤ 1000000) (w : World) (hh : Has w) :
    Calls Tryd.prog 15 #[.agg (jrA j), .int .i64 now] w fun e w' => e = .returned (.agg (jrA (nextR j now))) ∧ Below w.heap.size w w' := by
  have HH := Lib.hid (fun w' (k : Below w.heap.size w w') => hh.below k)
  have dg := fun w' (k : Below w.heap.size w w') => gjd.digits_calls j.next h3 (by omega) w' (hh.below k)
  have cl := fun w' => clo.clone_calls ⟨j.now.toArray⟩ (by show j.now.toArray.size ≤ _; simp; omega) w'
  obtain ⟨D, hD⟩ : ∃ D, D = decR j.next.toNat := ⟨_, rfl⟩
  have hDl : D.length ≤ 7 := by rw [hD]; exact decR_len _ (by omega)
  unfold nextR
  rw [← hD] at dg ⊢
  obtain ⟨s, t, x, y⟩ := j
  simp only at hn h1 h2 h3 h4 dg cl ⊢
  have DG := Lib.hid dg
  have CL := Lib.hid cl
  have HC := Lib.hid (cat D)
  have wn : IntKind.i64.wrap (y + 1) = y + 1 := by rw [IntKind.wrap_i64]; omega
  have wd : IntKind.i64.wrap (now - x) = now - x := by rw [IntKind.wrap_i64]; omega
  unfold jrA
  have kW := (glh.new1 w (.cells #[str s, str t, .int .i64 x, .int .i64 y] 25)).alloc (by simp) (.cells #[str [], str [], .int .i64 0, .int .i64 0] 25)
  obtain ⟨x0, x1⟩ := alloc2 w (.cells #[str s, str t, .int .i64 x, .int .i64 y] 25) (.cells #[str [], str [], .int .i64 0, .int .i64 0] 25)
  have Q := And.intro x0 (And.intro x1 kW)
  clear x0 x1 kW dg cl hD hh
  go_enter Tryd.func15, Tryd.ntmps15
  go_upto_region 1 with fail
  generalize hW : ((w.alloc (.cells #[str s, str t, .int .i64 x, .int .i64 y] 25)).alloc (.cells #[str [], str [], .int .i64 0, .int .i64 0] 25)) = W at Q
  obtain ⟨x0, x1, kW⟩ := Q
  clear hW
  have HK := Lib.hid kW
  have X0 := Lib.hid x0
  have X1 := Lib.hid x1
  clear kW x0 x1
  have HC := Lib.hid (fun X (k : Below W.heap.size W X) => (show X.cell? ⟨w.heap.size, 0, none⟩ = some (str s) ∧ X.cell? ⟨w.heap.size, 3, none⟩ = some (.int .i64 y) ∧ w.heap.size < X.heap.size from ⟨(glh.four (glh.keptB X0.out k)).1, (glh.four (glh.keptB X0.out k)).2.2.2.1, (glh.four (glh.keptB X0.out k)).2.2.2.2⟩))
  have DG2 := Lib.hid (fun X (k : Below W.heap.size W X) => DG.out X (HK.out.trans (k.mono HK.out.size)))
  go_cut [5] (fun s5 wx => ∃ O, s5 = .pointer (some ⟨O, 0, none⟩) ∧ wx.heap[O]? = some (.cells #[str (115 :: D), str s, .int .i64 now, .int .i64 (y + 1)] 25) ∧ W.heap.size ≤ O ∧ Below W.heap.size W wx)
  case first =>
    clear hn h1 h2 h3 h4 t0 t1 wd HH DG X0 X1
    refine wp_region_any (by kernel_rfl) ?_
    change wpAny _ _ _ _ _ _ _ (World.drew _)
    refine wpAny_take (i := 0) (v := ?_) rfl (by kernel_rfl) (by kernel_rfl) (by kernel_rfl) (fun _ _ _ h => h) (Or.inl ⟨by kernel_rfl, ?_⟩) ?_
    rotate_left
    · intro w; go_simp; first | done | with_reducible rfl
    refine wpAny_take (i := 4) (v := ?_) rfl (by kernel_rfl) (by kernel_rfl) (by kernel_rfl) (fun _ _ _ h => h) (Or.inl ⟨by kernel_rfl, ?_⟩) ?_
    rotate_left
    · intro w; go_simp; first | done | with_reducible rfl
    refine wpAny_take (i := 7) (v := ?_) rfl (by kernel_rfl) (by kernel_rfl) (by kernel_rfl) (fun _ _ _ h => h) (Or.inl ⟨by kernel_rfl, ?_⟩) ?_
    rotate_left
    · intro w; go_simp; first | done | with_reducible rfl
    refine wpAny_take (i := 8) (v := ?_) rfl (by kernel_rfl) (by kernel_rfl) (by kernel_rfl) (fun _ _ _ h => h) (Or.inl ⟨by kernel_rfl, ?_⟩) ?_
    rotate_left
    · intro w; go_simp; first | done | with_reducible rfl
    refine relist (l' := #[true, false, false, false, true, false, false, true, true, false, false, false, false, false]) (by kernel_rfl) ?_
    refine split #[true, true, true, true, true, true, true, true, true, true, true, true, true, false] (fun O => { tmps := #[.agg #[str s, str t, .int .i64 x, .int .i64 y], .int .i64 now, .pointer (some ⟨w.heap.size, 0, none⟩), undef, .pointer (some ⟨w.heap.size + 1, 0, none⟩), .pointer (some ⟨O, 0, none⟩), .pointer (some ⟨w.heap.size, 3, none⟩), .int .i64 y, str D, .string (⟨#[115]⟩ ++ ⟨D.toArray⟩), .pointer (some ⟨w.heap.size, 0, none⟩), str s, .string ⟨s.toArray⟩, .int .i64 now, .pointer (some ⟨w.heap.size, 3, none⟩), .int .i64 y, .int .i64 (y + 1), .agg #[.string (⟨#[115]⟩ ++ ⟨D.toArray⟩), .string ⟨s.toArray⟩, .int .i64 now, .int .i64 (y + 1)], undef, undef, undef, undef, undef, undef, undef], defers := [] }) 1 (fun X O => Below W.heap.size W X ∧ X.heap[O]? = some (.cells #[str [], str [], .int .i64 0, .int .i64 0] 25) ∧ W.heap.size ≤ O) ?_ (fun T1_2_5_6_9_12 => ?_)
    · rintro X O ⟨hX, hO, hW⟩
      obtain ⟨k0, k3, kz⟩ := HC.out X hX
      have HX := Lib.hid hX
      have HO := Lib.hid hO
      have HWO := Lib.hid hW
      clear hX hO hW
      obtain ⟨o0, o1, o2, o3, oz, of0, of1, of2, of3⟩ := fourF HO.out
      refine wpAny_ready (rs := [13]) (by kernel_rfl) (by simp) ?_
      refine AllReady.cons rfl (fun K hK => ?_) AllReady.nil
      go_simp
      refine hK _ _ ?_
      clear hK K
      refine wpAny_done (by kernel_rfl) ?_ _
      go_wp2_with fail
      go_meet
      refine ⟨O, rfl, ?_, HWO.out, ?_⟩
      · have e := setFour HO.out (.string (⟨#[115]⟩ ++ ⟨D.toArray⟩)) (.string ⟨s.toArray⟩) (.int .i64 now) (.int .i64 (y + 1))
        rw [cat] at e
        first | exact e | (rw [cat]; exact e)
      · exact (((HX.out.setCell HWO.out _).setCell HWO.out _).setCell HWO.out _).setCell HWO.out _
    refine split #[true, true, true, true, true, true, true, true, true, true, true, true, false, false] (fun O => { tmps := #[.agg #[str s, str t, .int .i64 x, .int .i64 y], .int .i64 now, .pointer (some ⟨w.heap.size, 0, none⟩), undef, .pointer (some ⟨w.heap.size + 1, 0, none⟩), undef, .pointer (some ⟨w.heap.size, 3, none⟩), .int .i64 y, str D, .string (⟨#[115]⟩ ++ ⟨D.toArray⟩), .pointer (some ⟨w.heap.size, 0, none⟩), str s, .string ⟨s.toArray⟩, .int .i64 now, .pointer (some ⟨w.heap.size, 3, none⟩), .int .i64 y, .int .i64 (y + 1), .agg #[.string (⟨#[115]⟩ ++ ⟨D.toArray⟩), .string ⟨s.toArray⟩, .int .i64 now, .int .i64 (y + 1)], undef, undef, undef, undef, undef, undef, undef], defers := [] }) 2 (fun X O => Below W.heap.size W X ∧ O = O ∧ True) ?_ (fun T1_2_5_6_9 => ?_)
    · rintro X O ⟨hX, hO, hW⟩
      obtain ⟨k0, k3, kz⟩ := HC.out X hX
      have HX := Lib.hid hX
      have HO := Lib.hid hO
      have HWO := Lib.hid hW
      clear hX hO hW
      refine wpAny_ready (rs := [12]) (by kernel_rfl) (by simp) ?_
      refine AllReady.cons rfl (fun K hK => ?_) AllReady.nil
      go_simp
      refine hK _ _ ?_
      clear hK K
      refine relist (l' := #[true, true, true, true, true, true, true, true, true, true, true, true, true, false]) (by kernel_rfl) ?_
      exact T1_2_5_6_9_12 _ X.heap.size ⟨(HX.out.trans ((glh.new1 X (.cells #[str [], str [], .int .i64 0, .int .i64 0] 25)).mono HX.out.size)), (heap_alloc_new X (.cells #[str [], str [], .int .i64 0, .int .i64 0] 25)), HX.out.size⟩
    refine split #[true, true, true, true, true, true, true, true, true, false, false, false, true, false] (fun O => { tmps := #[.agg #[str s, str t, .int .i64 x, .int .i64 y], .int .i64 now, .pointer (some ⟨w.heap.size, 0, none⟩), undef, .pointer (some ⟨w.heap.size + 1, 0, none⟩), .pointer (some ⟨O, 0, none⟩), .pointer (some ⟨w.heap.size, 3, none⟩), .int .i64 y, str D, .string (⟨#[115]⟩ ++ ⟨D.toArray⟩), .pointer (some ⟨w.heap.size, 0, none⟩), str s, .string ⟨s.toArray⟩, .int .i64 now, .pointer (some ⟨w.heap.size, 3, none⟩), undef, undef, undef, undef, undef, undef, undef, undef, undef, undef], defers := [] }) 4 (fun X O => Below W.heap.size W X ∧ X.heap[O]? = some (.cells #[str [], str [], .int .i64 0, .int .i64 0] 25) ∧ W.heap.size ≤ O) ?_ (fun T1_2_5_6_12 => ?_)
    · rintro X O ⟨hX, hO, hW⟩
      obtain ⟨k0, k3, kz⟩ := HC.out X hX
      have HX := Lib.hid hX
      have HO := Lib.hid hO
      have HWO := Lib.hid hW
      clear hX hO hW
      refine wpAny_ready (rs := [9]) (by kernel_rfl) (by simp) ?_
      refine AllReady.cons rfl (fun K hK => ?_) AllReady.nil
      go_simp
      refine hK _ _ ?_
      clear hK K
      refine wpAny_take (i := 10) (v := ?_) rfl (by kernel_rfl) (by kernel_rfl) (by kernel_rfl) (fun _ _ _ h => h) (Or.inl ⟨by kernel_rfl, ?_⟩) ?_
      rotate_left
      · intro w; go_simp; first | done | with_reducible rfl
      refine wpAny_take (i := 11) (v := ?_) rfl (by kernel_rfl) (by kernel_rfl) (by kernel_rfl) (fun _ _ _ h => h) (Or.inl ⟨by kernel_rfl, ?_⟩) ?_
      rotate_left
      · intro w; go_simp; first | done | with_reducible rfl
      refine relist (l' := #[true, true, true, true, true, true, true, true, true, true, true, true, true, false]) (by kernel_rfl) ?_
      exact T1_2_5_6_9_12 _ O ⟨HX.out, HO.out, HWO.out⟩
    refine split #[true, true, true, true, true, true, false, true, true, true, true, false, true, false] (fun O => { tmps := #[.agg #[str s, str t, .int .i64 x, .int .i64 y], .int .i64 now, .pointer (some ⟨w.heap.size, 0, none⟩), undef, .pointer (some ⟨w.heap.size + 1, 0, none⟩), .pointer (some ⟨O, 0, none⟩), .pointer (some ⟨w.heap.size, 3, none⟩), .int .i64 y, str D, .string (⟨#[115]⟩ ++ ⟨D.toArray⟩), .pointer (some ⟨w.heap.size, 0, none⟩), str s, undef, .int .i64 now, .pointer (some ⟨w.heap.size, 3, none⟩), .int .i64 y, .int .i64 (y + 1), undef, undef, undef, undef, undef, undef, undef, undef], defers := [] }) 3 (fun X O => Below W.heap.size W X ∧ X.heap[O]? = some (.cells #[str [], str [], .int .i64 0, .int .i64 0] 25) ∧ W.heap.size ≤ O) ?_ (fun T1_2_5_9_12 => ?_)
    · rintro X O ⟨hX, hO, hW⟩
      obtain ⟨k0, k3, kz⟩ := HC.out X hX
      have HX := Lib.hid hX
      have HO := Lib.hid hO
      have HWO := Lib.hid hW
      clear hX hO hW
      refine wpAny_ready (rs := [6]) (by kernel_rfl) (by simp) ?_
      refine AllReady.cons rfl (fun K hK => ?_) AllReady.nil
      go_simp
      refine (CL.out X).mono ?_
      rintro e x1 ⟨rfl, hb⟩
      refine hK _ _ ?_
      clear hK K
      refine wpAny_take (i := 11) (v := ?_) rfl (by kernel_rfl) (by kernel_rfl) (by kernel_rfl) (fun _ _ _ h => h) (Or.inl ⟨by kernel_rfl, ?_⟩) ?_
      rotate_left
      · intro w; go_simp; first | done | with_reducible rfl
      refine relist (l' := #[true, true, true, true, true, true, true, true, true, true, true, true, true, false]) (by kernel_rfl) ?_
      exact T1_2_5_6_9_12 _ O ⟨(HX.out.trans (hb.mono HX.out.size)), (glh.keptB HO.out hb), HWO.out⟩
    refine split #[true, true, true, true, true, true, true, true, true, false, false, false, false, false] (fun O => { tmps := #[.agg #[str s, str t, .int .i64 x, .int .i64 y], .int .i64 now, .pointer (some ⟨w.heap.size, 0, none⟩), undef, .pointer (some ⟨w.heap.size + 1, 0, none⟩), undef, .pointer (some ⟨w.heap.size, 3, none⟩), .int .i64 y, str D, .string (⟨#[115]⟩ ++ ⟨D.toArray⟩), .pointer (some ⟨w.heap.size, 0, none⟩), str s, .string ⟨s.toArray⟩, .int .i64 now, .pointer (some ⟨w.heap.size, 3, none⟩), undef, undef, undef, undef, undef, undef, undef, undef, undef, undef], defers := [] }) 5 (fun X O => Below W.heap.size W X ∧ O = O ∧ True) ?_ (fun T1_2_5_6 => ?_)
    · rintro X O ⟨hX, hO, hW⟩
      obtain ⟨k0, k3, kz⟩ := HC.out X hX
      have HX := Lib.hid hX
      have HO := Lib.hid hO
      have HWO := Lib.hid hW
      clear hX hO hW
      refine wpAny_ready (rs := [9, 12]) (by kernel_rfl) (by simp) ?_
      refine AllReady.cons rfl (fun K hK => ?_) (AllReady.cons rfl (fun K hK => ?_) AllReady.nil)
      · go_simp
        refine hK _ _ ?_
        clear hK K
        refine wpAny_take (i := 10) (v := ?_) rfl (by kernel_rfl) (by kernel_rfl) (by kernel_rfl) (fun _ _ _ h => h) (Or.inl ⟨by kernel_rfl, ?_⟩) ?_
        rotate_left
        · intro w; go_simp; first | done | with_reducible rfl
        refine wpAny_take (i := 11) (v := ?_) rfl (by kernel_rfl) (by kernel_rfl) (by kernel_rfl) (fun _ _ _ h => h) (Or.inl ⟨by kernel_rfl, ?_⟩) ?_
        rotate_left
        · intro w; go_simp; first | done | with_reducible rfl
        refine relist (l' := #[true, true, true, true, true, true, true, true, true, true, true, true, false, false]) (by kernel_rfl) ?_
        exact T1_2_5_6_9 _ O ⟨HX.out, rfl, trivial⟩
      · go_simp
        refine hK _ _ ?_
        clear hK K
        refine relist (l' := #[true, true, true, true, true, true, true, true, true, false, false, false, true, false]) (by kernel_rfl) ?_
        exact T1_2_5_6_12 _ X.heap.size ⟨(HX.out.trans ((glh.new1 X (.cells #[str [], str [], .int .i64 0, .int .i64 0] 25)).mono HX.out.size)), (heap_alloc_new X (.cells #[str [], str [], .int .i64 0, .int .i64 0] 25)), HX.out.size⟩
    refine split #[true, true, true, true, true, true, false, true, true, true, true, false, false, false] (fun O => { tmps := #[.agg #[str s, str t, .int .i64 x, .int .i64 y], .int .i64 now, .pointer (some ⟨w.heap.size, 0, none⟩), undef, .pointer (some ⟨w.heap.size + 1, 0, none⟩), undef, .pointer (some ⟨w.heap.size, 3, none⟩), .int .i64 y, str D, .string (⟨#[115]⟩ ++ ⟨D.toArray⟩), .pointer (some ⟨w.heap.size, 0, none⟩), str s, undef, .int .i64 now, .pointer (some ⟨w.heap.size, 3, none⟩), .int .i64 y, .int .i64 (y + 1), undef, undef, undef, undef, undef, undef, undef, undef], defers := [] }) 4 (fun X O => Below W.heap.size W X ∧ O = O ∧ True) ?_ (fun T1_2_5_9 => ?_)
    · rintro X O ⟨hX, hO, hW⟩
      obtain ⟨k0, k3, kz⟩ := HC.out X hX
      have HX := Lib.hid hX
      have HO := Lib.hid hO
      have HWO := Lib.hid hW
      clear hX hO hW
      refine wpAny_ready (rs := [6, 12]) (by kernel_rfl) (by simp) ?_
      refine AllReady.cons rfl (fun K hK => ?_) (AllReady.cons rfl (fun K hK => ?_) AllReady.nil)
      · go_simp
        refine (CL.out X).mono ?_
        rintro e x1 ⟨rfl, hb⟩
        refine hK _ _ ?_
        clear hK K
        refine wpAny_take (i := 11) (v := ?_) rfl (by kernel_rfl) (by kernel_rfl) (by kernel_rfl) (fun _ _ _ h => h) (Or.inl ⟨by kernel_rfl, ?_⟩) ?_
        rotate_left
        · intro w; go_simp; first | done | with_reducible rfl
        refine relist (l' := #[true, true, true, true, true, true, true, true, true, true, true, true, false, false]) (by kernel_rfl) ?_
        exact T1_2_5_6_9 _ O ⟨(HX.out.trans (hb.mono HX.out.size)), rfl, trivial⟩
      · go_simp
        refine hK _ _ ?_
        clear hK K
        refine relist (l' := #[true, true, true, true, true, true, false, true, true, true, true, false, true, false]) (by kernel_rfl) ?_
        exact T1_2_5_9_12 _ X.heap.size ⟨(HX.out.trans ((glh.new1 X (.cells #[str [], str [], .int .i64 0, .int .i64 0] 25)).mono HX.out.size)), (heap_alloc_new X (.cells #[str [], str [], .int .i64 0, .int .i64 0] 25)), HX.out.size⟩
    refine split #[true, true, true, true, true, true, false, true, true, false, false, false, true, false] (fun O => { tmps := #[.agg #[str s, str t, .int .i64 x, .int .i64 y], .int .i64 now, .pointer (some ⟨w.heap.size, 0, none⟩), undef, .pointer (some ⟨w.heap.size + 1, 0, none⟩), .pointer (some ⟨O, 0, none⟩), .pointer (some ⟨w.heap.size, 3, none⟩), .int .i64 y, str D, .string (⟨#[115]⟩ ++ ⟨D.toArray⟩), .pointer (some ⟨w.heap.size, 0, none⟩), str s, undef, .int .i64 now, .pointer (some ⟨w.heap.size, 3, none⟩), undef, undef, undef, undef, undef, undef, undef, undef, undef, undef], defers := [] }) 5 (fun X O => Below W.heap.size W X ∧ X.heap[O]? = some (.cells #[str [], str [], .int .i64 0, .int .i64 0] 25) ∧ W.heap.size ≤ O) ?_ (fun T1_2_5_12 => ?_)
    · rintro X O ⟨hX, hO, hW⟩
      obtain ⟨k0, k3, kz⟩ := HC.out X hX
      have HX := Lib.hid hX
      have HO := Lib.hid hO
      have HWO := Lib.hid hW
      clear hX hO hW
      refine wpAny_ready (rs := [6, 9]) (by kernel_rfl) (by simp) ?_
      refine AllReady.cons rfl (fun K hK => ?_) (AllReady.cons rfl (fun K hK => ?_) AllReady.nil)
      · go_simp
        refine (CL.out X).mono ?_
        rintro e x1 ⟨rfl, hb⟩
        refine hK _ _ ?_
        clear hK K
        refine relist (l' := #[true, true, true, true, true, true, true, true, true, false, false, false, true, false]) (by kernel_rfl) ?_
        exact T1_2_5_6_12 _ O ⟨(HX.out.trans (hb.mono HX.out.size)), (glh.keptB HO.out hb), HWO.out⟩
      · go_simp
        refine hK _ _ ?_
        clear hK K
        refine wpAny_take (i := 10) (v := ?_) rfl (by kernel_rfl) (by kernel_rfl) (by kernel_rfl) (fun _ _ _ h => h) (Or.inl ⟨by kernel_rfl, ?_⟩) ?_
        rotate_left
        · intro w; go_simp; first | done | with_reducible rfl
        refine relist (l' := #[true, true, true, true, true, true, false, true, true, true, true, false, true, false]) (by kernel_rfl) ?_
        exact T1_2_5_9_12 _ O ⟨HX.out, HO.out, HWO.out⟩
    refine split #[true, true, true, true, true, false, false, true, true, true, true, false, true, false] (fun O => { tmps := #[.agg #[str s, str t, .int .i64 x, .int .i64 y], .int .i64 now, .pointer (some ⟨w.heap.size, 0, none⟩), undef, .pointer (some ⟨w.heap.size + 1, 0, none⟩), .pointer (some ⟨O, 0, none⟩), .pointer (some ⟨w.heap.size, 3, none⟩), .int .i64 y, str D, .string (⟨#[115]⟩ ++ ⟨D.toArray⟩), .pointer (some ⟨w.heap.size, 0, none⟩), undef, undef, .int .i64 now, .pointer (some ⟨w.heap.size, 3, none⟩), .int .i64 y, .int .i64 (y + 1), undef, undef, undef, undef, undef, undef, undef, undef], defers := [] }) 4 (fun X O => Below W.heap.size W X ∧ X.heap[O]? = some (.cells #[str [], str [], .int .i64 0, .int .i64 0] 25) ∧ W.heap.size ≤ O) ?_ (fun T1_2_9_12 => ?_)
    · rintro X O ⟨hX, hO, hW⟩
      obtain ⟨k0, k3, kz⟩ := HC.out X hX
      have HX := Lib.hid hX
      have HO := Lib.hid hO
      have HWO := Lib.hid hW
      clear hX hO hW
      refine wpAny_ready (rs := [5]) (by kernel_rfl) (by simp) ?_
      refine AllReady.cons rfl (fun K hK => ?_) AllReady.nil
      go_simp
      refine hK _ _ ?_
      clear hK K
      refine relist (l' := #[true, true, true, true, true, true, false, true, true, true, true, false, true, false]) (by kernel_rfl) ?_
      exact T1_2_5_9_12 _ O ⟨HX.out, HO.out, HWO.out⟩
    refine split #[true, true, false, false, true, true, false, true, true, true, true, false, true, false] (fun O => { tmps := #[.agg #[str s, str t, .int .i64 x, .int .i64 y], .int .i64 now, .pointer (some ⟨w.heap.size, 0, none⟩), undef, .pointer (some ⟨w.heap.size + 1, 0, none⟩), .pointer (some ⟨O, 0, none⟩), .pointer (some ⟨w.heap.size, 3, none⟩), .int .i64 y, undef, undef, .pointer (some ⟨w.heap.size, 0, none⟩), str s, undef, .int .i64 now, .pointer (some ⟨w.heap.size, 3, none⟩), .int .i64 y, .int .i64 (y + 1), undef, undef, undef, undef, undef, undef, undef, undef], defers := [] }) 5 (fun X O => Below W.heap.size W X ∧ X.heap[O]? = some (.cells #[str [], str [], .int .i64 0, .int .i64 0] 25) ∧ W.heap.size ≤ O) ?_ (fun T1_5_9_12 => ?_)
    · rintro X O ⟨hX, hO, hW⟩
      obtain ⟨k0, k3, kz⟩ := HC.out X hX
      have HX := Lib.hid hX
      have HO := Lib.hid hO
      have HWO := Lib.hid hW
      clear hX hO hW
      refine wpAny_ready (rs := [2]) (by kernel_rfl) (by simp) ?_
      refine AllReady.cons rfl (fun K hK => ?_) AllReady.nil
      go_simp
      refine (DG2.out X HX.out).mono ?_
      rintro e x1 ⟨rfl, hb⟩
      refine hK _ _ ?_
      clear hK K
      refine wpAny_take (i := 3) (v := .string (⟨#[115]⟩ ++ ⟨D.toArray⟩)) rfl (by kernel_rfl) (by kernel_rfl) (by kernel_rfl) (fun _ _ _ h => h) (Or.inl ⟨by kernel_rfl, ?_⟩) ?_
      · intro w; go_simp; omega
      refine relist (l' := #[true, true, true, true, true, true, false, true, true, true, true, false, true, false]) (by kernel_rfl) ?_
      exact T1_2_5_9_12 _ O ⟨(HX.out.trans (hb.mono HX.out.size)), (glh.keptB HO.out hb), HWO.out⟩
    refine split #[true, true, true, true, true, true, false, true, true, false, false, false, false, false] (fun O => { tmps := #[.agg #[str s, str t, .int .i64 x, .int .i64 y], .int .i64 now, .pointer (some ⟨w.heap.size, 0, none⟩), undef, .pointer (some ⟨w.heap.size + 1, 0, none⟩), undef, .pointer (some ⟨w.heap.size, 3, none⟩), .int .i64 y, str D, .string (⟨#[115]⟩ ++ ⟨D.toArray⟩), .pointer (some ⟨w.heap.size, 0, none⟩), str s, undef, .int .i64 now, .pointer (some ⟨w.heap.size, 3, none⟩), undef, undef, undef, undef, undef, undef, undef, undef, undef, undef], defers := [] }) 6 (fun X O => Below W.heap.size W X ∧ O = O ∧ True) ?_ (fun T1_2_5 => ?_)
    · rintro X O ⟨hX, hO, hW⟩
      obtain ⟨k0, k3, kz⟩ := HC.out X hX
      have HX := Lib.hid hX
      have HO := Lib.hid hO
      have HWO := Lib.hid hW
      clear hX hO hW
      refine wpAny_ready (rs := [6, 9, 12]) (by kernel_rfl) (by simp) ?_
      refine AllReady.cons rfl (fun K hK => ?_) (AllReady.cons rfl (fun K hK => ?_) (AllReady.cons rfl (fun K hK => ?_) AllReady.nil))
      · go_simp
        refine (CL.out X).mono ?_
        rintro e x1 ⟨rfl, hb⟩
        refine hK _ _ ?_
        clear hK K
        refine relist (l' := #[true, true, true, true, true, true, true, true, true, false, false, false, false, false]) (by kernel_rfl) ?_
        exact T1_2_5_6 _ O ⟨(HX.out.trans (hb.mono HX.out.size)), rfl, trivial⟩
      · go_simp
        refine hK _ _ ?_
        clear hK K
        refine wpAny_take (i := 10) (v := ?_) rfl (by kernel_rfl) (by kernel_rfl) (by kernel_rfl) (fun _ _ _ h => h) (Or.inl ⟨by kernel_rfl, ?_⟩) ?_
        rotate_left
        · intro w; go_simp; first | done | with_reducible rfl
        refine relist (l' := #[true, true, true, true, true, true, false, true, true, true, true, false, false, false]) (by kernel_rfl) ?_
        exact T1_2_5_9 _ O ⟨HX.out, rfl, trivial⟩
      · go_simp
        refine hK _ _ ?_
        clear hK K
        refine relist (l' := #[true, true, true, true, true, true, false, true, true, false, false, false, true, false]) (by kernel_rfl) ?_
        exact T1_2_5_12 _ X.heap.size ⟨(HX.out.trans ((glh.new1 X (.cells #[str [], str [], .int .i64 0, .int .i64 0] 25)).mono HX.out.size)), (heap_alloc_new X (.cells #[str [], str [], .int .i64 0, .int .i64 0] 25)), HX.out.size⟩
    refine split #[true, true, true, true, true, false, false, true, true, true, true, false, false, false] (fun O => { tmps := #[.agg #[str s, str t, .int .i64 x, .int .i64 y], .int .i64 now, .pointer (some ⟨w.heap.size, 0, none⟩), undef, .pointer (some ⟨w.heap.size + 1, 0, none⟩), undef, .pointer (some ⟨w.heap.size, 3, none⟩), .int .i64 y, str D, .string (⟨#[115]⟩ ++ ⟨D.toArray⟩), .pointer (some ⟨w.heap.size, 0, none⟩), undef, undef, .int .i64 now, .pointer (some ⟨w.heap.size, 3, none⟩), .int .i64 y, .int .i64 (y + 1), undef, undef, undef, undef, undef, undef, undef, undef], defers := [] }) 5 (fun X O => Below W.heap.size W X ∧ O = O ∧ True) ?_ (fun T1_2_9 => ?_)
    · rintro X O ⟨hX, hO, hW⟩
      obtain ⟨k0, k3, kz⟩ := HC.out X hX
      have HX := Lib.hid hX
      have HO := Lib.hid hO
      have HWO := Lib.hid hW
      clear hX hO hW
      refine wpAny_ready (rs := [5, 12]) (by kernel_rfl) (by simp) ?_
      refine AllReady.cons rfl (fun K hK => ?_) (AllReady.cons rfl (fun K hK => ?_) AllReady.nil)
      · go_simp
        refine hK _ _ ?_
        clear hK K
        refine relist (l' := #[true, true, true, true, true, true, false, true, true, true, true, false, false, false]) (by kernel_rfl) ?_
        exact T1_2_5_9 _ O ⟨HX.out, rfl, trivial⟩
      · go_simp
        refine hK _ _ ?_
        clear hK K
        refine relist (l' := #[true, true, true, true, true, false, false, true, true, true, true, false, true, false]) (by kernel_rfl) ?_
        exact T1_2_9_12 _ X.heap.size ⟨(HX.out.trans ((glh.new1 X (.cells #[str [], str [], .int .i64 0, .int .i64 0] 25)).mono HX.out.size)), (heap_alloc_new X (.cells #[str [], str [], .int .i64 0, .int .i64 0] 25)), HX.out.size⟩
    refine split #[true, true, true, true, true, false, false, true, true, false, false, false, true, false] (fun O => { tmps := #[.agg #[str s, str t, .int .i64 x, .int .i64 y], .int .i64 now, .pointer (some ⟨w.heap.size, 0, none⟩), undef, .pointer (some ⟨w.heap.size + 1, 0, none⟩), .pointer (some ⟨O, 0, none⟩), .pointer (some ⟨w.heap.size, 3, none⟩), .int .i64 y, str D, .string (⟨#[115]⟩ ++ ⟨D.toArray⟩), .pointer (some ⟨w.heap.size, 0, none⟩), undef, undef, .int .i64 now, .pointer (some ⟨w.heap.size, 3, none⟩), undef, undef, undef, undef, undef, undef, undef, undef, undef, undef], defers := [] }) 6 (fun X O => Below W.heap.size W X ∧ X.heap[O]? = some (.cells #[str [], str [], .int .i64 0, .int .i64 0] 25) ∧ W.heap.size ≤ O) ?_ (fun T1_2_12 => ?_)
    · rintro X O ⟨hX, hO, hW⟩
      obtain ⟨k0, k3, kz⟩ := HC.out X hX
      have HX := Lib.hid hX
      have HO := Lib.hid hO
      have HWO := Lib.hid hW
      clear hX hO hW
      refine wpAny_ready (rs := [5, 9]) (by kernel_rfl) (by simp) ?_
      refine AllReady.cons rfl (fun K hK => ?_) (AllReady.cons rfl (fun K hK => ?_) AllReady.nil)
      · go_simp
        refine hK _ _ ?_
        clear hK K
        refine relist (l' := #[true, true, true, true, true, true, false, true, true, false, false, false, true, false]) (by kernel_rfl) ?_
        exact T1_2_5_12 _ O ⟨HX.out, HO.out, HWO.out⟩
      · go_simp
        refine hK _ _ ?_
        clear hK K
        refine wpAny_take (i := 10) (v := ?_) rfl (by kernel_rfl) (by kernel_rfl) (by kernel_rfl) (fun _ _ _ h => h) (Or.inl ⟨by kernel_rfl, ?_⟩) ?_
        rotate_left
        · intro w; go_simp; first | done | with_reducible rfl
        refine relist (l' := #[true, true, true, true, true, false, false, true, true, true, true, false, true, false]) (by kernel_rfl) ?_
        exact T1_2_9_12 _ O ⟨HX.out, HO.out, HWO.out⟩
    refine split #[true, true, false, false, true, true, false, true, true, true, true, false, false, false] (fun O => { tmps := #[.agg #[str s, str t, .int .i64 x, .int .i64 y], .int .i64 now, .pointer (some ⟨w.heap.size, 0, none⟩), undef, .pointer (some ⟨w.heap.size + 1, 0, none⟩), undef, .pointer (some ⟨w.heap.size, 3, none⟩), .int .i64 y, undef, undef, .pointer (some ⟨w.heap.size, 0, none⟩), str s, undef, .int .i64 now, .pointer (some ⟨w.heap.size, 3, none⟩), .int .i64 y, .int .i64 (y + 1), undef, undef, undef, undef, undef, undef, undef, undef], defers := [] }) 6 (fun X O => Below W.heap.size W X ∧ O = O ∧ True) ?_ (fun T1_5_9 => ?_)
    · rintro X O ⟨hX, hO, hW⟩
      obtain ⟨k0, k3, kz⟩ := HC.out X hX
      have HX := Lib.hid hX
      have HO := Lib.hid hO
      have HWO := Lib.hid hW
      clear hX hO hW
      refine wpAny_ready (rs := [2, 12]) (by kernel_rfl) (by simp) ?_
      refine AllReady.cons rfl (fun K hK => ?_) (AllReady.cons rfl (fun K hK => ?_) AllReady.nil)
      · go_simp
        refine (DG2.out X HX.out).mono ?_
        rintro e x1 ⟨rfl, hb⟩
        refine hK _ _ ?_
        clear hK K
        refine wpAny_take (i := 3) (v := .string (⟨#[115]⟩ ++ ⟨D.toArray⟩)) rfl (by kernel_rfl) (by kernel_rfl) (by kernel_rfl) (fun _ _ _ h => h) (Or.inl ⟨by kernel_rfl, ?_⟩) ?_
        · intro w; go_simp; omega
        refine relist (l' := #[true, true, true, true, true, true, false, true, true, true, true, false, false, false]) (by kernel_rfl) ?_
        exact T1_2_5_9 _ O ⟨(HX.out.trans (hb.mono HX.out.size)), rfl, trivial⟩
      · go_simp
        refine hK _ _ ?_
        clear hK K
        refine relist (l' := #[true, true, false, false, true, true, false, true, true, true, true, false, true, false]) (by kernel_rfl) ?_
        exact T1_5_9_12 _ X.heap.size ⟨(HX.out.trans ((glh.new1 X (.cells #[str [], str [], .int .i64 0, .int .i64 0] 25)).mono HX.out.size)), (heap_alloc_new X (.cells #[str [], str [], .int .i64 0, .int .i64 0] 25)), HX.out.size⟩
    refine split #[true, true, false, false, true, true, false, true, true, false, false, false, true, false] (fun O => { tmps := #[.agg #[str s, str t, .int .i64 x, .int .i64 y], .int .i64 now, .pointer (some ⟨w.heap.size, 0, none⟩), undef, .pointer (some ⟨w.heap.size + 1, 0, none⟩), .pointer (some ⟨O, 0, none⟩), .pointer (some ⟨w.heap.size, 3, none⟩), .int .i64 y, undef, undef, .pointer (some ⟨w.heap.size, 0, none⟩), str s, undef, .int .i64 now, .pointer (some ⟨w.heap.size, 3, none⟩), undef, undef, undef, undef, undef, undef, undef, undef, undef, undef], defers := [] }) 7 (fun X O => Below W.heap.size W X ∧ X.heap[O]? = some (.cells #[str [], str [], .int .i64 0, .int .i64 0] 25) ∧ W.heap.size ≤ O) ?_ (fun T1_5_12 => ?_)
    · rintro X O ⟨hX, hO, hW⟩
      obtain ⟨k0, k3, kz⟩ := HC.out X hX
      have HX := Lib.hid hX
      have HO := Lib.hid hO
      have HWO := Lib.hid hW
      clear hX hO hW
      refine wpAny_ready (rs := [2, 9]) (by kernel_rfl) (by simp) ?_
      refine AllReady.cons rfl (fun K hK => ?_) (AllReady.cons rfl (fun K hK => ?_) AllReady.nil)
      · go_simp
        refine (DG2.out X HX.out).mono ?_
        rintro e x1 ⟨rfl, hb⟩
        refine hK _ _ ?_
        clear hK K
        refine wpAny_take (i := 3) (v := .string (⟨#[115]⟩ ++ ⟨D.toArray⟩)) rfl (by kernel_rfl) (by kernel_rfl) (by kernel_rfl) (fun _ _ _ h => h) (Or.inl ⟨by kernel_rfl, ?_⟩) ?_
        · intro w; go_simp; omega
        refine relist (l' := #[true, true, true, true, true, true, false, true, true, false, false, false, true, false]) (by kernel_rfl) ?_
        exact T1_2_5_12 _ O ⟨(HX.out.trans (hb.mono HX.out.size)), (glh.keptB HO.out hb), HWO.out⟩
      · go_simp
        refine hK _ _ ?_
        clear hK K
        refine wpAny_take (i := 10) (v := ?_) rfl (by kernel_rfl) (by kernel_rfl) (by kernel_rfl) (fun _ _ _ h => h) (Or.inl ⟨by kernel_rfl, ?_⟩) ?_
        rotate_left
        · intro w; go_simp; first | done | with_reducible rfl
        refine relist (l' := #[true, true, false, false, true, true, false, true, true, true, true, false, true, false]) (by kernel_rfl) ?_
        exact T1_5_9_12 _ O ⟨HX.out, HO.out, HWO.out⟩
    refine split #[true, true, false, false, true, false, false, true, true, true, true, false, true, false] (fun O => { tmps := #[.agg #[str s, str t, .int .i64 x, .int .i64 y], .int .i64 now, .pointer (some ⟨w.heap.size, 0, none⟩), undef, .pointer (some ⟨w.heap.size + 1, 0, none⟩), .pointer (some ⟨O, 0, none⟩), .pointer (some ⟨w.heap.size, 3, none⟩), .int .i64 y, undef, undef, .pointer (some ⟨w.heap.size, 0, none⟩), undef, undef, .int .i64 now, .pointer (some ⟨w.heap.size, 3, none⟩), .int .i64 y, .int .i64 (y + 1), undef, undef, undef, undef, undef, undef, undef, undef], defers := [] }) 6 (fun X O => Below W.heap.size W X ∧ X.heap[O]? = some (.cells #[str [], str [], .int .i64 0, .int .i64 0] 25) ∧ W.heap.size ≤ O) ?_ (fun T1_9_12 => ?_)
    · rintro X O ⟨hX, hO, hW⟩
      obtain ⟨k0, k3, kz⟩ := HC.out X hX
      have HX := Lib.hid hX
      have HO := Lib.hid hO
      have HWO := Lib.hid hW
      clear hX hO hW
      refine wpAny_ready (rs := [2, 5]) (by kernel_rfl) (by simp) ?_
      refine AllReady.cons rfl (fun K hK => ?_) (AllReady.cons rfl (fun K hK => ?_) AllReady.nil)
      · go_simp
        refine (DG2.out X HX.out).mono ?_
        rintro e x1 ⟨rfl, hb⟩
        refine hK _ _ ?_
        clear hK K
        refine wpAny_take (i := 3) (v := .string (⟨#[115]⟩ ++ ⟨D.toArray⟩)) rfl (by kernel_rfl) (by kernel_rfl) (by kernel_rfl) (fun _ _ _ h => h) (Or.inl ⟨by kernel_rfl, ?_⟩) ?_
        · intro w; go_simp; omega
        refine relist (l' := #[true, true, true, true, true, false, false, true, true, true, true, false, true, false]) (by kernel_rfl) ?_
        exact T1_2_9_12 _ O ⟨(HX.out.trans (hb.mono HX.out.size)), (glh.keptB HO.out hb), HWO.out⟩
      · go_simp
        refine hK _ _ ?_
        clear hK K
        refine relist (l' := #[true, true, false, false, true, true, false, true, true, true, true, false, true, false]) (by kernel_rfl) ?_
        exact T1_5_9_12 _ O ⟨HX.out, HO.out, HWO.out⟩
    refine split #[true, false, false, false, true, true, false, true, true, true, true, false, true, false] (fun O => { tmps := #[.agg #[str s, str t, .int .i64 x, .int .i64 y], .int .i64 now, .pointer (some ⟨w.heap.size, 0, none⟩), undef, .pointer (some ⟨w.heap.size + 1, 0, none⟩), .pointer (some ⟨O, 0, none⟩), .pointer (some ⟨w.heap.size, 3, none⟩), undef, undef, undef, .pointer (some ⟨w.heap.size, 0, none⟩), str s, undef, .int .i64 now, .pointer (some ⟨w.heap.size, 3, none⟩), .int .i64 y, .int .i64 (y + 1), undef, undef, undef, undef, undef, undef, undef, undef], defers := [] }) 6 (fun X O => Below W.heap.size W X ∧ X.heap[O]? = some (.cells #[str [], str [], .int .i64 0, .int .i64 0] 25) ∧ W.heap.size ≤ O) ?_ (fun T5_9_12 => ?_)
    · rintro X O ⟨hX, hO, hW⟩
      obtain ⟨k0, k3, kz⟩ := HC.out X hX
      have HX := Lib.hid hX
      have HO := Lib.hid hO
      have HWO := Lib.hid hW
      clear hX hO hW
      refine wpAny_ready (rs := [1]) (by kernel_rfl) (by simp) ?_
      refine AllReady.cons rfl (fun K hK => ?_) AllReady.nil
      go_simp
      refine hK _ _ ?_
      clear hK K
      refine relist (l' := #[true, true, false, false, true, true, false, true, true, true, true, false, true, false]) (by kernel_rfl) ?_
      exact T1_5_9_12 _ O ⟨HX.out, HO.out, HWO.out⟩
    refine split #[true, true, true, true, true, false, false, true, true, false, false, false, false, false] (fun O => { tmps := #[.agg #[str s, str t, .int .i64 x, .int .i64 y], .int .i64 now, .pointer (some ⟨w.heap.size, 0, none⟩), undef, .pointer (some ⟨w.heap.size + 1, 0, none⟩), undef, .pointer (some ⟨w.heap.size, 3, none⟩), .int .i64 y, str D, .string (⟨#[115]⟩ ++ ⟨D.toArray⟩), .pointer (some ⟨w.heap.size, 0, none⟩), undef, undef, .int .i64 now, .pointer (some ⟨w.heap.size, 3, none⟩), undef, undef, undef, undef, undef, undef, undef, undef, undef, undef], defers := [] }) 7 (fun X O => Below W.heap.size W X ∧ O = O ∧ True) ?_ (fun T1_2 => ?_)
    · rintro X O ⟨hX, hO, hW⟩
      obtain ⟨k0, k3, kz⟩ := HC.out X hX
      have HX := Lib.hid hX
      have HO := Lib.hid hO
      have HWO := Lib.hid hW
      clear hX hO hW
      refine wpAny_ready (rs := [5, 9, 12]) (by kernel_rfl) (by simp) ?_
      refine AllReady.cons rfl (fun K hK => ?_) (AllReady.cons rfl (fun K hK => ?_) (AllReady.cons rfl (fun K hK => ?_) AllReady.nil))
      · go_simp
        refine hK _ _ ?_
        clear hK K
        refine relist (l' := #[true, true, true, true, true, true, false, true, true, false, false, false, false, false]) (by kernel_rfl) ?_
        exact T1_2_5 _ O ⟨HX.out, rfl, trivial⟩
      · go_simp
        refine hK _ _ ?_
        clear hK K
        refine wpAny_take (i := 10) (v := ?_) rfl (by kernel_rfl) (by kernel_rfl) (by kernel_rfl) (fun _ _ _ h => h) (Or.inl ⟨by kernel_rfl, ?_⟩) ?_
        rotate_left
        · intro w; go_simp; first | done | with_reducible rfl
        refine relist (l' := #[true, true, true, true, true, false, false, true, true, true, true, false, false, false]) (by kernel_rfl) ?_
        exact T1_2_9 _ O ⟨HX.out, rfl, trivial⟩
      · go_simp
        refine hK _ _ ?_
        clear hK K
        refine relist (l' := #[true, true, true, true, true, false, false, true, true, false, false, false, true, false]) (by kernel_rfl) ?_
        exact T1_2_12 _ X.heap.size ⟨(HX.out.trans ((glh.new1 X (.cells #[str [], str [], .int .i64 0, .int .i64 0] 25)).mono HX.out.size)), (heap_alloc_new X (.cells #[str [], str [], .int .i64 0, .int .i64 0] 25)), HX.out.size⟩
    refine split #[true, true, false, false, true, true, false, true, true, false, false, false, false, false] (fun O => { tmps := #[.agg #[str s, str t, .int .i64 x, .int .i64 y], .int .i64 now, .pointer (some ⟨w.heap.size, 0, none⟩), undef, .pointer (some ⟨w.heap.size + 1, 0, none⟩), undef, .pointer (some ⟨w.heap.size, 3, none⟩), .int .i64 y, undef, undef, .pointer (some ⟨w.heap.size, 0, none⟩), str s, undef, .int .i64 now, .pointer (some ⟨w.heap.size, 3, none⟩), undef, undef, undef, undef, undef, undef, undef, undef, undef, undef], defers := [] }) 8 (fun X O => Below W.heap.size W X ∧ O = O ∧ True) ?_ (fun T1_5 => ?_)
    · rintro X O ⟨hX, hO, hW⟩
      obtain ⟨k0, k3, kz⟩ := HC.out X hX
      have HX := Lib.hid hX
      have HO := Lib.hid hO
      have HWO := Lib.hid hW
      clear hX hO hW
      refine wpAny_ready (rs := [2, 9, 12]) (by kernel_rfl) (by simp) ?_
      refine AllReady.cons rfl (fun K hK => ?_) (AllReady.cons rfl (fun K hK => ?_) (AllReady.cons rfl (fun K hK => ?_) AllReady.nil))
      · go_simp
        refine (DG2.out X HX.out).mono ?_
        rintro e x1 ⟨rfl, hb⟩
        refine hK _ _ ?_
        clear hK K
        refine wpAny_take (i := 3) (v := .string (⟨#[115]⟩ ++ ⟨D.toArray⟩)) rfl (by kernel_rfl) (by kernel_rfl) (by kernel_rfl) (fun _ _ _ h => h) (Or.inl ⟨by kernel_rfl, ?_⟩) ?_
        · intro w; go_simp; omega
        refine relist (l' := #[true, true, true, true, true, true, false, true, true, false, false, false, false, false]) (by kernel_rfl) ?_
        exact T1_2_5 _ O ⟨(HX.out.trans (hb.mono HX.out.size)), rfl, trivial⟩
      · go_simp
        refine hK _ _ ?_
        clear hK K
        refine wpAny_take (i := 10) (v := ?_) rfl (by kernel_rfl) (by kernel_rfl) (by kernel_rfl) (fun _ _ _ h => h) (Or.inl ⟨by kernel_rfl, ?_⟩) ?_
        rotate_left
        · intro w; go_simp; first | done | with_reducible rfl
        refine relist (l' := #[true, true, false, false, true, true, false, true, true, true, true, false, false, false]) (by kernel_rfl) ?_
        exact T1_5_9 _ O ⟨HX.out, rfl, trivial⟩
      · go_simp
        refine hK _ _ ?_
        clear hK K
        refine relist (l' := #[true, true, false, false, true, true, false, true, true, false, false, false, true, false]) (by kernel_rfl) ?_
        exact T1_5_12 _ X.heap.size ⟨(HX.out.trans ((glh.new1 X (.cells #[str [], str [], .int .i64 0, .int .i64 0] 25)).mono HX.out.size)), (heap_alloc_new X (.cells #[str [], str [], .int .i64 0, .int .i64 0] 25)), HX.out.size⟩
    refine split #[true, true, false, false, true, false, false, true, true, true, true, false, false, false] (fun O => { tmps := #[.agg #[str s, str t, .int .i64 x, .int .i64 y], .int .i64 now, .pointer (some ⟨w.heap.size, 0, none⟩), undef, .pointer (some ⟨w.heap.size + 1, 0, none⟩), undef, .pointer (some ⟨w.heap.size, 3, none⟩), .int .i64 y, undef, undef, .pointer (some ⟨w.heap.size, 0, none⟩), undef, undef, .int .i64 now, .pointer (some ⟨w.heap.size, 3, none⟩), .int .i64 y, .int .i64 (y + 1), undef, undef, undef, undef, undef, undef, undef, undef], defers := [] }) 7 (fun X O => Below W.heap.size W X ∧ O = O ∧ True) ?_ (fun T1_9 => ?_)
    · rintro X O ⟨hX, hO, hW⟩
      obtain ⟨k0, k3, kz⟩ := HC.out X hX
      have HX := Lib.hid hX
      have HO := Lib.hid hO
      have HWO := Lib.hid hW
      clear hX hO hW
      refine wpAny_ready (rs := [2, 5, 12]) (by kernel_rfl) (by simp) ?_
      refine AllReady.cons rfl (fun K hK => ?_) (AllReady.cons rfl (fun K hK => ?_) (AllReady.cons rfl (fun K hK => ?_) AllReady.nil))
      · go_simp
        refine (DG2.out X HX.out).mono ?_
        rintro e x1 ⟨rfl, hb⟩
        refine hK _ _ ?_
        clear hK K
        refine wpAny_take (i := 3) (v := .string (⟨#[115]⟩ ++ ⟨D.toArray⟩)) rfl (by kernel_rfl) (by kernel_rfl) (by kernel_rfl) (fun _ _ _ h => h) (Or.inl ⟨by kernel_rfl, ?_⟩) ?_
        · intro w; go_simp; omega
        refine relist (l' := #[true, true, true, true, true, false, false, true, true, true, true, false, false, false]) (by kernel_rfl) ?_
        exact T1_2_9 _ O ⟨(HX.out.trans (hb.mono HX.out.size)), rfl, trivial⟩
      · go_simp
        refine hK _ _ ?_
        clear hK K
        refine relist (l' := #[true, true, false, false, true, true, false, true, true, true, true, false, false, false]) (by kernel_rfl) ?_
        exact T1_5_9 _ O ⟨HX.out, rfl, trivial⟩
      · go_simp
        refine hK _ _ ?_
        clear hK K
        refine relist (l' := #[true, true, false, false, true, false, false, true, true, true, true, false, true, false]) (by kernel_rfl) ?_
        exact T1_9_12 _ X.heap.size ⟨(HX.out.trans ((glh.new1 X (.cells #[str [], str [], .int .i64 0, .int .i64 0] 25)).mono HX.out.size)), (heap_alloc_new X (.cells #[str [], str [], .int .i64 0, .int .i64 0] 25)), HX.out.size⟩
    refine split #[true, true, false, false, true, false, false, true, true, false, false, false, true, false] (fun O => { tmps := #[.agg #[str s, str t, .int .i64 x, .int .i64 y], .int .i64 now, .pointer (some ⟨w.heap.size, 0, none⟩), undef, .pointer (some ⟨w.heap.size + 1, 0, none⟩), .pointer (some ⟨O, 0, none⟩), .pointer (some ⟨w.heap.size, 3, none⟩), .int .i64 y, undef, undef, .pointer (some ⟨w.heap.size, 0, none⟩), undef, undef, .int .i64 now, .pointer (some ⟨w.heap.size, 3, none⟩), undef, undef, undef, undef, undef, undef, undef, undef, undef, undef], defers := [] }) 8 (fun X O => Below W.heap.size W X ∧ X.heap[O]? = some (.cells #[str [], str [], .int .i64 0, .int .i64 0] 25) ∧ W.heap.size ≤ O) ?_ (fun T1_12 => ?_)
    · rintro X O ⟨hX, hO, hW⟩
      obtain ⟨k0, k3, kz⟩ := HC.out X hX
      have HX := Lib.hid hX
      have HO := Lib.hid hO
      have HWO := Lib.hid hW
      clear hX hO hW
      refine wpAny_ready (rs := [2, 5, 9]) (by kernel_rfl) (by simp) ?_
      refine AllReady.cons rfl (fun K hK => ?_) (AllReady.cons rfl (fun K hK => ?_) (AllReady.cons rfl (fun K hK => ?_) AllReady.nil))
      · go_simp
        refine (DG2.out X HX.out).mono ?_
        rintro e x1 ⟨rfl, hb⟩
        refine hK _ _ ?_
        clear hK K
        refine wpAny_take (i := 3) (v := .string (⟨#[115]⟩ ++ ⟨D.toArray⟩)) rfl (by kernel_rfl) (by kernel_rfl) (by kernel_rfl) (fun _ _ _ h => h) (Or.inl ⟨by kernel_rfl, ?_⟩) ?_
        · intro w; go_simp; omega
        refine relist (l' := #[true, true, true, true, true, false, false, true, true, false, false, false, true, false]) (by kernel_rfl) ?_
        exact T1_2_12 _ O ⟨(HX.out.trans (hb.mono HX.out.size)), (glh.keptB HO.out hb), HWO.out⟩
      · go_simp
        refine hK _ _ ?_
        clear hK K
        refine relist (l' := #[true, true, false, false, true, true, false, true, true, false, false, false, true, false]) (by kernel_rfl) ?_
        exact T1_5_12 _ O ⟨HX.out, HO.out, HWO.out⟩
      · go_simp
        refine hK _ _ ?_
        clear hK K
        refine wpAny_take (i := 10) (v := ?_) rfl (by kernel_rfl) (by kernel_rfl) (by kernel_rfl) (fun _ _ _ h => h) (Or.inl ⟨by kernel_rfl, ?_⟩) ?_
        rotate_left
        · intro w; go_simp; first | done | with_reducible rfl
        refine relist (l' := #[true, true, false, false, true, false, false, true, true, true, true, false, true, false]) (by kernel_rfl) ?_
        exact T1_9_12 _ O ⟨HX.out, HO.out, HWO.out⟩
    refine split #[true, false, false, false, true, true, false, true, true, true, true, false, false, false] (fun O => { tmps := #[.agg #[str s, str t, .int .i64 x, .int .i64 y], .int .i64 now, .pointer (some ⟨w.heap.size, 0, none⟩), undef, .pointer (some ⟨w.heap.size + 1, 0, none⟩), undef, .pointer (some ⟨w.heap.size, 3, none⟩), undef, undef, undef, .pointer (some ⟨w.heap.size, 0, none⟩), str s, undef, .int .i64 now, .pointer (some ⟨w.heap.size, 3, none⟩), .int .i64 y, .int .i64 (y + 1), undef, undef, undef, undef, undef, undef, undef, undef], defers := [] }) 7 (fun X O => Below W.heap.size W X ∧ O = O ∧ True) ?_ (fun T5_9 => ?_)
    · rintro X O ⟨hX, hO, hW⟩
      obtain ⟨k0, k3, kz⟩ := HC.out X hX
      have HX := Lib.hid hX
      have HO := Lib.hid hO
      have HWO := Lib.hid hW
      clear hX hO hW
      refine wpAny_ready (rs := [1, 12]) (by kernel_rfl) (by simp) ?_
      refine AllReady.cons rfl (fun K hK => ?_) (AllReady.cons rfl (fun K hK => ?_) AllReady.nil)
      · go_simp
        refine hK _ _ ?_
        clear hK K
        refine relist (l' := #[true, true, false, false, true, true, false, true, true, true, true, false, false, false]) (by kernel_rfl) ?_
        exact T1_5_9 _ O ⟨HX.out, rfl, trivial⟩
      · go_simp
        refine hK _ _ ?_
        clear hK K
        refine relist (l' := #[true, false, false, false, true, true, false, true, true, true, true, false, true, false]) (by kernel_rfl) ?_
        exact T5_9_12 _ X.heap.size ⟨(HX.out.trans ((glh.new1 X (.cells #[str [], str [], .int .i64 0, .int .i64 0] 25)).mono HX.out.size)), (heap_alloc_new X (.cells #[str [], str [], .int .i64 0, .int .i64 0] 25)), HX.out.size⟩
    refine split #[true, false, false, false, true, true, false, true, true, false, false, false, true, false] (fun O => { tmps := #[.agg #[str s, str t, .int .i64 x, .int .i64 y], .int .i64 now, .pointer (some ⟨w.heap.size, 0, none⟩), undef, .pointer (some ⟨w.heap.size + 1, 0, none⟩), .pointer (some ⟨O, 0, none⟩), .pointer (some ⟨w.heap.size, 3, none⟩), undef, undef, undef, .pointer (some ⟨w.heap.size, 0, none⟩), str s, undef, .int .i64 now, .pointer (some ⟨w.heap.size, 3, none⟩), undef, undef, undef, undef, undef, undef, undef, undef, undef, undef], defers := [] }) 8 (fun X O => Below W.heap.size W X ∧ X.heap[O]? = some (.cells #[str [], str [], .int .i64 0, .int .i64 0] 25) ∧ W.heap.size ≤ O) ?_ (fun T5_12 => ?_)
    · rintro X O ⟨hX, hO, hW⟩
      obtain ⟨k0, k3, kz⟩ := HC.out X hX
      have HX := Lib.hid hX
      have HO := Lib.hid hO
      have HWO := Lib.hid hW
      clear hX hO hW
      refine wpAny_ready (rs := [1, 9]) (by kernel_rfl) (by simp) ?_
      refine AllReady.cons rfl (fun K hK => ?_) (AllReady.cons rfl (fun K hK => ?_) AllReady.nil)
      · go_simp
        refine hK _ _ ?_
        clear hK K
        refine relist (l' := #[true, true, false, false, true, true, false, true, true, false, false, false, true, false]) (by kernel_rfl) ?_
        exact T1_5_12 _ O ⟨HX.out, HO.out, HWO.out⟩
      · go_simp
        refine hK _ _ ?_
        clear hK K
        refine wpAny_take (i := 10) (v := ?_) rfl (by kernel_rfl) (by kernel_rfl) (by kernel_rfl) (fun _ _ _ h => h) (Or.inl ⟨by kernel_rfl, ?_⟩) ?_
        rotate_left
        · intro w; go_simp; first | done | with_reducible rfl
        refine relist (l' := #[true, false, false, false, true, true, false, true, true, true, true, false, true, false]) (by kernel_rfl) ?_
        exact T5_9_12 _ O ⟨HX.out, HO.out, HWO.out⟩
    refine split #[true, false, false, false, true, false, false, true, true, true, true, false, true, false] (fun O => { tmps := #[.agg #[str s, str t, .int .i64 x, .int .i64 y], .int .i64 now, .pointer (some ⟨w.heap.size, 0, none⟩), undef, .pointer (some ⟨w.heap.size + 1, 0, none⟩), .pointer (some ⟨O, 0, none⟩), .pointer (some ⟨w.heap.size, 3, none⟩), undef, undef, undef, .pointer (some ⟨w.heap.size, 0, none⟩), undef, undef, .int .i64 now, .pointer (some ⟨w.heap.size, 3, none⟩), .int .i64 y, .int .i64 (y + 1), undef, undef, undef, undef, undef, undef, undef, undef], defers := [] }) 7 (fun X O => Below W.heap.size W X ∧ X.heap[O]? = some (.cells #[str [], str [], .int .i64 0, .int .i64 0] 25) ∧ W.heap.size ≤ O) ?_ (fun T9_12 => ?_)
    · rintro X O ⟨hX, hO, hW⟩
      obtain ⟨k0, k3, kz⟩ := HC.out X hX
      have HX := Lib.hid hX
      have HO := Lib.hid hO
      have HWO := Lib.hid hW
      clear hX hO hW
      refine wpAny_ready (rs := [1, 5]) (by kernel_rfl) (by simp) ?_
      refine AllReady.cons rfl (fun K hK => ?_) (AllReady.cons rfl (fun K hK => ?_) AllReady.nil)
      · go_simp
        refine hK _ _ ?_
        clear hK K
        refine relist (l' := #[true, true, false, false, true, false, false, true, true, true, true, false, true, false]) (by kernel_rfl) ?_
        exact T1_9_12 _ O ⟨HX.out, HO.out, HWO.out⟩
      · go_simp
        refine hK _ _ ?_
        clear hK K
        refine relist (l' := #[true, false, false, false, true, true, false, true, true, true, true, false, true, false]) (by kernel_rfl) ?_
        exact T5_9_12 _ O ⟨HX.out, HO.out, HWO.out⟩
    refine split #[true, true, false, false, true, false, false, true, true, false, false, false, false, false] (fun O => { tmps := #[.agg #[str s, str t, .int .i64 x, .int .i64 y], .int .i64 now, .pointer (some ⟨w.heap.size, 0, none⟩), undef, .pointer (some ⟨w.heap.size + 1, 0, none⟩), undef, .pointer (some ⟨w.heap.size, 3, none⟩), .int .i64 y, undef, undef, .pointer (some ⟨w.heap.size, 0, none⟩), undef, undef, .int .i64 now, .pointer (some ⟨w.heap.size, 3, none⟩), undef, undef, undef, undef, undef, undef, undef, undef, undef, undef], defers := [] }) 9 (fun X O => Below W.heap.size W X ∧ O = O ∧ True) ?_ (fun T1 => ?_)
    · rintro X O ⟨hX, hO, hW⟩
      obtain ⟨k0, k3, kz⟩ := HC.out X hX
      have HX := Lib.hid hX
      have HO := Lib.hid hO
      have HWO := Lib.hid hW
      clear hX hO hW
      refine wpAny_ready (rs := [2, 5, 9, 12]) (by kernel_rfl) (by simp) ?_
      refine AllReady.cons rfl (fun K hK => ?_) (AllReady.cons rfl (fun K hK => ?_) (AllReady.cons rfl (fun K hK => ?_) (AllReady.cons rfl (fun K hK => ?_) AllReady.nil)))
      · go_simp
        refine (DG2.out X HX.out).mono ?_
        rintro e x1 ⟨rfl, hb⟩
        refine hK _ _ ?_
        clear hK K
        refine wpAny_take (i := 3) (v := .string (⟨#[115]⟩ ++ ⟨D.toArray⟩)) rfl (by kernel_rfl) (by kernel_rfl) (by kernel_rfl) (fun _ _ _ h => h) (Or.inl ⟨by kernel_rfl, ?_⟩) ?_
        · intro w; go_simp; omega
        refine relist (l' := #[true, true, true, true, true, false, false, true, true, false, false, false, false, false]) (by kernel_rfl) ?_
        exact T1_2 _ O ⟨(HX.out.trans (hb.mono HX.out.size)), rfl, trivial⟩
      · go_simp
        refine hK _ _ ?_
        clear hK K
        refine relist (l' := #[true, true, false, false, true, true, false, true, true, false, false, false, false, false]) (by kernel_rfl) ?_
        exact T1_5 _ O ⟨HX.out, rfl, trivial⟩
      · go_simp
        refine hK _ _ ?_
        clear hK K
        refine wpAny_take (i := 10) (v := ?_) rfl (by kernel_rfl) (by kernel_rfl) (by kernel_rfl) (fun _ _ _ h => h) (Or.inl ⟨by kernel_rfl, ?_⟩) ?_
        rotate_left
        · intro w; go_simp; first | done | with_reducible rfl
        refine relist (l' := #[true, true, false, false, true, false, false, true, true, true, true, false, false, false]) (by kernel_rfl) ?_
        exact T1_9 _ O ⟨HX.out, rfl, trivial⟩
      · go_simp
        refine hK _ _ ?_
        clear hK K
        refine relist (l' := #[true, true, false, false, true, false, false, true, true, false, false, false, true, false]) (by kernel_rfl) ?_
        exact T1_12 _ X.heap.size ⟨(HX.out.trans ((glh.new1 X (.cells #[str [], str [], .int .i64 0, .int .i64 0] 25)).mono HX.out.size)), (heap_alloc_new X (.cells #[str [], str [], .int .i64 0, .int .i64 0] 25)), HX.out.size⟩
    refine split #[true, false, false, false, true, true, false, true, true, false, false, false, false, false] (fun O => { tmps := #[.agg #[str s, str t, .int .i64 x, .int .i64 y], .int .i64 now, .pointer (some ⟨w.heap.size, 0, none⟩), undef, .pointer (some ⟨w.heap.size + 1, 0, none⟩), undef, .pointer (some ⟨w.heap.size, 3, none⟩), undef, undef, undef, .pointer (some ⟨w.heap.size, 0, none⟩), str s, undef, .int .i64 now, .pointer (some ⟨w.heap.size, 3, none⟩), undef, undef, undef, undef, undef, undef, undef, undef, undef, undef], defers := [] }) 9 (fun X O => Below W.heap.size W X ∧ O = O ∧ True) ?_ (fun T5 => ?_)
    · rintro X O ⟨hX, hO, hW⟩
      obtain ⟨k0, k3, kz⟩ := HC.out X hX
      have HX := Lib.hid hX
      have HO := Lib.hid hO
      have HWO := Lib.hid hW
      clear hX hO hW
      refine wpAny_ready (rs := [1, 9, 12]) (by kernel_rfl) (by simp) ?_
      refine AllReady.cons rfl (fun K hK => ?_) (AllReady.cons rfl (fun K hK => ?_) (AllReady.cons rfl (fun K hK => ?_) AllReady.nil))
      · go_simp
        refine hK _ _ ?_
        clear hK K
        refine relist (l' := #[true, true, false, false, true, true, false, true, true, false, false, false, false, false]) (by kernel_rfl) ?_
        exact T1_5 _ O ⟨HX.out, rfl, trivial⟩
      · go_simp
        refine hK _ _ ?_
        clear hK K
        refine wpAny_take (i := 10) (v := ?_) rfl (by kernel_rfl) (by kernel_rfl) (by kernel_rfl) (fun _ _ _ h => h) (Or.inl ⟨by kernel_rfl, ?_⟩) ?_
        rotate_left
        · intro w; go_simp; first | done | with_reducible rfl
        refine relist (l' := #[true, false, false, false, true, true, false, true, true, true, true, false, false, false]) (by kernel_rfl) ?_
        exact T5_9 _ O ⟨HX.out, rfl, trivial⟩
      · go_simp
        refine hK _ _ ?_
        clear hK K
        refine relist (l' := #[true, false, false, false, true, true, false, true, true, false, false, false, true, false]) (by kernel_rfl) ?_
        exact T5_12 _ X.heap.size ⟨(HX.out.trans ((glh.new1 X (.cells #[str [], str [], .int .i64 0, .int .i64 0] 25)).mono HX.out.size)), (heap_alloc_new X (.cells #[str [], str [], .int .i64 0, .int .i64 0] 25)), HX.out.size⟩
    refine split #[true, false, false, false, true, false, false, true, true, true, true, false, false, false] (fun O => { tmps := #[.agg #[str s, str t, .int .i64 x, .int .i64 y], .int .i64 now, .pointer (some ⟨w.heap.size, 0, none⟩), undef, .pointer (some ⟨w.heap.size + 1, 0, none⟩), undef, .pointer (some ⟨w.heap.size, 3, none⟩), undef, undef, undef, .pointer (some ⟨w.heap.size, 0, none⟩), undef, undef, .int .i64 now, .pointer (some ⟨w.heap.size, 3, none⟩), .int .i64 y, .int .i64 (y + 1), undef, undef, undef, undef, undef, undef, undef, undef], defers := [] }) 8 (fun X O => Below W.heap.size W X ∧ O = O ∧ True) ?_ (fun T9 => ?_)
    · rintro X O ⟨hX, hO, hW⟩
      obtain ⟨k0, k3, kz⟩ := HC.out X hX
      have HX := Lib.hid hX
      have HO := Lib.hid hO
      have HWO := Lib.hid hW
      clear hX hO hW
      refine wpAny_ready (rs := [1, 5, 12]) (by kernel_rfl) (by simp) ?_
      refine AllReady.cons rfl (fun K hK => ?_) (AllReady.cons rfl (fun K hK => ?_) (AllReady.cons rfl (fun K hK => ?_) AllReady.nil))
      · go_simp
        refine hK _ _ ?_
        clear hK K
        refine relist (l' := #[true, true, false, false, true, false, false, true, true, true, true, false, false, false]) (by kernel_rfl) ?_
        exact T1_9 _ O ⟨HX.out, rfl, trivial⟩
      · go_simp
        refine hK _ _ ?_
        clear hK K
        refine relist (l' := #[true, false, false, false, true, true, false, true, true, true, true, false, false, false]) (by kernel_rfl) ?_
        exact T5_9 _ O ⟨HX.out, rfl, trivial⟩
      · go_simp
        refine hK _ _ ?_
        clear hK K
        refine relist (l' := #[true, false, false, false, true, false, false, true, true, true, true, false, true, false]) (by kernel_rfl) ?_
        exact T9_12 _ X.heap.size ⟨(HX.out.trans ((glh.new1 X (.cells #[str [], str [], .int .i64 0, .int .i64 0] 25)).mono HX.out.size)), (heap_alloc_new X (.cells #[str [], str [], .int .i64 0, .int .i64 0] 25)), HX.out.size⟩
    refine split #[true, false, false, false, true, false, false, true, true, false, false, false, true, false] (fun O => { tmps := #[.agg #[str s, str t, .int .i64 x, .int .i64 y], .int .i64 now, .pointer (some ⟨w.heap.size, 0, none⟩), undef, .pointer (some ⟨w.heap.size + 1, 0, none⟩), .pointer (some ⟨O, 0, none⟩), .pointer (some ⟨w.heap.size, 3, none⟩), undef, undef, undef, .pointer (some ⟨w.heap.size, 0, none⟩), undef, undef, .int .i64 now, .pointer (some ⟨w.heap.size, 3, none⟩), undef, undef, undef, undef, undef, undef, undef, undef, undef, undef], defers := [] }) 9 (fun X O => Below W.heap.size W X ∧ X.heap[O]? = some (.cells #[str [], str [], .int .i64 0, .int .i64 0] 25) ∧ W.heap.size ≤ O) ?_ (fun T12 => ?_)
    · rintro X O ⟨hX, hO, hW⟩
      obtain ⟨k0, k3, kz⟩ := HC.out X hX
      have HX := Lib.hid hX
      have HO := Lib.hid hO
      have HWO := Lib.hid hW
      clear hX hO hW
      refine wpAny_ready (rs := [1, 5, 9]) (by kernel_rfl) (by simp) ?_
      refine AllReady.cons rfl (fun K hK => ?_) (AllReady.cons rfl (fun K hK => ?_) (AllReady.cons rfl (fun K hK => ?_) AllReady.nil))
      · go_simp
        refine hK _ _ ?_
        clear hK K
        refine relist (l' := #[true, true, false, false, true, false, false, true, true, false, false, false, true, false]) (by kernel_rfl) ?_
        exact T1_12 _ O ⟨HX.out, HO.out, HWO.out⟩
      · go_simp
        refine hK _ _ ?_
        clear hK K
        refine relist (l' := #[true, false, false, false, true, true, false, true, true, false, false, false, true, false]) (by kernel_rfl) ?_
        exact T5_12 _ O ⟨HX.out, HO.out, HWO.out⟩
      · go_simp
        refine hK _ _ ?_
        clear hK K
        refine wpAny_take (i := 10) (v := ?_) rfl (by kernel_rfl) (by kernel_rfl) (by kernel_rfl) (fun _ _ _ h => h) (Or.inl ⟨by kernel_rfl, ?_⟩) ?_
        rotate_left
        · intro w; go_simp; first | done | with_reducible rfl
        refine relist (l' := #[true, false, false, false, true, false, false, true, true, true, true, false, true, false]) (by kernel_rfl) ?_
        exact T9_12 _ O ⟨HX.out, HO.out, HWO.out⟩
    refine split #[true, false, false, false, true, false, false, true, true, false, false, false, false, false] (fun O => { tmps := #[.agg #[str s, str t, .int .i64 x, .int .i64 y], .int .i64 now, .pointer (some ⟨w.heap.size, 0, none⟩), undef, .pointer (some ⟨w.heap.size + 1, 0, none⟩), undef, .pointer (some ⟨w.heap.size, 3, none⟩), undef, undef, undef, .pointer (some ⟨w.heap.size, 0, none⟩), undef, undef, .int .i64 now, .pointer (some ⟨w.heap.size, 3, none⟩), undef, undef, undef, undef, undef, undef, undef, undef, undef, undef], defers := [] }) 10 (fun X O => Below W.heap.size W X ∧ O = O ∧ True) ?_ (fun T0 => ?_)
    · rintro X O ⟨hX, hO, hW⟩
      obtain ⟨k0, k3, kz⟩ := HC.out X hX
      have HX := Lib.hid hX
      have HO := Lib.hid hO
      have HWO := Lib.hid hW
      clear hX hO hW
      refine wpAny_ready (rs := [1, 5, 9, 12]) (by kernel_rfl) (by simp) ?_
      refine AllReady.cons rfl (fun K hK => ?_) (AllReady.cons rfl (fun K hK => ?_) (AllReady.cons rfl (fun K hK => ?_) (AllReady.cons rfl (fun K hK => ?_) AllReady.nil)))
      · go_simp
        refine hK _ _ ?_
        clear hK K
        refine relist (l' := #[true, true, false, false, true, false, false, true, true, false, false, false, false, false]) (by kernel_rfl) ?_
        exact T1 _ O ⟨HX.out, rfl, trivial⟩
      · go_simp
        refine hK _ _ ?_
        clear hK K
        refine relist (l' := #[true, false, false, false, true, true, false, true, true, false, false, false, false, false]) (by kernel_rfl) ?_
        exact T5 _ O ⟨HX.out, rfl, trivial⟩
      · go_simp
        refine hK _ _ ?_
        clear hK K
        refine wpAny_take (i := 10) (v := ?_) rfl (by kernel_rfl) (by kernel_rfl) (by kernel_rfl) (fun _ _ _ h => h) (Or.inl ⟨by kernel_rfl, ?_⟩) ?_
        rotate_left
        · intro w; go_simp; first | done | with_reducible rfl
        refine relist (l' := #[true, false, false, false, true, false, false, true, true, true, true, false, false, false]) (by kernel_rfl) ?_
        exact T9 _ O ⟨HX.out, rfl, trivial⟩
      · go_simp
        refine hK _ _ ?_
        clear hK K
        refine relist (l' := #[true, false, false, false, true, false, false, true, true, false, false, false, true, false]) (by kernel_rfl) ?_
        exact T12 _ X.heap.size ⟨(HX.out.trans ((glh.new1 X (.cells #[str [], str [], .int .i64 0, .int .i64 0] 25)).mono HX.out.size)), (heap_alloc_new X (.cells #[str [], str [], .int .i64 0, .int .i64 0] 25)), HX.out.size⟩
    exact T0 _ 0 ⟨(Still.drewN W 1).below _, rfl, trivial⟩
  case rest =>
  obtain ⟨O, rfl, hO, hOz, hX⟩ := hcut
  rename World => V
  have HX := Lib.hid (HK.out.trans (hX.mono HK.out.size))
  have y0 := glh.keptB X0.out hX
  have y1 := glh.keptB X1.out hX
  have hz1 : w.heap.size + 1 < W.heap.size := (Array.getElem?_eq_some_iff.1 X1.out).1
  clear hX HC DG2 CL DG HH X0 X1
  obtain ⟨j0, j1, j2, j3, jz, jf⟩ := four y0
  obtain ⟨r0, r1, r2, r3, rz, rf⟩ := four y1
  obtain ⟨o0, o1, o2, o3, oz, of⟩ := four hO
  have hO1 : w.heap.size ≤ O := by omega
  have HO := Lib.hid hO
  have Y1 := Lib.hid y1
  clear hO y0 y1
  by_cases h240 : 240 ≤ now - x
  · have d : decide (240 ≤ now - x) = true := decide_eq_true h240
    go_wp2_with fail
    refine bodyPost_ret (v := .agg #[str (115 :: D), str [], .int .i64 now, .int .i64 (y + 1)]) (by simp [results, Tryd.results15, go_sem, r0, r1, r2, r3]) rfl ⟨by first | rfl | rw [if_pos (by omega)], ?_⟩
    exact ((((HX.out.setCell (by omega) _).setCell (by simp) _).setCell (by simp) _).setCell (by simp) _).setCell (by simp) _
  · have d : decide (240 ≤ now - x) = false := decide_eq_false h240
    go_wp2_with fail
    refine bodyPost_ret (v := .agg #[str (115 :: D), str s, .int .i64 now, .int .i64 (y + 1)]) (by simp [results, Tryd.results15, go_sem, r0, r1, r2, r3]) rfl ⟨by first | rfl | rw [if_neg (by omega)], ?_⟩
    exact (((HX.out.setCell (by simp) _).setCell (by simp) _).setCell (by simp) _).setCell (by simp) _
end Go.Proofs.YtdikjmhnjlalbaaDoor.gjt
