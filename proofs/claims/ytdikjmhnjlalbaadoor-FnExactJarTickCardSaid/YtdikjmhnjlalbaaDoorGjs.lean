/- JarTick of the model. -/
import Derived.Test.YtdikjmhnjlalbaaDoorGji
import Derived.Test.YtdikjmhnjlalbaaDoorDec
namespace Go.Proofs.YtdikjmhnjlalbaaDoor.gjt
open Go.RowKit Go.Sort Go.Proofs.YtdikjmhnjlalbaaDoor.tm Go.Proofs.YtdikjmhnjlalbaaDoor.lib Go.Proofs.YtdikjmhnjlalbaaDoor.rdr Go.Proofs.YtdikjmhnjlalbaaDoor.bld Go.Proofs.YtdikjmhnjlalbaaDoor.ltp Go.Proofs.YtdikjmhnjlalbaaDoor.gdp Go.Proofs.YtdikjmhnjlalbaaDoor.gtp Go.Proofs.YtdikjmhnjlalbaaDoor.rbk Go.Proofs.YtdikjmhnjlalbaaDoor.dec Go.Proofs.YtdikjmhnjlalbaaDoor.tab
set_option linter.unusedVariables false

/-- What a jar that is right becomes at a time that is not before it. -/
def stepR (j : Jr) (now : Int) : Jr × Int := if now - j.at_ < 120 then (j, 0) else if jarR (nextR j now) then (nextR j now, 0) else (jr0, 9)

set_option maxHeartbeats 4000000 in
set_option maxRecDepth 100000 in
theorem l05Tick_calls (j : Jr) (now : Int) (hj : jarR j = true) (t0 : 0 ≤ now) (t3 : now ≤ 1000000) (w : World) :
    Calls Tryd.prog 11 #[.agg (jrA j), .int .i64 now] w fun e w' => e = .returned (.agg (joA (stepR j now).1 (stepR j now).2)) ∧ Below w.heap.size w w' := by
  have K := jarOk hj
  have hnl := (atomR_len K.now).2
  have wd : IntKind.i64.wrap (now - j.at_) = now - j.at_ := by rw [IntKind.wrap_i64]; have := K.a1; have := K.a2; omega
  have kW := (glh.new1 w (.cells #[str j.now, str j.was, .int .i64 j.at_, .int .i64 j.next] 25)).alloc (by simp) (.cells #[str [], str [], .int .i64 0, .int .i64 0, .int .i64 0] 27)
  obtain ⟨x0, x1⟩ := alloc2 w (.cells #[str j.now, str j.was, .int .i64 j.at_, .int .i64 j.next] 25) (.cells #[str [], str [], .int .i64 0, .int .i64 0, .int .i64 0] 27)
  have Q := And.intro x0 (And.intro x1 kW)
  clear x0 x1 kW
  by_cases hs : now - j.at_ < 120
  · have e1 : stepR j now = (j, 0) := by unfold stepR; rw [if_pos hs]
    rw [e1]
    have ds : decide (now - j.at_ < 120) = true := decide_eq_true hs
    clear hj K hnl hs e1
    unfold joA
    obtain ⟨s, t, x, y⟩ := j
    unfold jrA
    simp only at Q ds wd ⊢
    go_enter Tryd.func11, Tryd.ntmps11
    go_upto_region 1 with fail
    generalize hW : ((w.alloc (.cells #[str s, str t, .int .i64 x, .int .i64 y] 25)).alloc (.cells #[str [], str [], .int .i64 0, .int .i64 0, .int .i64 0] 27)) = W at Q
    obtain ⟨x0, x1, kW⟩ := Q
    clear hW
    obtain ⟨j0, j1, j2, j3, jz, jf⟩ := four x0
    obtain ⟨r0, r1, r2, r3, r4, rz, rf⟩ := five x1
    have HB := Lib.hid kW
    clear x0 x1 kW
    go_wp2_with fail
    refine bodyPost_ret (v := .agg #[str s, str t, .int .i64 x, .int .i64 y, .int .i64 0]) (by simp [results, Tryd.results11, go_sem, r0, r1, r2, r3, r4]) rfl ⟨rfl, ?_⟩
    exact ((((HB.out.setCell (by simp) _).setCell (by simp) _).setCell (by simp) _).setCell (by simp) _).setCell (by simp) _
  · have e1 : stepR j now = if jarR (nextR j now) then (nextR j now, 0) else (jr0, 9) := by unfold stepR; rw [if_neg hs]
    rw [e1]
    have ds : decide (now - j.at_ < 120) = false := decide_eq_false hs
    have dg : ∀ X : World, Calls Tryd.prog 19 #[.int .i64 j.next] X fun e w' => e = .returned (str (decR j.next.toNat)) ∧ Below X.heap.size X w' := fun X => by
      have := dec_calls j.next.toNat (by have := K.n2; omega) X
      rw [Int.toNat_of_nonneg K.n1] at this
      exact this
    have IJ2 := fun w' => gjr.specJar_calls (nextR j now) (next_len hj now).1 (next_len hj now).2 w'
    obtain ⟨b, hb⟩ : ∃ b, b = jarR (nextR j now) := ⟨_, rfl⟩
    simp only [← hb] at IJ2 ⊢
    unfold nextR at IJ2 ⊢
    have hDl : (decR j.next.toNat).length ≤ 7 := decR_len _ (by have := K.n2; omega)
    obtain ⟨D, hD⟩ : ∃ D, D = decR j.next.toNat := ⟨_, rfl⟩
    rw [← hD] at dg IJ2 hDl ⊢
    have wn : IntKind.i64.wrap (j.next + 1) = j.next + 1 := by rw [IntKind.wrap_i64]; have := K.n1; have := K.n2; omega
    have DG := Lib.hid dg
    have IJ2 := Lib.hid IJ2
    clear hj K hnl hs e1 t0 t3 hb hD dg
    unfold joA
    obtain ⟨s, t, x, y⟩ := j
    unfold jrA at IJ2 ⊢
    simp only at Q ds wd wn DG IJ2 ⊢
    go_enter Tryd.func11, Tryd.ntmps11
    go_upto_region 1 with fail
    generalize hW : ((w.alloc (.cells #[str s, str t, .int .i64 x, .int .i64 y] 25)).alloc (.cells #[str [], str [], .int .i64 0, .int .i64 0, .int .i64 0] 27)) = W at Q
    obtain ⟨x0, x1, kW⟩ := Q
    clear hW
    have HK := Lib.hid kW
    have X0 := Lib.hid x0
    have X1 := Lib.hid x1
    obtain ⟨j0, j1, j2, j3, jz, jf⟩ := four x0
    clear kW x0 x1
    have HC := Lib.hid (fun X (k : Below W.heap.size W X) => (show X.cell? ⟨w.heap.size, 0, none⟩ = some (str s) ∧ X.cell? ⟨w.heap.size, 3, none⟩ = some (.int .i64 y) ∧ w.heap.size < X.heap.size from ⟨(glh.four (glh.keptB X0.out k)).1, (glh.four (glh.keptB X0.out k)).2.2.2.1, (glh.four (glh.keptB X0.out k)).2.2.2.2⟩))
    have DG2 := Lib.hid (fun X (k : Below W.heap.size W X) => DG.out X)
    go_upto_region 3 with fail
    have HZ := Lib.hid (trivial : True)
    clear j0 j1 j2 j3 jz jf
    go_cut [5] (fun s5 wx => ∃ O, s5 = .pointer (some ⟨O, 0, none⟩) ∧ wx.heap[O]? = some (.cells #[str (115 :: D), str s, .int .i64 now, .int .i64 (y + 1)] 25) ∧ W.heap.size ≤ O ∧ Below W.heap.size W wx)
    case first =>
      clear HZ
      refine wp_region_any (by kernel_rfl) ?_
      change wpAny _ _ _ _ _ _ _ (World.drew _)
      refine wpAny_take (i := 0) (v := ?_) rfl (by kernel_rfl) (by kernel_rfl) (by kernel_rfl) (fun _ _ _ h => h) (Or.inl ⟨by kernel_rfl, ?_⟩) ?_
      rotate_left
      · intro w; go_simp; first | done | with_reducible rfl
      refine wpAny_take (i := 4) (v := ?_) rfl (by kernel_rfl) (by kernel_rfl) (by kernel_rfl) (fun _ _ _ h => h) (Or.inl ⟨by kernel_rfl, ?_⟩) ?_
      rotate_left
      · intro w; go_simp; first | done | with_reducible rfl
      refine wpAny_take (i := 6) (v := ?_) rfl (by kernel_rfl) (by kernel_rfl) (by kernel_rfl) (fun _ _ _ h => h) (Or.inl ⟨by kernel_rfl, ?_⟩) ?_
      rotate_left
      · intro w; go_simp; first | done | with_reducible rfl
      refine wpAny_take (i := 7) (v := ?_) rfl (by kernel_rfl) (by kernel_rfl) (by kernel_rfl) (fun _ _ _ h => h) (Or.inl ⟨by kernel_rfl, ?_⟩) ?_
      rotate_left
      · intro w; go_simp; first | done | with_reducible rfl
      refine relist (l' := #[true, false, false, false, true, false, true, true, false, false, false, false, false]) (by kernel_rfl) ?_
      refine split #[true, true, true, true, true, true, true, true, true, true, true, true, false] (fun O => { tmps := #[.agg #[str s, str t, .int .i64 x, .int .i64 y], .int .i64 now, .pointer (some ⟨w.heap.size, 0, none⟩), undef, .pointer (some ⟨w.heap.size + 1, 0, none⟩), .pointer (some ⟨O, 0, none⟩), .int .i64 now, .pointer (some ⟨w.heap.size, 2, none⟩), .int .i64 x, .int .i64 (now - x), .bool false, undef, undef, .pointer (some ⟨w.heap.size, 3, none⟩), .int .i64 y, str D, .string (⟨#[115]⟩ ++ ⟨D.toArray⟩), .pointer (some ⟨w.heap.size, 0, none⟩), str s, .int .i64 now, .pointer (some ⟨w.heap.size, 3, none⟩), .int .i64 y, .int .i64 (y + 1), .agg #[.string (⟨#[115]⟩ ++ ⟨D.toArray⟩), str s, .int .i64 now, .int .i64 (y + 1)], undef, undef, undef, undef, undef, undef, undef, undef, undef, undef, undef, undef], defers := [] }) 1 (fun X O => Below W.heap.size W X ∧ X.heap[O]? = some (.cells #[str [], str [], .int .i64 0, .int .i64 0] 25) ∧ W.heap.size ≤ O) ?_ (fun T1_2_5_8_11 => ?_)
      · rintro X O ⟨hX, hO, hW⟩
        obtain ⟨k0, k3, kz⟩ := HC.out X hX
        have HX := Lib.hid hX
        have HO := Lib.hid hO
        have HWO := Lib.hid hW
        clear hX hO hW
        obtain ⟨o0, o1, o2, o3, oz, of0, of1, of2, of3⟩ := fourF HO.out
        refine wpAny_ready (rs := [12]) (by kernel_rfl) (by simp) ?_
        refine AllReady.cons rfl (fun K hK => ?_) AllReady.nil
        go_simp
        refine hK _ _ ?_
        clear hK K
        refine wpAny_done (by kernel_rfl) ?_ _
        go_wp2_with fail
        go_meet
        refine ⟨O, rfl, ?_, HWO.out, ?_⟩
        · have e := setFour HO.out (.string (⟨#[115]⟩ ++ ⟨D.toArray⟩)) (str s) (.int .i64 now) (.int .i64 (y + 1))
          rw [cat] at e
          first | exact e | (rw [cat]; exact e)
        · exact (((HX.out.setCell HWO.out _).setCell HWO.out _).setCell HWO.out _).setCell HWO.out _
      refine split #[true, true, true, true, true, true, true, true, true, true, true, false, false] (fun O => { tmps := #[.agg #[str s, str t, .int .i64 x, .int .i64 y], .int .i64 now, .pointer (some ⟨w.heap.size, 0, none⟩), undef, .pointer (some ⟨w.heap.size + 1, 0, none⟩), undef, .int .i64 now, .pointer (some ⟨w.heap.size, 2, none⟩), .int .i64 x, .int .i64 (now - x), .bool false, undef, undef, .pointer (some ⟨w.heap.size, 3, none⟩), .int .i64 y, str D, .string (⟨#[115]⟩ ++ ⟨D.toArray⟩), .pointer (some ⟨w.heap.size, 0, none⟩), str s, .int .i64 now, .pointer (some ⟨w.heap.size, 3, none⟩), .int .i64 y, .int .i64 (y + 1), .agg #[.string (⟨#[115]⟩ ++ ⟨D.toArray⟩), str s, .int .i64 now, .int .i64 (y + 1)], undef, undef, undef, undef, undef, undef, undef, undef, undef, undef, undef, undef], defers := [] }) 2 (fun X O => Below W.heap.size W X ∧ O = O ∧ True) ?_ (fun T1_2_5_8 => ?_)
      · rintro X O ⟨hX, hO, hW⟩
        obtain ⟨k0, k3, kz⟩ := HC.out X hX
        have HX := Lib.hid hX
        have HO := Lib.hid hO
        have HWO := Lib.hid hW
        clear hX hO hW
        refine wpAny_ready (rs := [11]) (by kernel_rfl) (by simp) ?_
        refine AllReady.cons rfl (fun K hK => ?_) AllReady.nil
        go_simp
        refine hK _ _ ?_
        clear hK K
        refine relist (l' := #[true, true, true, true, true, true, true, true, true, true, true, true, false]) (by kernel_rfl) ?_
        exact T1_2_5_8_11 _ X.heap.size ⟨(HX.out.trans ((glh.new1 X (.cells #[str [], str [], .int .i64 0, .int .i64 0] 25)).mono HX.out.size)), (heap_alloc_new X (.cells #[str [], str [], .int .i64 0, .int .i64 0] 25)), HX.out.size⟩
      refine split #[true, true, true, true, true, true, true, true, false, false, false, true, false] (fun O => { tmps := #[.agg #[str s, str t, .int .i64 x, .int .i64 y], .int .i64 now, .pointer (some ⟨w.heap.size, 0, none⟩), undef, .pointer (some ⟨w.heap.size + 1, 0, none⟩), .pointer (some ⟨O, 0, none⟩), .int .i64 now, .pointer (some ⟨w.heap.size, 2, none⟩), .int .i64 x, .int .i64 (now - x), .bool false, undef, undef, .pointer (some ⟨w.heap.size, 3, none⟩), .int .i64 y, str D, .string (⟨#[115]⟩ ++ ⟨D.toArray⟩), .pointer (some ⟨w.heap.size, 0, none⟩), str s, .int .i64 now, .pointer (some ⟨w.heap.size, 3, none⟩), undef, undef, undef, undef, undef, undef, undef, undef, undef, undef, undef, undef, undef, undef, undef], defers := [] }) 4 (fun X O => Below W.heap.size W X ∧ X.heap[O]? = some (.cells #[str [], str [], .int .i64 0, .int .i64 0] 25) ∧ W.heap.size ≤ O) ?_ (fun T1_2_5_11 => ?_)
      · rintro X O ⟨hX, hO, hW⟩
        obtain ⟨k0, k3, kz⟩ := HC.out X hX
        have HX := Lib.hid hX
        have HO := Lib.hid hO
        have HWO := Lib.hid hW
        clear hX hO hW
        refine wpAny_ready (rs := [8]) (by kernel_rfl) (by simp) ?_
        refine AllReady.cons rfl (fun K hK => ?_) AllReady.nil
        go_simp
        refine hK _ _ ?_
        clear hK K
        refine wpAny_take (i := 9) (v := ?_) rfl (by kernel_rfl) (by kernel_rfl) (by kernel_rfl) (fun _ _ _ h => h) (Or.inl ⟨by kernel_rfl, ?_⟩) ?_
        rotate_left
        · intro w; go_simp; first | done | with_reducible rfl
        refine wpAny_take (i := 10) (v := ?_) rfl (by kernel_rfl) (by kernel_rfl) (by kernel_rfl) (fun _ _ _ h => h) (Or.inl ⟨by kernel_rfl, ?_⟩) ?_
        rotate_left
        · intro w; go_simp; first | done | with_reducible rfl
        refine relist (l' := #[true, true, true, true, true, true, true, true, true, true, true, true, false]) (by kernel_rfl) ?_
        exact T1_2_5_8_11 _ O ⟨HX.out, HO.out, HWO.out⟩
      refine split #[true, true, true, true, true, false, true, true, true, true, false, true, false] (fun O => { tmps := #[.agg #[str s, str t, .int .i64 x, .int .i64 y], .int .i64 now, .pointer (some ⟨w.heap.size, 0, none⟩), undef, .pointer (some ⟨w.heap.size + 1, 0, none⟩), .pointer (some ⟨O, 0, none⟩), .int .i64 now, .pointer (some ⟨w.heap.size, 2, none⟩), .int .i64 x, .int .i64 (now - x), .bool false, undef, undef, .pointer (some ⟨w.heap.size, 3, none⟩), .int .i64 y, str D, .string (⟨#[115]⟩ ++ ⟨D.toArray⟩), .pointer (some ⟨w.heap.size, 0, none⟩), undef, .int .i64 now, .pointer (some ⟨w.heap.size, 3, none⟩), .int .i64 y, .int .i64 (y + 1), undef, undef, undef, undef, undef, undef, undef, undef, undef, undef, undef, undef, undef], defers := [] }) 3 (fun X O => Below W.heap.size W X ∧ X.heap[O]? = some (.cells #[str [], str [], .int .i64 0, .int .i64 0] 25) ∧ W.heap.size ≤ O) ?_ (fun T1_2_8_11 => ?_)
      · rintro X O ⟨hX, hO, hW⟩
        obtain ⟨k0, k3, kz⟩ := HC.out X hX
        have HX := Lib.hid hX
        have HO := Lib.hid hO
        have HWO := Lib.hid hW
        clear hX hO hW
        refine wpAny_ready (rs := [5]) (by kernel_rfl) (by simp) ?_
        refine AllReady.cons rfl (fun K hK => ?_) AllReady.nil
        go_simp
        refine hK _ _ ?_
        clear hK K
        refine wpAny_take (i := 10) (v := ?_) rfl (by kernel_rfl) (by kernel_rfl) (by kernel_rfl) (fun _ _ _ h => h) (Or.inl ⟨by kernel_rfl, ?_⟩) ?_
        rotate_left
        · intro w; go_simp; first | done | with_reducible rfl
        refine relist (l' := #[true, true, true, true, true, true, true, true, true, true, true, true, false]) (by kernel_rfl) ?_
        exact T1_2_5_8_11 _ O ⟨HX.out, HO.out, HWO.out⟩
      refine split #[true, true, false, false, true, true, true, true, true, true, false, true, false] (fun O => { tmps := #[.agg #[str s, str t, .int .i64 x, .int .i64 y], .int .i64 now, .pointer (some ⟨w.heap.size, 0, none⟩), undef, .pointer (some ⟨w.heap.size + 1, 0, none⟩), .pointer (some ⟨O, 0, none⟩), .int .i64 now, .pointer (some ⟨w.heap.size, 2, none⟩), .int .i64 x, .int .i64 (now - x), .bool false, undef, undef, .pointer (some ⟨w.heap.size, 3, none⟩), .int .i64 y, undef, undef, .pointer (some ⟨w.heap.size, 0, none⟩), str s, .int .i64 now, .pointer (some ⟨w.heap.size, 3, none⟩), .int .i64 y, .int .i64 (y + 1), undef, undef, undef, undef, undef, undef, undef, undef, undef, undef, undef, undef, undef], defers := [] }) 4 (fun X O => Below W.heap.size W X ∧ X.heap[O]? = some (.cells #[str [], str [], .int .i64 0, .int .i64 0] 25) ∧ W.heap.size ≤ O) ?_ (fun T1_5_8_11 => ?_)
      · rintro X O ⟨hX, hO, hW⟩
        obtain ⟨k0, k3, kz⟩ := HC.out X hX
        have HX := Lib.hid hX
        have HO := Lib.hid hO
        have HWO := Lib.hid hW
        clear hX hO hW
        refine wpAny_ready (rs := [2]) (by kernel_rfl) (by simp) ?_
        refine AllReady.cons rfl (fun K hK => ?_) AllReady.nil
        go_simp
        refine (DG2.out X HX.out).mono ?_
        rintro e x1 ⟨rfl, hb⟩
        refine hK _ _ ?_
        clear hK K
        refine wpAny_take (i := 3) (v := .string (⟨#[115]⟩ ++ ⟨D.toArray⟩)) rfl (by kernel_rfl) (by kernel_rfl) (by kernel_rfl) (fun _ _ _ h => h) (Or.inl ⟨by kernel_rfl, ?_⟩) ?_
        · intro w; go_simp; omega
        refine wpAny_take (i := 10) (v := ?_) rfl (by kernel_rfl) (by kernel_rfl) (by kernel_rfl) (fun _ _ _ h => h) (Or.inl ⟨by kernel_rfl, ?_⟩) ?_
        rotate_left
        · intro w; go_simp; first | done | with_reducible rfl
        refine relist (l' := #[true, true, true, true, true, true, true, true, true, true, true, true, false]) (by kernel_rfl) ?_
        exact T1_2_5_8_11 _ O ⟨(HX.out.trans (hb.mono HX.out.size)), (glh.keptB HO.out hb), HWO.out⟩
      refine split #[true, true, true, true, true, true, true, true, false, false, false, false, false] (fun O => { tmps := #[.agg #[str s, str t, .int .i64 x, .int .i64 y], .int .i64 now, .pointer (some ⟨w.heap.size, 0, none⟩), undef, .pointer (some ⟨w.heap.size + 1, 0, none⟩), undef, .int .i64 now, .pointer (some ⟨w.heap.size, 2, none⟩), .int .i64 x, .int .i64 (now - x), .bool false, undef, undef, .pointer (some ⟨w.heap.size, 3, none⟩), .int .i64 y, str D, .string (⟨#[115]⟩ ++ ⟨D.toArray⟩), .pointer (some ⟨w.heap.size, 0, none⟩), str s, .int .i64 now, .pointer (some ⟨w.heap.size, 3, none⟩), undef, undef, undef, undef, undef, undef, undef, undef, undef, undef, undef, undef, undef, undef, undef], defers := [] }) 5 (fun X O => Below W.heap.size W X ∧ O = O ∧ True) ?_ (fun T1_2_5 => ?_)
      · rintro X O ⟨hX, hO, hW⟩
        obtain ⟨k0, k3, kz⟩ := HC.out X hX
        have HX := Lib.hid hX
        have HO := Lib.hid hO
        have HWO := Lib.hid hW
        clear hX hO hW
        refine wpAny_ready (rs := [8, 11]) (by kernel_rfl) (by simp) ?_
        refine AllReady.cons rfl (fun K hK => ?_) (AllReady.cons rfl (fun K hK => ?_) AllReady.nil)
        · go_simp
          refine hK _ _ ?_
          clear hK K
          refine wpAny_take (i := 9) (v := ?_) rfl (by kernel_rfl) (by kernel_rfl) (by kernel_rfl) (fun _ _ _ h => h) (Or.inl ⟨by kernel_rfl, ?_⟩) ?_
          rotate_left
          · intro w; go_simp; first | done | with_reducible rfl
          refine wpAny_take (i := 10) (v := ?_) rfl (by kernel_rfl) (by kernel_rfl) (by kernel_rfl) (fun _ _ _ h => h) (Or.inl ⟨by kernel_rfl, ?_⟩) ?_
          rotate_left
          · intro w; go_simp; first | done | with_reducible rfl
          refine relist (l' := #[true, true, true, true, true, true, true, true, true, true, true, false, false]) (by kernel_rfl) ?_
          exact T1_2_5_8 _ O ⟨HX.out, rfl, trivial⟩
        · go_simp
          refine hK _ _ ?_
          clear hK K
          refine relist (l' := #[true, true, true, true, true, true, true, true, false, false, false, true, false]) (by kernel_rfl) ?_
          exact T1_2_5_11 _ X.heap.size ⟨(HX.out.trans ((glh.new1 X (.cells #[str [], str [], .int .i64 0, .int .i64 0] 25)).mono HX.out.size)), (heap_alloc_new X (.cells #[str [], str [], .int .i64 0, .int .i64 0] 25)), HX.out.size⟩
      refine split #[true, true, true, true, true, false, true, true, true, true, false, false, false] (fun O => { tmps := #[.agg #[str s, str t, .int .i64 x, .int .i64 y], .int .i64 now, .pointer (some ⟨w.heap.size, 0, none⟩), undef, .pointer (some ⟨w.heap.size + 1, 0, none⟩), undef, .int .i64 now, .pointer (some ⟨w.heap.size, 2, none⟩), .int .i64 x, .int .i64 (now - x), .bool false, undef, undef, .pointer (some ⟨w.heap.size, 3, none⟩), .int .i64 y, str D, .string (⟨#[115]⟩ ++ ⟨D.toArray⟩), .pointer (some ⟨w.heap.size, 0, none⟩), undef, .int .i64 now, .pointer (some ⟨w.heap.size, 3, none⟩), .int .i64 y, .int .i64 (y + 1), undef, undef, undef, undef, undef, undef, undef, undef, undef, undef, undef, undef, undef], defers := [] }) 4 (fun X O => Below W.heap.size W X ∧ O = O ∧ True) ?_ (fun T1_2_8 => ?_)
      · rintro X O ⟨hX, hO, hW⟩
        obtain ⟨k0, k3, kz⟩ := HC.out X hX
        have HX := Lib.hid hX
        have HO := Lib.hid hO
        have HWO := Lib.hid hW
        clear hX hO hW
        refine wpAny_ready (rs := [5, 11]) (by kernel_rfl) (by simp) ?_
        refine AllReady.cons rfl (fun K hK => ?_) (AllReady.cons rfl (fun K hK => ?_) AllReady.nil)
        · go_simp
          refine hK _ _ ?_
          clear hK K
          refine wpAny_take (i := 10) (v := ?_) rfl (by kernel_rfl) (by kernel_rfl) (by kernel_rfl) (fun _ _ _ h => h) (Or.inl ⟨by kernel_rfl, ?_⟩) ?_
          rotate_left
          · intro w; go_simp; first | done | with_reducible rfl
          refine relist (l' := #[true, true, true, true, true, true, true, true, true, true, true, false, false]) (by kernel_rfl) ?_
          exact T1_2_5_8 _ O ⟨HX.out, rfl, trivial⟩
        · go_simp
          refine hK _ _ ?_
          clear hK K
          refine relist (l' := #[true, true, true, true, true, false, true, true, true, true, false, true, false]) (by kernel_rfl) ?_
          exact T1_2_8_11 _ X.heap.size ⟨(HX.out.trans ((glh.new1 X (.cells #[str [], str [], .int .i64 0, .int .i64 0] 25)).mono HX.out.size)), (heap_alloc_new X (.cells #[str [], str [], .int .i64 0, .int .i64 0] 25)), HX.out.size⟩
      refine split #[true, true, true, true, true, false, true, true, false, false, false, true, false] (fun O => { tmps := #[.agg #[str s, str t, .int .i64 x, .int .i64 y], .int .i64 now, .pointer (some ⟨w.heap.size, 0, none⟩), undef, .pointer (some ⟨w.heap.size + 1, 0, none⟩), .pointer (some ⟨O, 0, none⟩), .int .i64 now, .pointer (some ⟨w.heap.size, 2, none⟩), .int .i64 x, .int .i64 (now - x), .bool false, undef, undef, .pointer (some ⟨w.heap.size, 3, none⟩), .int .i64 y, str D, .string (⟨#[115]⟩ ++ ⟨D.toArray⟩), .pointer (some ⟨w.heap.size, 0, none⟩), undef, .int .i64 now, .pointer (some ⟨w.heap.size, 3, none⟩), undef, undef, undef, undef, undef, undef, undef, undef, undef, undef, undef, undef, undef, undef, undef], defers := [] }) 5 (fun X O => Below W.heap.size W X ∧ X.heap[O]? = some (.cells #[str [], str [], .int .i64 0, .int .i64 0] 25) ∧ W.heap.size ≤ O) ?_ (fun T1_2_11 => ?_)
      · rintro X O ⟨hX, hO, hW⟩
        obtain ⟨k0, k3, kz⟩ := HC.out X hX
        have HX := Lib.hid hX
        have HO := Lib.hid hO
        have HWO := Lib.hid hW
        clear hX hO hW
        refine wpAny_ready (rs := [5, 8]) (by kernel_rfl) (by simp) ?_
        refine AllReady.cons rfl (fun K hK => ?_) (AllReady.cons rfl (fun K hK => ?_) AllReady.nil)
        · go_simp
          refine hK _ _ ?_
          clear hK K
          refine relist (l' := #[true, true, true, true, true, true, true, true, false, false, false, true, false]) (by kernel_rfl) ?_
          exact T1_2_5_11 _ O ⟨HX.out, HO.out, HWO.out⟩
        · go_simp
          refine hK _ _ ?_
          clear hK K
          refine wpAny_take (i := 9) (v := ?_) rfl (by kernel_rfl) (by kernel_rfl) (by kernel_rfl) (fun _ _ _ h => h) (Or.inl ⟨by kernel_rfl, ?_⟩) ?_
          rotate_left
          · intro w; go_simp; first | done | with_reducible rfl
          refine relist (l' := #[true, true, true, true, true, false, true, true, true, true, false, true, false]) (by kernel_rfl) ?_
          exact T1_2_8_11 _ O ⟨HX.out, HO.out, HWO.out⟩
      refine split #[true, true, false, false, true, true, true, true, true, true, false, false, false] (fun O => { tmps := #[.agg #[str s, str t, .int .i64 x, .int .i64 y], .int .i64 now, .pointer (some ⟨w.heap.size, 0, none⟩), undef, .pointer (some ⟨w.heap.size + 1, 0, none⟩), undef, .int .i64 now, .pointer (some ⟨w.heap.size, 2, none⟩), .int .i64 x, .int .i64 (now - x), .bool false, undef, undef, .pointer (some ⟨w.heap.size, 3, none⟩), .int .i64 y, undef, undef, .pointer (some ⟨w.heap.size, 0, none⟩), str s, .int .i64 now, .pointer (some ⟨w.heap.size, 3, none⟩), .int .i64 y, .int .i64 (y + 1), undef, undef, undef, undef, undef, undef, undef, undef, undef, undef, undef, undef, undef], defers := [] }) 5 (fun X O => Below W.heap.size W X ∧ O = O ∧ True) ?_ (fun T1_5_8 => ?_)
      · rintro X O ⟨hX, hO, hW⟩
        obtain ⟨k0, k3, kz⟩ := HC.out X hX
        have HX := Lib.hid hX
        have HO := Lib.hid hO
        have HWO := Lib.hid hW
        clear hX hO hW
        refine wpAny_ready (rs := [2, 11]) (by kernel_rfl) (by simp) ?_
        refine AllReady.cons rfl (fun K hK => ?_) (AllReady.cons rfl (fun K hK => ?_) AllReady.nil)
        · go_simp
          refine (DG2.out X HX.out).mono ?_
          rintro e x1 ⟨rfl, hb⟩
          refine hK _ _ ?_
          clear hK K
          refine wpAny_take (i := 3) (v := .string (⟨#[115]⟩ ++ ⟨D.toArray⟩)) rfl (by kernel_rfl) (by kernel_rfl) (by kernel_rfl) (fun _ _ _ h => h) (Or.inl ⟨by kernel_rfl, ?_⟩) ?_
          · intro w; go_simp; omega
          refine wpAny_take (i := 10) (v := ?_) rfl (by kernel_rfl) (by kernel_rfl) (by kernel_rfl) (fun _ _ _ h => h) (Or.inl ⟨by kernel_rfl, ?_⟩) ?_
          rotate_left
          · intro w; go_simp; first | done | with_reducible rfl
          refine relist (l' := #[true, true, true, true, true, true, true, true, true, true, true, false, false]) (by kernel_rfl) ?_
          exact T1_2_5_8 _ O ⟨(HX.out.trans (hb.mono HX.out.size)), rfl, trivial⟩
        · go_simp
          refine hK _ _ ?_
          clear hK K
          refine relist (l' := #[true, true, false, false, true, true, true, true, true, true, false, true, false]) (by kernel_rfl) ?_
          exact T1_5_8_11 _ X.heap.size ⟨(HX.out.trans ((glh.new1 X (.cells #[str [], str [], .int .i64 0, .int .i64 0] 25)).mono HX.out.size)), (heap_alloc_new X (.cells #[str [], str [], .int .i64 0, .int .i64 0] 25)), HX.out.size⟩
      refine split #[true, true, false, false, true, true, true, true, false, false, false, true, false] (fun O => { tmps := #[.agg #[str s, str t, .int .i64 x, .int .i64 y], .int .i64 now, .pointer (some ⟨w.heap.size, 0, none⟩), undef, .pointer (some ⟨w.heap.size + 1, 0, none⟩), .pointer (some ⟨O, 0, none⟩), .int .i64 now, .pointer (some ⟨w.heap.size, 2, none⟩), .int .i64 x, .int .i64 (now - x), .bool false, undef, undef, .pointer (some ⟨w.heap.size, 3, none⟩), .int .i64 y, undef, undef, .pointer (some ⟨w.heap.size, 0, none⟩), str s, .int .i64 now, .pointer (some ⟨w.heap.size, 3, none⟩), undef, undef, undef, undef, undef, undef, undef, undef, undef, undef, undef, undef, undef, undef, undef], defers := [] }) 6 (fun X O => Below W.heap.size W X ∧ X.heap[O]? = some (.cells #[str [], str [], .int .i64 0, .int .i64 0] 25) ∧ W.heap.size ≤ O) ?_ (fun T1_5_11 => ?_)
      · rintro X O ⟨hX, hO, hW⟩
        obtain ⟨k0, k3, kz⟩ := HC.out X hX
        have HX := Lib.hid hX
        have HO := Lib.hid hO
        have HWO := Lib.hid hW
        clear hX hO hW
        refine wpAny_ready (rs := [2, 8]) (by kernel_rfl) (by simp) ?_
        refine AllReady.cons rfl (fun K hK => ?_) (AllReady.cons rfl (fun K hK => ?_) AllReady.nil)
        · go_simp
          refine (DG2.out X HX.out).mono ?_
          rintro e x1 ⟨rfl, hb⟩
          refine hK _ _ ?_
          clear hK K
          refine wpAny_take (i := 3) (v := .string (⟨#[115]⟩ ++ ⟨D.toArray⟩)) rfl (by kernel_rfl) (by kernel_rfl) (by kernel_rfl) (fun _ _ _ h => h) (Or.inl ⟨by kernel_rfl, ?_⟩) ?_
          · intro w; go_simp; omega
          refine relist (l' := #[true, true, true, true, true, true, true, true, false, false, false, true, false]) (by kernel_rfl) ?_
          exact T1_2_5_11 _ O ⟨(HX.out.trans (hb.mono HX.out.size)), (glh.keptB HO.out hb), HWO.out⟩
        · go_simp
          refine hK _ _ ?_
          clear hK K
          refine wpAny_take (i := 9) (v := ?_) rfl (by kernel_rfl) (by kernel_rfl) (by kernel_rfl) (fun _ _ _ h => h) (Or.inl ⟨by kernel_rfl, ?_⟩) ?_
          rotate_left
          · intro w; go_simp; first | done | with_reducible rfl
          refine relist (l' := #[true, true, false, false, true, true, true, true, true, true, false, true, false]) (by kernel_rfl) ?_
          exact T1_5_8_11 _ O ⟨HX.out, HO.out, HWO.out⟩
      refine split #[true, true, false, false, true, false, true, true, true, true, false, true, false] (fun O => { tmps := #[.agg #[str s, str t, .int .i64 x, .int .i64 y], .int .i64 now, .pointer (some ⟨w.heap.size, 0, none⟩), undef, .pointer (some ⟨w.heap.size + 1, 0, none⟩), .pointer (some ⟨O, 0, none⟩), .int .i64 now, .pointer (some ⟨w.heap.size, 2, none⟩), .int .i64 x, .int .i64 (now - x), .bool false, undef, undef, .pointer (some ⟨w.heap.size, 3, none⟩), .int .i64 y, undef, undef, .pointer (some ⟨w.heap.size, 0, none⟩), undef, .int .i64 now, .pointer (some ⟨w.heap.size, 3, none⟩), .int .i64 y, .int .i64 (y + 1), undef, undef, undef, undef, undef, undef, undef, undef, undef, undef, undef, undef, undef], defers := [] }) 5 (fun X O => Below W.heap.size W X ∧ X.heap[O]? = some (.cells #[str [], str [], .int .i64 0, .int .i64 0] 25) ∧ W.heap.size ≤ O) ?_ (fun T1_8_11 => ?_)
      · rintro X O ⟨hX, hO, hW⟩
        obtain ⟨k0, k3, kz⟩ := HC.out X hX
        have HX := Lib.hid hX
        have HO := Lib.hid hO
        have HWO := Lib.hid hW
        clear hX hO hW
        refine wpAny_ready (rs := [2, 5]) (by kernel_rfl) (by simp) ?_
        refine AllReady.cons rfl (fun K hK => ?_) (AllReady.cons rfl (fun K hK => ?_) AllReady.nil)
        · go_simp
          refine (DG2.out X HX.out).mono ?_
          rintro e x1 ⟨rfl, hb⟩
          refine hK _ _ ?_
          clear hK K
          refine wpAny_take (i := 3) (v := .string (⟨#[115]⟩ ++ ⟨D.toArray⟩)) rfl (by kernel_rfl) (by kernel_rfl) (by kernel_rfl) (fun _ _ _ h => h) (Or.inl ⟨by kernel_rfl, ?_⟩) ?_
          · intro w; go_simp; omega
          refine relist (l' := #[true, true, true, true, true, false, true, true, true, true, false, true, false]) (by kernel_rfl) ?_
          exact T1_2_8_11 _ O ⟨(HX.out.trans (hb.mono HX.out.size)), (glh.keptB HO.out hb), HWO.out⟩
        · go_simp
          refine hK _ _ ?_
          clear hK K
          refine relist (l' := #[true, true, false, false, true, true, true, true, true, true, false, true, false]) (by kernel_rfl) ?_
          exact T1_5_8_11 _ O ⟨HX.out, HO.out, HWO.out⟩
      refine split #[true, false, false, false, true, true, true, true, true, true, false, true, false] (fun O => { tmps := #[.agg #[str s, str t, .int .i64 x, .int .i64 y], .int .i64 now, .pointer (some ⟨w.heap.size, 0, none⟩), undef, .pointer (some ⟨w.heap.size + 1, 0, none⟩), .pointer (some ⟨O, 0, none⟩), .int .i64 now, .pointer (some ⟨w.heap.size, 2, none⟩), .int .i64 x, .int .i64 (now - x), .bool false, undef, undef, .pointer (some ⟨w.heap.size, 3, none⟩), undef, undef, undef, .pointer (some ⟨w.heap.size, 0, none⟩), str s, .int .i64 now, .pointer (some ⟨w.heap.size, 3, none⟩), .int .i64 y, .int .i64 (y + 1), undef, undef, undef, undef, undef, undef, undef, undef, undef, undef, undef, undef, undef], defers := [] }) 5 (fun X O => Below W.heap.size W X ∧ X.heap[O]? = some (.cells #[str [], str [], .int .i64 0, .int .i64 0] 25) ∧ W.heap.size ≤ O) ?_ (fun T5_8_11 => ?_)
      · rintro X O ⟨hX, hO, hW⟩
        obtain ⟨k0, k3, kz⟩ := HC.out X hX
        have HX := Lib.hid hX
        have HO := Lib.hid hO
        have HWO := Lib.hid hW
        clear hX hO hW
        refine wpAny_ready (rs := [1]) (by kernel_rfl) (by simp) ?_
        refine AllReady.cons rfl (fun K hK => ?_) AllReady.nil
        go_simp
        refine hK _ _ ?_
        clear hK K
        refine relist (l' := #[true, true, false, false, true, true, true, true, true, true, false, true, false]) (by kernel_rfl) ?_
        exact T1_5_8_11 _ O ⟨HX.out, HO.out, HWO.out⟩
      refine split #[true, true, true, true, true, false, true, true, false, false, false, false, false] (fun O => { tmps := #[.agg #[str s, str t, .int .i64 x, .int .i64 y], .int .i64 now, .pointer (some ⟨w.heap.size, 0, none⟩), undef, .pointer (some ⟨w.heap.size + 1, 0, none⟩), undef, .int .i64 now, .pointer (some ⟨w.heap.size, 2, none⟩), .int .i64 x, .int .i64 (now - x), .bool false, undef, undef, .pointer (some ⟨w.heap.size, 3, none⟩), .int .i64 y, str D, .string (⟨#[115]⟩ ++ ⟨D.toArray⟩), .pointer (some ⟨w.heap.size, 0, none⟩), undef, .int .i64 now, .pointer (some ⟨w.heap.size, 3, none⟩), undef, undef, undef, undef, undef, undef, undef, undef, undef, undef, undef, undef, undef, undef, undef], defers := [] }) 6 (fun X O => Below W.heap.size W X ∧ O = O ∧ True) ?_ (fun T1_2 => ?_)
      · rintro X O ⟨hX, hO, hW⟩
        obtain ⟨k0, k3, kz⟩ := HC.out X hX
        have HX := Lib.hid hX
        have HO := Lib.hid hO
        have HWO := Lib.hid hW
        clear hX hO hW
        refine wpAny_ready (rs := [5, 8, 11]) (by kernel_rfl) (by simp) ?_
        refine AllReady.cons rfl (fun K hK => ?_) (AllReady.cons rfl (fun K hK => ?_) (AllReady.cons rfl (fun K hK => ?_) AllReady.nil))
        · go_simp
          refine hK _ _ ?_
          clear hK K
          refine relist (l' := #[true, true, true, true, true, true, true, true, false, false, false, false, false]) (by kernel_rfl) ?_
          exact T1_2_5 _ O ⟨HX.out, rfl, trivial⟩
        · go_simp
          refine hK _ _ ?_
          clear hK K
          refine wpAny_take (i := 9) (v := ?_) rfl (by kernel_rfl) (by kernel_rfl) (by kernel_rfl) (fun _ _ _ h => h) (Or.inl ⟨by kernel_rfl, ?_⟩) ?_
          rotate_left
          · intro w; go_simp; first | done | with_reducible rfl
          refine relist (l' := #[true, true, true, true, true, false, true, true, true, true, false, false, false]) (by kernel_rfl) ?_
          exact T1_2_8 _ O ⟨HX.out, rfl, trivial⟩
        · go_simp
          refine hK _ _ ?_
          clear hK K
          refine relist (l' := #[true, true, true, true, true, false, true, true, false, false, false, true, false]) (by kernel_rfl) ?_
          exact T1_2_11 _ X.heap.size ⟨(HX.out.trans ((glh.new1 X (.cells #[str [], str [], .int .i64 0, .int .i64 0] 25)).mono HX.out.size)), (heap_alloc_new X (.cells #[str [], str [], .int .i64 0, .int .i64 0] 25)), HX.out.size⟩
      refine split #[true, true, false, false, true, true, true, true, false, false, false, false, false] (fun O => { tmps := #[.agg #[str s, str t, .int .i64 x, .int .i64 y], .int .i64 now, .pointer (some ⟨w.heap.size, 0, none⟩), undef, .pointer (some ⟨w.heap.size + 1, 0, none⟩), undef, .int .i64 now, .pointer (some ⟨w.heap.size, 2, none⟩), .int .i64 x, .int .i64 (now - x), .bool false, undef, undef, .pointer (some ⟨w.heap.size, 3, none⟩), .int .i64 y, undef, undef, .pointer (some ⟨w.heap.size, 0, none⟩), str s, .int .i64 now, .pointer (some ⟨w.heap.size, 3, none⟩), undef, undef, undef, undef, undef, undef, undef, undef, undef, undef, undef, undef, undef, undef, undef], defers := [] }) 7 (fun X O => Below W.heap.size W X ∧ O = O ∧ True) ?_ (fun T1_5 => ?_)
      · rintro X O ⟨hX, hO, hW⟩
        obtain ⟨k0, k3, kz⟩ := HC.out X hX
        have HX := Lib.hid hX
        have HO := Lib.hid hO
        have HWO := Lib.hid hW
        clear hX hO hW
        refine wpAny_ready (rs := [2, 8, 11]) (by kernel_rfl) (by simp) ?_
        refine AllReady.cons rfl (fun K hK => ?_) (AllReady.cons rfl (fun K hK => ?_) (AllReady.cons rfl (fun K hK => ?_) AllReady.nil))
        · go_simp
          refine (DG2.out X HX.out).mono ?_
          rintro e x1 ⟨rfl, hb⟩
          refine hK _ _ ?_
          clear hK K
          refine wpAny_take (i := 3) (v := .string (⟨#[115]⟩ ++ ⟨D.toArray⟩)) rfl (by kernel_rfl) (by kernel_rfl) (by kernel_rfl) (fun _ _ _ h => h) (Or.inl ⟨by kernel_rfl, ?_⟩) ?_
          · intro w; go_simp; omega
          refine relist (l' := #[true, true, true, true, true, true, true, true, false, false, false, false, false]) (by kernel_rfl) ?_
          exact T1_2_5 _ O ⟨(HX.out.trans (hb.mono HX.out.size)), rfl, trivial⟩
        · go_simp
          refine hK _ _ ?_
          clear hK K
          refine wpAny_take (i := 9) (v := ?_) rfl (by kernel_rfl) (by kernel_rfl) (by kernel_rfl) (fun _ _ _ h => h) (Or.inl ⟨by kernel_rfl, ?_⟩) ?_
          rotate_left
          · intro w; go_simp; first | done | with_reducible rfl
          refine relist (l' := #[true, true, false, false, true, true, true, true, true, true, false, false, false]) (by kernel_rfl) ?_
          exact T1_5_8 _ O ⟨HX.out, rfl, trivial⟩
        · go_simp
          refine hK _ _ ?_
          clear hK K
          refine relist (l' := #[true, true, false, false, true, true, true, true, false, false, false, true, false]) (by kernel_rfl) ?_
          exact T1_5_11 _ X.heap.size ⟨(HX.out.trans ((glh.new1 X (.cells #[str [], str [], .int .i64 0, .int .i64 0] 25)).mono HX.out.size)), (heap_alloc_new X (.cells #[str [], str [], .int .i64 0, .int .i64 0] 25)), HX.out.size⟩
      refine split #[true, true, false, false, true, false, true, true, true, true, false, false, false] (fun O => { tmps := #[.agg #[str s, str t, .int .i64 x, .int .i64 y], .int .i64 now, .pointer (some ⟨w.heap.size, 0, none⟩), undef, .pointer (some ⟨w.heap.size + 1, 0, none⟩), undef, .int .i64 now, .pointer (some ⟨w.heap.size, 2, none⟩), .int .i64 x, .int .i64 (now - x), .bool false, undef, undef, .pointer (some ⟨w.heap.size, 3, none⟩), .int .i64 y, undef, undef, .pointer (some ⟨w.heap.size, 0, none⟩), undef, .int .i64 now, .pointer (some ⟨w.heap.size, 3, none⟩), .int .i64 y, .int .i64 (y + 1), undef, undef, undef, undef, undef, undef, undef, undef, undef, undef, undef, undef, undef], defers := [] }) 6 (fun X O => Below W.heap.size W X ∧ O = O ∧ True) ?_ (fun T1_8 => ?_)
      · rintro X O ⟨hX, hO, hW⟩
        obtain ⟨k0, k3, kz⟩ := HC.out X hX
        have HX := Lib.hid hX
        have HO := Lib.hid hO
        have HWO := Lib.hid hW
        clear hX hO hW
        refine wpAny_ready (rs := [2, 5, 11]) (by kernel_rfl) (by simp) ?_
        refine AllReady.cons rfl (fun K hK => ?_) (AllReady.cons rfl (fun K hK => ?_) (AllReady.cons rfl (fun K hK => ?_) AllReady.nil))
        · go_simp
          refine (DG2.out X HX.out).mono ?_
          rintro e x1 ⟨rfl, hb⟩
          refine hK _ _ ?_
          clear hK K
          refine wpAny_take (i := 3) (v := .string (⟨#[115]⟩ ++ ⟨D.toArray⟩)) rfl (by kernel_rfl) (by kernel_rfl) (by kernel_rfl) (fun _ _ _ h => h) (Or.inl ⟨by kernel_rfl, ?_⟩) ?_
          · intro w; go_simp; omega
          refine relist (l' := #[true, true, true, true, true, false, true, true, true, true, false, false, false]) (by kernel_rfl) ?_
          exact T1_2_8 _ O ⟨(HX.out.trans (hb.mono HX.out.size)), rfl, trivial⟩
        · go_simp
          refine hK _ _ ?_
          clear hK K
          refine relist (l' := #[true, true, false, false, true, true, true, true, true, true, false, false, false]) (by kernel_rfl) ?_
          exact T1_5_8 _ O ⟨HX.out, rfl, trivial⟩
        · go_simp
          refine hK _ _ ?_
          clear hK K
          refine relist (l' := #[true, true, false, false, true, false, true, true, true, true, false, true, false]) (by kernel_rfl) ?_
          exact T1_8_11 _ X.heap.size ⟨(HX.out.trans ((glh.new1 X (.cells #[str [], str [], .int .i64 0, .int .i64 0] 25)).mono HX.out.size)), (heap_alloc_new X (.cells #[str [], str [], .int .i64 0, .int .i64 0] 25)), HX.out.size⟩
      refine split #[true, true, false, false, true, false, true, true, false, false, false, true, false] (fun O => { tmps := #[.agg #[str s, str t, .int .i64 x, .int .i64 y], .int .i64 now, .pointer (some ⟨w.heap.size, 0, none⟩), undef, .pointer (some ⟨w.heap.size + 1, 0, none⟩), .pointer (some ⟨O, 0, none⟩), .int .i64 now, .pointer (some ⟨w.heap.size, 2, none⟩), .int .i64 x, .int .i64 (now - x), .bool false, undef, undef, .pointer (some ⟨w.heap.size, 3, none⟩), .int .i64 y, undef, undef, .pointer (some ⟨w.heap.size, 0, none⟩), undef, .int .i64 now, .pointer (some ⟨w.heap.size, 3, none⟩), undef, undef, undef, undef, undef, undef, undef, undef, undef, undef, undef, undef, undef, undef, undef], defers := [] }) 7 (fun X O => Below W.heap.size W X ∧ X.heap[O]? = some (.cells #[str [], str [], .int .i64 0, .int .i64 0] 25) ∧ W.heap.size ≤ O) ?_ (fun T1_11 => ?_)
      · rintro X O ⟨hX, hO, hW⟩
        obtain ⟨k0, k3, kz⟩ := HC.out X hX
        have HX := Lib.hid hX
        have HO := Lib.hid hO
        have HWO := Lib.hid hW
        clear hX hO hW
        refine wpAny_ready (rs := [2, 5, 8]) (by kernel_rfl) (by simp) ?_
        refine AllReady.cons rfl (fun K hK => ?_) (AllReady.cons rfl (fun K hK => ?_) (AllReady.cons rfl (fun K hK => ?_) AllReady.nil))
        · go_simp
          refine (DG2.out X HX.out).mono ?_
          rintro e x1 ⟨rfl, hb⟩
          refine hK _ _ ?_
          clear hK K
          refine wpAny_take (i := 3) (v := .string (⟨#[115]⟩ ++ ⟨D.toArray⟩)) rfl (by kernel_rfl) (by kernel_rfl) (by kernel_rfl) (fun _ _ _ h => h) (Or.inl ⟨by kernel_rfl, ?_⟩) ?_
          · intro w; go_simp; omega
          refine relist (l' := #[true, true, true, true, true, false, true, true, false, false, false, true, false]) (by kernel_rfl) ?_
          exact T1_2_11 _ O ⟨(HX.out.trans (hb.mono HX.out.size)), (glh.keptB HO.out hb), HWO.out⟩
        · go_simp
          refine hK _ _ ?_
          clear hK K
          refine relist (l' := #[true, true, false, false, true, true, true, true, false, false, false, true, false]) (by kernel_rfl) ?_
          exact T1_5_11 _ O ⟨HX.out, HO.out, HWO.out⟩
        · go_simp
          refine hK _ _ ?_
          clear hK K
          refine wpAny_take (i := 9) (v := ?_) rfl (by kernel_rfl) (by kernel_rfl) (by kernel_rfl) (fun _ _ _ h => h) (Or.inl ⟨by kernel_rfl, ?_⟩) ?_
          rotate_left
          · intro w; go_simp; first | done | with_reducible rfl
          refine relist (l' := #[true, true, false, false, true, false, true, true, true, true, false, true, false]) (by kernel_rfl) ?_
          exact T1_8_11 _ O ⟨HX.out, HO.out, HWO.out⟩
      refine split #[true, false, false, false, true, true, true, true, true, true, false, false, false] (fun O => { tmps := #[.agg #[str s, str t, .int .i64 x, .int .i64 y], .int .i64 now, .pointer (some ⟨w.heap.size, 0, none⟩), undef, .pointer (some ⟨w.heap.size + 1, 0, none⟩), undef, .int .i64 now, .pointer (some ⟨w.heap.size, 2, none⟩), .int .i64 x, .int .i64 (now - x), .bool false, undef, undef, .pointer (some ⟨w.heap.size, 3, none⟩), undef, undef, undef, .pointer (some ⟨w.heap.size, 0, none⟩), str s, .int .i64 now, .pointer (some ⟨w.heap.size, 3, none⟩), .int .i64 y, .int .i64 (y + 1), undef, undef, undef, undef, undef, undef, undef, undef, undef, undef, undef, undef, undef], defers := [] }) 6 (fun X O => Below W.heap.size W X ∧ O = O ∧ True) ?_ (fun T5_8 => ?_)
      · rintro X O ⟨hX, hO, hW⟩
        obtain ⟨k0, k3, kz⟩ := HC.out X hX
        have HX := Lib.hid hX
        have HO := Lib.hid hO
        have HWO := Lib.hid hW
        clear hX hO hW
        refine wpAny_ready (rs := [1, 11]) (by kernel_rfl) (by simp) ?_
        refine AllReady.cons rfl (fun K hK => ?_) (AllReady.cons rfl (fun K hK => ?_) AllReady.nil)
        · go_simp
          refine hK _ _ ?_
          clear hK K
          refine relist (l' := #[true, true, false, false, true, true, true, true, true, true, false, false, false]) (by kernel_rfl) ?_
          exact T1_5_8 _ O ⟨HX.out, rfl, trivial⟩
        · go_simp
          refine hK _ _ ?_
          clear hK K
          refine relist (l' := #[true, false, false, false, true, true, true, true, true, true, false, true, false]) (by kernel_rfl) ?_
          exact T5_8_11 _ X.heap.size ⟨(HX.out.trans ((glh.new1 X (.cells #[str [], str [], .int .i64 0, .int .i64 0] 25)).mono HX.out.size)), (heap_alloc_new X (.cells #[str [], str [], .int .i64 0, .int .i64 0] 25)), HX.out.size⟩
      refine split #[true, false, false, false, true, true, true, true, false, false, false, true, false] (fun O => { tmps := #[.agg #[str s, str t, .int .i64 x, .int .i64 y], .int .i64 now, .pointer (some ⟨w.heap.size, 0, none⟩), undef, .pointer (some ⟨w.heap.size + 1, 0, none⟩), .pointer (some ⟨O, 0, none⟩), .int .i64 now, .pointer (some ⟨w.heap.size, 2, none⟩), .int .i64 x, .int .i64 (now - x), .bool false, undef, undef, .pointer (some ⟨w.heap.size, 3, none⟩), undef, undef, undef, .pointer (some ⟨w.heap.size, 0, none⟩), str s, .int .i64 now, .pointer (some ⟨w.heap.size, 3, none⟩), undef, undef, undef, undef, undef, undef, undef, undef, undef, undef, undef, undef, undef, undef, undef], defers := [] }) 7 (fun X O => Below W.heap.size W X ∧ X.heap[O]? = some (.cells #[str [], str [], .int .i64 0, .int .i64 0] 25) ∧ W.heap.size ≤ O) ?_ (fun T5_11 => ?_)
      · rintro X O ⟨hX, hO, hW⟩
        obtain ⟨k0, k3, kz⟩ := HC.out X hX
        have HX := Lib.hid hX
        have HO := Lib.hid hO
        have HWO := Lib.hid hW
        clear hX hO hW
        refine wpAny_ready (rs := [1, 8]) (by kernel_rfl) (by simp) ?_
        refine AllReady.cons rfl (fun K hK => ?_) (AllReady.cons rfl (fun K hK => ?_) AllReady.nil)
        · go_simp
          refine hK _ _ ?_
          clear hK K
          refine relist (l' := #[true, true, false, false, true, true, true, true, false, false, false, true, false]) (by kernel_rfl) ?_
          exact T1_5_11 _ O ⟨HX.out, HO.out, HWO.out⟩
        · go_simp
          refine hK _ _ ?_
          clear hK K
          refine wpAny_take (i := 9) (v := ?_) rfl (by kernel_rfl) (by kernel_rfl) (by kernel_rfl) (fun _ _ _ h => h) (Or.inl ⟨by kernel_rfl, ?_⟩) ?_
          rotate_left
          · intro w; go_simp; first | done | with_reducible rfl
          refine relist (l' := #[true, false, false, false, true, true, true, true, true, true, false, true, false]) (by kernel_rfl) ?_
          exact T5_8_11 _ O ⟨HX.out, HO.out, HWO.out⟩
      refine split #[true, false, false, false, true, false, true, true, true, true, false, true, false] (fun O => { tmps := #[.agg #[str s, str t, .int .i64 x, .int .i64 y], .int .i64 now, .pointer (some ⟨w.heap.size, 0, none⟩), undef, .pointer (some ⟨w.heap.size + 1, 0, none⟩), .pointer (some ⟨O, 0, none⟩), .int .i64 now, .pointer (some ⟨w.heap.size, 2, none⟩), .int .i64 x, .int .i64 (now - x), .bool false, undef, undef, .pointer (some ⟨w.heap.size, 3, none⟩), undef, undef, undef, .pointer (some ⟨w.heap.size, 0, none⟩), undef, .int .i64 now, .pointer (some ⟨w.heap.size, 3, none⟩), .int .i64 y, .int .i64 (y + 1), undef, undef, undef, undef, undef, undef, undef, undef, undef, undef, undef, undef, undef], defers := [] }) 6 (fun X O => Below W.heap.size W X ∧ X.heap[O]? = some (.cells #[str [], str [], .int .i64 0, .int .i64 0] 25) ∧ W.heap.size ≤ O) ?_ (fun T8_11 => ?_)
      · rintro X O ⟨hX, hO, hW⟩
        obtain ⟨k0, k3, kz⟩ := HC.out X hX
        have HX := Lib.hid hX
        have HO := Lib.hid hO
        have HWO := Lib.hid hW
        clear hX hO hW
        refine wpAny_ready (rs := [1, 5]) (by kernel_rfl) (by simp) ?_
        refine AllReady.cons rfl (fun K hK => ?_) (AllReady.cons rfl (fun K hK => ?_) AllReady.nil)
        · go_simp
          refine hK _ _ ?_
          clear hK K
          refine relist (l' := #[true, true, false, false, true, false, true, true, true, true, false, true, false]) (by kernel_rfl) ?_
          exact T1_8_11 _ O ⟨HX.out, HO.out, HWO.out⟩
        · go_simp
          refine hK _ _ ?_
          clear hK K
          refine relist (l' := #[true, false, false, false, true, true, true, true, true, true, false, true, false]) (by kernel_rfl) ?_
          exact T5_8_11 _ O ⟨HX.out, HO.out, HWO.out⟩
      refine split #[true, true, false, false, true, false, true, true, false, false, false, false, false] (fun O => { tmps := #[.agg #[str s, str t, .int .i64 x, .int .i64 y], .int .i64 now, .pointer (some ⟨w.heap.size, 0, none⟩), undef, .pointer (some ⟨w.heap.size + 1, 0, none⟩), undef, .int .i64 now, .pointer (some ⟨w.heap.size, 2, none⟩), .int .i64 x, .int .i64 (now - x), .bool false, undef, undef, .pointer (some ⟨w.heap.size, 3, none⟩), .int .i64 y, undef, undef, .pointer (some ⟨w.heap.size, 0, none⟩), undef, .int .i64 now, .pointer (some ⟨w.heap.size, 3, none⟩), undef, undef, undef, undef, undef, undef, undef, undef, undef, undef, undef, undef, undef, undef, undef], defers := [] }) 8 (fun X O => Below W.heap.size W X ∧ O = O ∧ True) ?_ (fun T1 => ?_)
      · rintro X O ⟨hX, hO, hW⟩
        obtain ⟨k0, k3, kz⟩ := HC.out X hX
        have HX := Lib.hid hX
        have HO := Lib.hid hO
        have HWO := Lib.hid hW
        clear hX hO hW
        refine wpAny_ready (rs := [2, 5, 8, 11]) (by kernel_rfl) (by simp) ?_
        refine AllReady.cons rfl (fun K hK => ?_) (AllReady.cons rfl (fun K hK => ?_) (AllReady.cons rfl (fun K hK => ?_) (AllReady.cons rfl (fun K hK => ?_) AllReady.nil)))
        · go_simp
          refine (DG2.out X HX.out).mono ?_
          rintro e x1 ⟨rfl, hb⟩
          refine hK _ _ ?_
          clear hK K
          refine wpAny_take (i := 3) (v := .string (⟨#[115]⟩ ++ ⟨D.toArray⟩)) rfl (by kernel_rfl) (by kernel_rfl) (by kernel_rfl) (fun _ _ _ h => h) (Or.inl ⟨by kernel_rfl, ?_⟩) ?_
          · intro w; go_simp; omega
          refine relist (l' := #[true, true, true, true, true, false, true, true, false, false, false, false, false]) (by kernel_rfl) ?_
          exact T1_2 _ O ⟨(HX.out.trans (hb.mono HX.out.size)), rfl, trivial⟩
        · go_simp
          refine hK _ _ ?_
          clear hK K
          refine relist (l' := #[true, true, false, false, true, true, true, true, false, false, false, false, false]) (by kernel_rfl) ?_
          exact T1_5 _ O ⟨HX.out, rfl, trivial⟩
        · go_simp
          refine hK _ _ ?_
          clear hK K
          refine wpAny_take (i := 9) (v := ?_) rfl (by kernel_rfl) (by kernel_rfl) (by kernel_rfl) (fun _ _ _ h => h) (Or.inl ⟨by kernel_rfl, ?_⟩) ?_
          rotate_left
          · intro w; go_simp; first | done | with_reducible rfl
          refine relist (l' := #[true, true, false, false, true, false, true, true, true, true, false, false, false]) (by kernel_rfl) ?_
          exact T1_8 _ O ⟨HX.out, rfl, trivial⟩
        · go_simp
          refine hK _ _ ?_
          clear hK K
          refine relist (l' := #[true, true, false, false, true, false, true, true, false, false, false, true, false]) (by kernel_rfl) ?_
          exact T1_11 _ X.heap.size ⟨(HX.out.trans ((glh.new1 X (.cells #[str [], str [], .int .i64 0, .int .i64 0] 25)).mono HX.out.size)), (heap_alloc_new X (.cells #[str [], str [], .int .i64 0, .int .i64 0] 25)), HX.out.size⟩
      refine split #[true, false, false, false, true, true, true, true, false, false, false, false, false] (fun O => { tmps := #[.agg #[str s, str t, .int .i64 x, .int .i64 y], .int .i64 now, .pointer (some ⟨w.heap.size, 0, none⟩), undef, .pointer (some ⟨w.heap.size + 1, 0, none⟩), undef, .int .i64 now, .pointer (some ⟨w.heap.size, 2, none⟩), .int .i64 x, .int .i64 (now - x), .bool false, undef, undef, .pointer (some ⟨w.heap.size, 3, none⟩), undef, undef, undef, .pointer (some ⟨w.heap.size, 0, none⟩), str s, .int .i64 now, .pointer (some ⟨w.heap.size, 3, none⟩), undef, undef, undef, undef, undef, undef, undef, undef, undef, undef, undef, undef, undef, undef, undef], defers := [] }) 8 (fun X O => Below W.heap.size W X ∧ O = O ∧ True) ?_ (fun T5 => ?_)
      · rintro X O ⟨hX, hO, hW⟩
        obtain ⟨k0, k3, kz⟩ := HC.out X hX
        have HX := Lib.hid hX
        have HO := Lib.hid hO
        have HWO := Lib.hid hW
        clear hX hO hW
        refine wpAny_ready (rs := [1, 8, 11]) (by kernel_rfl) (by simp) ?_
        refine AllReady.cons rfl (fun K hK => ?_) (AllReady.cons rfl (fun K hK => ?_) (AllReady.cons rfl (fun K hK => ?_) AllReady.nil))
        · go_simp
          refine hK _ _ ?_
          clear hK K
          refine relist (l' := #[true, true, false, false, true, true, true, true, false, false, false, false, false]) (by kernel_rfl) ?_
          exact T1_5 _ O ⟨HX.out, rfl, trivial⟩
        · go_simp
          refine hK _ _ ?_
          clear hK K
          refine wpAny_take (i := 9) (v := ?_) rfl (by kernel_rfl) (by kernel_rfl) (by kernel_rfl) (fun _ _ _ h => h) (Or.inl ⟨by kernel_rfl, ?_⟩) ?_
          rotate_left
          · intro w; go_simp; first | done | with_reducible rfl
          refine relist (l' := #[true, false, false, false, true, true, true, true, true, true, false, false, false]) (by kernel_rfl) ?_
          exact T5_8 _ O ⟨HX.out, rfl, trivial⟩
        · go_simp
          refine hK _ _ ?_
          clear hK K
          refine relist (l' := #[true, false, false, false, true, true, true, true, false, false, false, true, false]) (by kernel_rfl) ?_
          exact T5_11 _ X.heap.size ⟨(HX.out.trans ((glh.new1 X (.cells #[str [], str [], .int .i64 0, .int .i64 0] 25)).mono HX.out.size)), (heap_alloc_new X (.cells #[str [], str [], .int .i64 0, .int .i64 0] 25)), HX.out.size⟩
      refine split #[true, false, false, false, true, false, true, true, true, true, false, false, false] (fun O => { tmps := #[.agg #[str s, str t, .int .i64 x, .int .i64 y], .int .i64 now, .pointer (some ⟨w.heap.size, 0, none⟩), undef, .pointer (some ⟨w.heap.size + 1, 0, none⟩), undef, .int .i64 now, .pointer (some ⟨w.heap.size, 2, none⟩), .int .i64 x, .int .i64 (now - x), .bool false, undef, undef, .pointer (some ⟨w.heap.size, 3, none⟩), undef, undef, undef, .pointer (some ⟨w.heap.size, 0, none⟩), undef, .int .i64 now, .pointer (some ⟨w.heap.size, 3, none⟩), .int .i64 y, .int .i64 (y + 1), undef, undef, undef, undef, undef, undef, undef, undef, undef, undef, undef, undef, undef], defers := [] }) 7 (fun X O => Below W.heap.size W X ∧ O = O ∧ True) ?_ (fun T8 => ?_)
      · rintro X O ⟨hX, hO, hW⟩
        obtain ⟨k0, k3, kz⟩ := HC.out X hX
        have HX := Lib.hid hX
        have HO := Lib.hid hO
        have HWO := Lib.hid hW
        clear hX hO hW
        refine wpAny_ready (rs := [1, 5, 11]) (by kernel_rfl) (by simp) ?_
        refine AllReady.cons rfl (fun K hK => ?_) (AllReady.cons rfl (fun K hK => ?_) (AllReady.cons rfl (fun K hK => ?_) AllReady.nil))
        · go_simp
          refine hK _ _ ?_
          clear hK K
          refine relist (l' := #[true, true, false, false, true, false, true, true, true, true, false, false, false]) (by kernel_rfl) ?_
          exact T1_8 _ O ⟨HX.out, rfl, trivial⟩
        · go_simp
          refine hK _ _ ?_
          clear hK K
          refine relist (l' := #[true, false, false, false, true, true, true, true, true, true, false, false, false]) (by kernel_rfl) ?_
          exact T5_8 _ O ⟨HX.out, rfl, trivial⟩
        · go_simp
          refine hK _ _ ?_
          clear hK K
          refine relist (l' := #[true, false, false, false, true, false, true, true, true, true, false, true, false]) (by kernel_rfl) ?_
          exact T8_11 _ X.heap.size ⟨(HX.out.trans ((glh.new1 X (.cells #[str [], str [], .int .i64 0, .int .i64 0] 25)).mono HX.out.size)), (heap_alloc_new X (.cells #[str [], str [], .int .i64 0, .int .i64 0] 25)), HX.out.size⟩
      refine split #[true, false, false, false, true, false, true, true, false, false, false, true, false] (fun O => { tmps := #[.agg #[str s, str t, .int .i64 x, .int .i64 y], .int .i64 now, .pointer (some ⟨w.heap.size, 0, none⟩), undef, .pointer (some ⟨w.heap.size + 1, 0, none⟩), .pointer (some ⟨O, 0, none⟩), .int .i64 now, .pointer (some ⟨w.heap.size, 2, none⟩), .int .i64 x, .int .i64 (now - x), .bool false, undef, undef, .pointer (some ⟨w.heap.size, 3, none⟩), undef, undef, undef, .pointer (some ⟨w.heap.size, 0, none⟩), undef, .int .i64 now, .pointer (some ⟨w.heap.size, 3, none⟩), undef, undef, undef, undef, undef, undef, undef, undef, undef, undef, undef, undef, undef, undef, undef], defers := [] }) 8 (fun X O => Below W.heap.size W X ∧ X.heap[O]? = some (.cells #[str [], str [], .int .i64 0, .int .i64 0] 25) ∧ W.heap.size ≤ O) ?_ (fun T11 => ?_)
      · rintro X O ⟨hX, hO, hW⟩
        obtain ⟨k0, k3, kz⟩ := HC.out X hX
        have HX := Lib.hid hX
        have HO := Lib.hid hO
        have HWO := Lib.hid hW
        clear hX hO hW
        refine wpAny_ready (rs := [1, 5, 8]) (by kernel_rfl) (by simp) ?_
        refine AllReady.cons rfl (fun K hK => ?_) (AllReady.cons rfl (fun K hK => ?_) (AllReady.cons rfl (fun K hK => ?_) AllReady.nil))
        · go_simp
          refine hK _ _ ?_
          clear hK K
          refine relist (l' := #[true, true, false, false, true, false, true, true, false, false, false, true, false]) (by kernel_rfl) ?_
          exact T1_11 _ O ⟨HX.out, HO.out, HWO.out⟩
        · go_simp
          refine hK _ _ ?_
          clear hK K
          refine relist (l' := #[true, false, false, false, true, true, true, true, false, false, false, true, false]) (by kernel_rfl) ?_
          exact T5_11 _ O ⟨HX.out, HO.out, HWO.out⟩
        · go_simp
          refine hK _ _ ?_
          clear hK K
          refine wpAny_take (i := 9) (v := ?_) rfl (by kernel_rfl) (by kernel_rfl) (by kernel_rfl) (fun _ _ _ h => h) (Or.inl ⟨by kernel_rfl, ?_⟩) ?_
          rotate_left
          · intro w; go_simp; first | done | with_reducible rfl
          refine relist (l' := #[true, false, false, false, true, false, true, true, true, true, false, true, false]) (by kernel_rfl) ?_
          exact T8_11 _ O ⟨HX.out, HO.out, HWO.out⟩
      refine split #[true, false, false, false, true, false, true, true, false, false, false, false, false] (fun O => { tmps := #[.agg #[str s, str t, .int .i64 x, .int .i64 y], .int .i64 now, .pointer (some ⟨w.heap.size, 0, none⟩), undef, .pointer (some ⟨w.heap.size + 1, 0, none⟩), undef, .int .i64 now, .pointer (some ⟨w.heap.size, 2, none⟩), .int .i64 x, .int .i64 (now - x), .bool false, undef, undef, .pointer (some ⟨w.heap.size, 3, none⟩), undef, undef, undef, .pointer (some ⟨w.heap.size, 0, none⟩), undef, .int .i64 now, .pointer (some ⟨w.heap.size, 3, none⟩), undef, undef, undef, undef, undef, undef, undef, undef, undef, undef, undef, undef, undef, undef, undef], defers := [] }) 9 (fun X O => Below W.heap.size W X ∧ O = O ∧ True) ?_ (fun T0 => ?_)
      · rintro X O ⟨hX, hO, hW⟩
        obtain ⟨k0, k3, kz⟩ := HC.out X hX
        have HX := Lib.hid hX
        have HO := Lib.hid hO
        have HWO := Lib.hid hW
        clear hX hO hW
        refine wpAny_ready (rs := [1, 5, 8, 11]) (by kernel_rfl) (by simp) ?_
        refine AllReady.cons rfl (fun K hK => ?_) (AllReady.cons rfl (fun K hK => ?_) (AllReady.cons rfl (fun K hK => ?_) (AllReady.cons rfl (fun K hK => ?_) AllReady.nil)))
        · go_simp
          refine hK _ _ ?_
          clear hK K
          refine relist (l' := #[true, true, false, false, true, false, true, true, false, false, false, false, false]) (by kernel_rfl) ?_
          exact T1 _ O ⟨HX.out, rfl, trivial⟩
        · go_simp
          refine hK _ _ ?_
          clear hK K
          refine relist (l' := #[true, false, false, false, true, true, true, true, false, false, false, false, false]) (by kernel_rfl) ?_
          exact T5 _ O ⟨HX.out, rfl, trivial⟩
        · go_simp
          refine hK _ _ ?_
          clear hK K
          refine wpAny_take (i := 9) (v := ?_) rfl (by kernel_rfl) (by kernel_rfl) (by kernel_rfl) (fun _ _ _ h => h) (Or.inl ⟨by kernel_rfl, ?_⟩) ?_
          rotate_left
          · intro w; go_simp; first | done | with_reducible rfl
          refine relist (l' := #[true, false, false, false, true, false, true, true, true, true, false, false, false]) (by kernel_rfl) ?_
          exact T8 _ O ⟨HX.out, rfl, trivial⟩
        · go_simp
          refine hK _ _ ?_
          clear hK K
          refine relist (l' := #[true, false, false, false, true, false, true, true, false, false, false, true, false]) (by kernel_rfl) ?_
          exact T11 _ X.heap.size ⟨(HX.out.trans ((glh.new1 X (.cells #[str [], str [], .int .i64 0, .int .i64 0] 25)).mono HX.out.size)), (heap_alloc_new X (.cells #[str [], str [], .int .i64 0, .int .i64 0] 25)), HX.out.size⟩
      exact T0 _ 0 ⟨(Still.drewN W 1).below _, rfl, trivial⟩
    case rest =>
    obtain ⟨O, rfl, hO, hOz, hX⟩ := hcut
    rename World => V
    have HX := Lib.hid (HK.out.trans (hX.mono HK.out.size))
    have y0 := glh.keptB X0.out hX
    have y1 := glh.keptB X1.out hX
    have hz1 : w.heap.size + 1 < W.heap.size := (Array.getElem?_eq_some_iff.1 X1.out).1
    clear hX HC DG2 DG X0 X1
    obtain ⟨j0, j1, j2, j3, jz, jf⟩ := four y0
    obtain ⟨o0, o1, o2, o3, oz, of⟩ := four hO
    have hO1 : w.heap.size ≤ O := by omega
    by_cases h240 : 240 ≤ now - x
    · have d : decide (240 ≤ now - x) = true := decide_eq_true h240
      have ij := IJ2.out
      simp only [if_pos h240] at ij
      have IJ3 := Lib.hid ij
      clear ij IJ2
      go_wp2_with fail
      have u0 := heap_setCell_same V O 1 _ _ (str []) hO
      have u1 := ((Only.setCell (w := V) (b := O) 1 (str [])).block (w.heap.size + 1) (by omega) (by omega)).trans y1
      have uB := HX.out.setCell (p := ⟨O, 1, none⟩) hO1 (str [])
      clear y0 y1 hO j0 j1 j2 j3 jz jf o0 o1 o2 o3 oz of
      refine (IJ3.out _).mono ?_
      rintro e w5 ⟨rfl, hb⟩
      obtain ⟨r0, r1, r2, r3, r4, rz, rf⟩ := five (glh.keptB u1 hb)
      obtain ⟨p0, p1, p2, p3, pz, pf⟩ := four (glh.keptB u0 hb)
      have HB5 := Lib.hid (uB.trans (hb.mono uB.size))
      clear hb u0 u1 uB
      cases b with
      | true =>
        go_wp2_with fail
        refine bodyPost_ret (v := .agg #[str (115 :: D), str [], .int .i64 now, .int .i64 (y + 1), .int .i64 0]) (by simp [results, Tryd.results11, go_sem, r0, r1, r2, r3, r4]) rfl ⟨by first | rfl | simp [h240], ?_⟩
        exact ((((HB5.out.setCell (by simp) _).setCell (by simp) _).setCell (by simp) _).setCell (by simp) _).setCell (by simp) _
      | false =>
        go_wp2_with fail
        refine bodyPost_ret (v := .agg #[str [], str [], .int .i64 0, .int .i64 0, .int .i64 9]) (by simp [results, Tryd.results11, go_sem, r0, r1, r2, r3, r4]) rfl ⟨by first | rfl | simp [h240], ?_⟩
        exact ((((HB5.out.setCell (by simp) _).setCell (by simp) _).setCell (by simp) _).setCell (by simp) _).setCell (by simp) _
    · have d : decide (240 ≤ now - x) = false := decide_eq_false h240
      have ij := IJ2.out
      simp only [if_neg h240] at ij
      have IJ3 := Lib.hid ij
      clear ij IJ2
      go_wp2_with fail
      have u0 := hO
      have u1 := y1
      have uB := HX.out
      clear y0 y1 hO j0 j1 j2 j3 jz jf o0 o1 o2 o3 oz of
      refine (IJ3.out _).mono ?_
      rintro e w5 ⟨rfl, hb⟩
      obtain ⟨r0, r1, r2, r3, r4, rz, rf⟩ := five (glh.keptB u1 hb)
      obtain ⟨p0, p1, p2, p3, pz, pf⟩ := four (glh.keptB u0 hb)
      have HB5 := Lib.hid (uB.trans (hb.mono uB.size))
      clear hb u0 u1 uB
      cases b with
      | true =>
        go_wp2_with fail
        refine bodyPost_ret (v := .agg #[str (115 :: D), str s, .int .i64 now, .int .i64 (y + 1), .int .i64 0]) (by simp [results, Tryd.results11, go_sem, r0, r1, r2, r3, r4]) rfl ⟨by first | rfl | simp [h240], ?_⟩
        exact ((((HB5.out.setCell (by simp) _).setCell (by simp) _).setCell (by simp) _).setCell (by simp) _).setCell (by simp) _
      | false =>
        go_wp2_with fail
        refine bodyPost_ret (v := .agg #[str [], str [], .int .i64 0, .int .i64 0, .int .i64 9]) (by simp [results, Tryd.results11, go_sem, r0, r1, r2, r3, r4]) rfl ⟨by first | rfl | simp [h240], ?_⟩
        exact ((((HB5.out.setCell (by simp) _).setCell (by simp) _).setCell (by simp) _).setCell (by simp) _).setCell (by simp) _
end Go.Proofs.YtdikjmhnjlalbaaDoor.gjt
