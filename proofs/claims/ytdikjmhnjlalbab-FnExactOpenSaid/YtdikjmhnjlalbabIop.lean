/- Contract of Open of the program. -/
import Derived.Test.YtdikjmhnjlalbabTxo
import Derived.Test.YtdikjmhnjlalbabGrq
import Derived.Test.YtdikjmhnjlalbabSop
import Derived.Test.YtdikjmhnjlalbabIot
namespace Go.Proofs.Ytdikjmhnjlalbab.iop
open Go.RowKit Go.Proofs.Ytdikjmhnjlalbab.tm Go.Proofs.Ytdikjmhnjlalbab.lib Go.Proofs.Ytdikjmhnjlalbab.rdr Go.Proofs.Ytdikjmhnjlalbab.bld Go.Proofs.Ytdikjmhnjlalbab.app Go.Proofs.Ytdikjmhnjlalbab.grd Go.Proofs.Ytdikjmhnjlalbab.txo Go.Proofs.Ytdikjmhnjlalbab.sop
set_option linter.unusedVariables false

theorem as_shut (k x : Tm) (w : World) : (Instr.typeAssert (val (.shut k x)) 54 79 true).run Try.prog w = .ok (.tuple #[.agg #[val k, val x], .bool true]) w := by kernel_rfl
theorem as_shut_no (T : Tm) (h : T.op ≠ oShut) (w : World) : (Instr.typeAssert (val T) 54 79 true).run Try.prog w = .ok (.tuple #[.agg #[.nilIface, .nilIface], .bool false]) w := by
  cases T with
  | shut k x => exact absurd rfl h
  | _ => kernel_rfl

set_option maxHeartbeats 2000000 in
set_option maxRecDepth 100000 in
theorem clos_calls (key t r : Bs) (c : Int) (h : OpenR key t r c) (hc2 : c ≠ 2) (p q : Nat) (w : World) (c0 : w.cell? ⟨p, 0, none⟩ = some (str key)) (c1 : w.cell? ⟨q, 0, none⟩ = some (str t)) (hp : p < w.heap.size) (hq : q < w.heap.size) :
    Calls Try.prog 62 #[.pointer (some ⟨p, 0, none⟩), .pointer (some ⟨q, 0, none⟩)] w (OEnd r c w) := by
  cases h with
  | size h => exact absurd rfl hc2
  | form h1 h2 h =>
    rcases hK : term key with _ | K
    · have a1 := read_no key (by omega) hK
      clear h hK
      go_enter Try.func62, Try.ntmps62
      go_wp2_with fail
      refine (a1 _).mono ?_
      rintro e w1 ⟨rfl, hb⟩
      exact ⟨rfl, .inr ⟨by decide, rfl⟩, hb⟩
    · have hT : term t = none := by rcases h with h | h; rw [hK] at h; cases h; exact h
      have a1 := read_yes key K hK
      have a2 := read_no t (by omega) hT
      obtain ⟨tK, vK, eK⟩ := val_iface K
      rw [eK] at a1
      clear h hK hT eK
      go_enter Try.func62, Try.ntmps62
      go_wp2_with fail
      refine (a1 _).mono ?_
      rintro e w1 ⟨rfl, hb⟩
      have k1 := kept_cell hb c1 hq
      have HB := Lib.hid hb
      clear hb
      go_wp2_with fail
      refine (a2 _).mono ?_
      rintro e w2 ⟨rfl, hb2⟩
      exact ⟨rfl, .inr ⟨by decide, rfl⟩, HB.out.trans (hb2.mono HB.out.size)⟩
  | other h1 h2 K T hK hT h =>
    have a1 := read_yes key K hK
    have a2 := read_yes t T hT
    have a3 := as_shut_no T h
    obtain ⟨tK, vK, eK⟩ := val_iface K
    rw [eK] at a1
    obtain ⟨tT, vT, eT⟩ := val_iface T
    rw [eT] at a2
    simp only [eT] at a3
    clear h hK hT eK eT
    go_enter Try.func62, Try.ntmps62
    go_wp2_with fail
    refine (a1 _).mono ?_
    rintro e w1 ⟨rfl, hb⟩
    have k1 := kept_cell hb c1 hq
    have HB := Lib.hid hb
    clear hb
    go_wp2_with fail
    refine (a2 _).mono ?_
    rintro e w2 ⟨rfl, hb2⟩
    have HB2 := Lib.hid (HB.out.trans (hb2.mono HB.out.size))
    clear hb2
    go_wp2_with (go_at_call 64; refine (refuse_calls _ _).mono ?_; rintro e w' ⟨rfl, rfl⟩)
    exact ⟨rfl, .inr ⟨by decide, rfl⟩, HB2.out.alloc HB2.out.size _⟩
  | none h1 h2 K k x hK hT h =>
    have a1 := read_yes key K hK
    have a2 := read_yes t (.shut k x) hT
    have a3 := as_shut k x
    have eKt : K.tx = key := (term_some.1 hK).2.2.2
    have hKl : K.tx.length ≤ 3000 := by rw [eKt]; exact (term_some.1 hK).1
    have hTl : (Tm.shut k x).tx.length ≤ 3000 := by rw [(term_some.1 hT).2.2.2]; exact (term_some.1 hT).1
    have hkl : k.tx.length ≤ 3000 := by simp [Tm.tx, say] at hTl; omega
    have hxl : x.tx.length ≤ 3000 := by simp [Tm.tx, say] at hTl; omega
    have tK := textOf_calls K (by omega)
    have tk := textOf_calls k (by omega)
    have tx := textOf_calls x (by omega)
    rw [eKt] at tK
    obtain ⟨kt, hkt⟩ : ∃ l, l = k.tx := ⟨_, rfl⟩
    obtain ⟨xt, hxt⟩ : ∃ l, l = x.tx := ⟨_, rfl⟩
    rw [← hkt] at tk
    simp only [← hkt] at h
    rw [← hxt] at tx
    try rw [← hxt]
    obtain ⟨uK, vK, eK⟩ := val_iface K
    obtain ⟨uk, vk, ek⟩ := val_iface k
    obtain ⟨ux, vx, ex⟩ := val_iface x
    obtain ⟨uT, vT, eT⟩ := val_iface (.shut k x)
    rw [eK] at a1 tK
    rw [eT] at a2
    rw [ek] at tk
    rw [ex] at tx
    simp only [ek, ex, eT] at a3
    have d3 : (kt == key) = false := by rw [beq_eq_false_iff_ne]; exact h
    have d4 : ¬ kt = key := h
    clear h
    clear hK hT eK ek ex eT eKt hKl hTl hkl hxl hkt hxt
    go_enter Try.func62, Try.ntmps62
    go_wp2_with fail
    refine (a1 _).mono ?_
    rintro e w1 ⟨rfl, hb⟩
    have k1 := kept_cell hb c1 hq
    have HB := Lib.hid hb
    clear hb
    go_wp2_with fail
    refine (a2 _).mono ?_
    rintro e w2 ⟨rfl, hb2⟩
    have HB2 := Lib.hid (HB.out.trans (hb2.mono HB.out.size))
    clear hb2
    go_wp2_with fail
    refine (tk _).mono ?_
    rintro e w3 ⟨rfl, hb3⟩
    obtain ⟨m0, m1, f0, f1, hz⟩ := two (clo.new_kept hb3)
    have HB3 := Lib.hid ((HB2.out.alloc HB2.out.size _).trans (hb3.mono (by have := HB2.out.size; simp; omega)))
    clear hb3
    go_wp2_with fail
    refine (tK _).mono ?_
    rintro e w4 ⟨rfl, hb4⟩
    have n1 := hb4.cell (p := ⟨w2.heap.size, 1, none⟩) hz
    rw [m1] at n1
    have HB4 := Lib.hid (HB3.out.trans (hb4.mono HB3.out.size))
    clear hb4
    go_wp2_with (go_at_call 64; refine (refuse_calls _ _).mono ?_; rintro e w' ⟨rfl, rfl⟩)
    exact ⟨rfl, .inr ⟨by decide, rfl⟩, HB4.out⟩
  | some h1 h2 K k x hK hT h =>
    have a1 := read_yes key K hK
    have a2 := read_yes t (.shut k x) hT
    have a3 := as_shut k x
    have eKt : K.tx = key := (term_some.1 hK).2.2.2
    have hKl : K.tx.length ≤ 3000 := by rw [eKt]; exact (term_some.1 hK).1
    have hTl : (Tm.shut k x).tx.length ≤ 3000 := by rw [(term_some.1 hT).2.2.2]; exact (term_some.1 hT).1
    have hkl : k.tx.length ≤ 3000 := by simp [Tm.tx, say] at hTl; omega
    have hxl : x.tx.length ≤ 3000 := by simp [Tm.tx, say] at hTl; omega
    have tK := textOf_calls K (by omega)
    have tk := textOf_calls k (by omega)
    have tx := textOf_calls x (by omega)
    rw [eKt] at tK
    obtain ⟨kt, hkt⟩ : ∃ l, l = k.tx := ⟨_, rfl⟩
    obtain ⟨xt, hxt⟩ : ∃ l, l = x.tx := ⟨_, rfl⟩
    rw [← hkt] at tk
    simp only [← hkt] at h
    rw [← hxt] at tx
    try rw [← hxt]
    obtain ⟨uK, vK, eK⟩ := val_iface K
    obtain ⟨uk, vk, ek⟩ := val_iface k
    obtain ⟨ux, vx, ex⟩ := val_iface x
    obtain ⟨uT, vT, eT⟩ := val_iface (.shut k x)
    rw [eK] at a1 tK
    rw [eT] at a2
    rw [ek] at tk
    rw [ex] at tx
    simp only [ek, ex, eT] at a3
    subst h
    clear hK hT eK ek ex eT eKt hKl hTl hkl hxl hkt hxt
    go_enter Try.func62, Try.ntmps62
    go_wp2_with fail
    refine (a1 _).mono ?_
    rintro e w1 ⟨rfl, hb⟩
    have k1 := kept_cell hb c1 hq
    have HB := Lib.hid hb
    clear hb
    go_wp2_with fail
    refine (a2 _).mono ?_
    rintro e w2 ⟨rfl, hb2⟩
    have HB2 := Lib.hid (HB.out.trans (hb2.mono HB.out.size))
    clear hb2
    go_wp2_with fail
    refine (tk _).mono ?_
    rintro e w3 ⟨rfl, hb3⟩
    obtain ⟨m0, m1, f0, f1, hz⟩ := two (clo.new_kept hb3)
    have HB3 := Lib.hid ((HB2.out.alloc HB2.out.size _).trans (hb3.mono (by have := HB2.out.size; simp; omega)))
    clear hb3
    go_wp2_with fail
    refine (tK _).mono ?_
    rintro e w4 ⟨rfl, hb4⟩
    have n1 := hb4.cell (p := ⟨w2.heap.size, 1, none⟩) hz
    rw [m1] at n1
    have HB4 := Lib.hid (HB3.out.trans (hb4.mono HB3.out.size))
    clear hb4
    go_wp2_with fail
    refine (tx _).mono ?_
    rintro e w5 ⟨rfl, hb5⟩
    go_wp2_with fail
    go_ret
    exact ⟨.inl ⟨rfl, rfl⟩, HB4.out.trans (hb5.mono HB4.out.size)⟩

theorem closO (a b : Value) (w : World) : (callFunc 62 #[a, b]).run Try.prog w = .ok (.enter 62 #[a, b]) w := by kernel_rfl

set_option maxHeartbeats 1000000 in
set_option maxRecDepth 100000 in
theorem implOpen_calls (key t r : Bs) (c : Int) (h : OpenR key t r c) (hk : key.length ≤ 4000000) (ht : t.length ≤ 4000000) (w : World) :
    Calls Try.prog 35 #[str key, str t] w fun e w' => e = .returned (outVal r c) ∧ Below w.heap.size w w' := by
  by_cases hs : 8000 < key.length ∨ 8000 < t.length
  · obtain ⟨rfl, rfl⟩ : r = [] ∧ c = 2 := by
      cases h with
      | size h => exact ⟨rfl, rfl⟩
      | form h1 h2 h => omega
      | other h1 h2 K T hK hT h => omega
      | none h1 h2 K k x hK hT h => omega
      | some h1 h2 K k x hK hT h => omega
    unfold outVal
    clear h
    by_cases h1 : 8000 < key.length
    · have t1 := tooLong_calls key hk true (by simpa using h1)
      go_enter Try.func35, Try.ntmps35
      go_wp2_with (go_at_call 53; refine (t1 _).mono ?_; rintro e w' ⟨rfl, rfl⟩)
      exact bodyPost_ret (v := .agg #[.string ⟨#[]⟩, .int .i64 2]) (by simp [results, Try.results35, go_sem]) rfl ⟨rfl, (((Below.refl _ _).alloc (Nat.le_refl _) _).alloc (by simp) _).alloc (by simp; omega) _⟩
    · have t1 := tooLong_calls key hk false (by simpa using h1)
      have t2 := tooLong_calls t ht true (by simp; omega)
      go_enter Try.func35, Try.ntmps35
      go_wp2_with (go_at_call 53; first | (refine (t1 _).mono ?_; rintro e w' ⟨rfl, rfl⟩) | (refine (t2 _).mono ?_; rintro e w' ⟨rfl, rfl⟩))
      exact bodyPost_ret (v := .agg #[.string ⟨#[]⟩, .int .i64 2]) (by simp [results, Try.results35, go_sem]) rfl ⟨rfl, (((Below.refl _ _).alloc (Nat.le_refl _) _).alloc (by simp) _).alloc (by simp; omega) _⟩
  · have h1 : key.length ≤ 8000 := by omega
    have h2 : t.length ≤ 8000 := by omega
    have hc2 : c ≠ 2 := by
      cases h with
      | size h => exact absurd h hs
      | _ => decide
    have t1 := tooLong_calls key hk false (by simp; omega)
    have t2 := tooLong_calls t ht false (by simp; omega)
    have hmf : ∀ (fn : Fn) (first cap : Array Value) (w : World), (Instr.makeFunc fn first cap).run Try.prog w = .ok (.func fn first cap) w := fun _ _ _ _ => rfl
    have hcl : ∀ w1, Below (w.heap.size + 3) (((w.alloc (.cells #[str key] 9)).alloc (.cells #[str t] 9)).alloc (.cells #[.string ⟨#[]⟩, .int .i64 0] 36)) w1 →
        Calls Try.prog 62 #[.pointer (some ⟨w.heap.size, 0, none⟩), .pointer (some ⟨w.heap.size + 1, 0, none⟩)] w1 (OEnd r c w1) := fun w1 hb => by
      have hz := hb.size
      simp at hz
      exact clos_calls key t r c h hc2 _ _ w1 (by rw [hb.cell (p := ⟨w.heap.size, 0, none⟩) (by simp)]; simp [go_sem]) (by rw [hb.cell (p := ⟨w.heap.size + 1, 0, none⟩) (by simp)]; simp [go_sem]) (by omega) (by omega)
    have HC := Lib.hid hcl
    have HR := Lib.hid (show c ≠ 0 → r = [] from fun hn => by cases h <;> first | rfl | exact absurd rfl hn)
    clear h hs hcl
    by_cases hc : c = 0
    · subst hc
      have to := termOut_ret 62 #[.pointer (some ⟨w.heap.size, 0, none⟩), .pointer (some ⟨w.heap.size + 1, 0, none⟩)] r (fun w => closO _ _ w)
        (((w.alloc (.cells #[str key] 9)).alloc (.cells #[str t] 9)).alloc (.cells #[.string ⟨#[]⟩, .int .i64 0] 36)) fun w1 hb => (HC.out w1 (hb.mono (by simp))).mono fun e w' hk => by
          obtain ⟨hk, hb⟩ := hk
          rcases hk with ⟨_, rfl⟩ | ⟨hn, _⟩
          · exact ⟨rfl, hb⟩
          · exact absurd rfl hn
      have HT := Lib.hid to
      clear to hc2
      go_enter Try.func35, Try.ntmps35
      go_wp2_with (go_at_call 53; first | (refine (t1 _).mono ?_; rintro e w' ⟨rfl, rfl⟩) | (refine (t2 _).mono ?_; rintro e w' ⟨rfl, rfl⟩))
      refine HT.out.mono ?_
      rintro e w1 ⟨rfl, hb⟩
      unfold outVal
      have hz := hb.size
      simp at hz
      have hblk : w1.heap[w.heap.size + 2]? = some (.cells #[.string ⟨#[]⟩, .int .i64 0] 36 (0, 0)) := by
        rw [hb.block _ (by simp)]
        have := heap_alloc_new ((w.alloc (.cells #[str key] 9)).alloc (.cells #[str t] 9)) (.cells #[.string ⟨#[]⟩, .int .i64 0] 36)
        simpa using this
      obtain ⟨c0, c1, f0, f1, hz2⟩ := two hblk
      have HB := Lib.hid ((((((Below.refl _ _).alloc (Nat.le_refl _) _).alloc (by simp) _).alloc (by simp; omega) _).trans (hb.mono (by simp; omega)) : Below w.heap.size w w1))
      clear hb hblk
      go_wp2_with fail
      exact bodyPost_ret (v := .agg #[str r, .int .i64 0]) (by simp [results, Try.results35, go_sem, c0, c1]) rfl ⟨rfl, (HB.out.setCell (by first | (simp; done) | (simp; omega)) _).setCell (by first | (simp; done) | (simp; omega)) _⟩
    · have hr : r = [] := HR.out hc
      subst hr
      have to := termOut_fault 62 #[.pointer (some ⟨w.heap.size, 0, none⟩), .pointer (some ⟨w.heap.size + 1, 0, none⟩)] c (fun w => closO _ _ w)
        (((w.alloc (.cells #[str key] 9)).alloc (.cells #[str t] 9)).alloc (.cells #[.string ⟨#[]⟩, .int .i64 0] 36)) fun w1 hb => (HC.out w1 (hb.mono (by simp))).mono fun e w' hk => by
          obtain ⟨hk, hb⟩ := hk
          rcases hk with ⟨hn, _⟩ | ⟨_, rfl⟩
          · exact absurd hn hc
          · exact ⟨rfl, hb⟩
      have HT := Lib.hid to
      clear to hc2 hc
      go_enter Try.func35, Try.ntmps35
      go_wp2_with (go_at_call 53; first | (refine (t1 _).mono ?_; rintro e w' ⟨rfl, rfl⟩) | (refine (t2 _).mono ?_; rintro e w' ⟨rfl, rfl⟩))
      refine HT.out.mono ?_
      rintro e w1 ⟨rfl, hb⟩
      unfold outVal
      have hz := hb.size
      simp at hz
      have hblk : w1.heap[w.heap.size + 2]? = some (.cells #[.string ⟨#[]⟩, .int .i64 0] 36 (0, 0)) := by
        rw [hb.block _ (by simp)]
        have := heap_alloc_new ((w.alloc (.cells #[str key] 9)).alloc (.cells #[str t] 9)) (.cells #[.string ⟨#[]⟩, .int .i64 0] 36)
        simpa using this
      obtain ⟨c0, c1, f0, f1, hz2⟩ := two hblk
      have HB := Lib.hid ((((((Below.refl _ _).alloc (Nat.le_refl _) _).alloc (by simp) _).alloc (by simp; omega) _).trans (hb.mono (by simp; omega)) : Below w.heap.size w w1))
      clear hb hblk
      go_wp2_with fail
      exact bodyPost_ret (v := .agg #[.string ⟨#[]⟩, .int .i64 c]) (by simp [results, Try.results35, go_sem, c0, c1]) rfl ⟨rfl, (HB.out.setCell (by first | (simp; done) | (simp; omega)) _).setCell (by first | (simp; done) | (simp; omega)) _⟩
end Go.Proofs.Ytdikjmhnjlalbab.iop
