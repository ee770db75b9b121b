/- Several small texts, one behind the other. -/
import Derived.Test.YtonjohlecomeoaaGreatMksq
import Derived.Test.YtonjohlecomeoaaGreatQf
import Derived.Test.YtonjohlecomeoaaGreatQc
import Derived.Test.YtonjohlecomeoaaGreatQd
import Derived.Test.YtonjohlecomeoaaGreatQe
import Derived.Test.YtonjohlecomeoaaGreatQb

/- Contract of Make of the program. -/
namespace Go.Proofs.YtonjohlecomeoaaGreat.imk
open Go.RowKit Go.Proofs.YtonjohlecomeoaaGreat.tm Go.Proofs.YtonjohlecomeoaaGreat.spm Go.Proofs.YtonjohlecomeoaaGreat.lib Go.Proofs.YtonjohlecomeoaaGreat.rdr Go.Proofs.YtonjohlecomeoaaGreat.bld Go.Proofs.YtonjohlecomeoaaGreat.app Go.Proofs.YtonjohlecomeoaaGreat.grd Go.Proofs.YtonjohlecomeoaaGreat.txo Go.Proofs.YtonjohlecomeoaaGreat.sop Go.Proofs.YtonjohlecomeoaaGreat.iop Go.Proofs.YtonjohlecomeoaaGreat.mkp Go.Proofs.YtonjohlecomeoaaGreat.rts Go.Proofs.YtonjohlecomeoaaGreat.mks Go.Proofs.YtonjohlecomeoaaGreat.mrk Go.Proofs.YtonjohlecomeoaaGreat.its
set_option linter.unusedVariables false

theorem terms_mem : ∀ (l : List Bs) (Ts : List Tm), terms l = some Ts → ∀ k ∈ Ts, k.tx.length ≤ 3000 ∧ k.deep ≤ 24
  | [], Ts, h, k, hk => by simp [terms] at h; subst h; cases hk
  | a :: l, Ts, h, k, hk => by
    rw [terms_cons] at h
    cases ha : term a with
    | none => rw [ha] at h; cases h
    | some T =>
      rw [ha] at h
      cases hl : terms l with
      | none => rw [hl] at h; cases h
      | some Us =>
        rw [hl] at h
        cases h
        rcases List.mem_cons.1 hk with rfl | hk
        · obtain ⟨h1, _, h2, h3⟩ := term_some.1 ha
          exact ⟨by rw [h3]; exact h1, h2⟩
        · exact terms_mem l Us hl k hk

theorem made_bound {op : Bs} {Ts : List Tm} {T : Tm} (h : build op Ts = some T) (hk : ∀ k ∈ Ts, k.tx.length ≤ 3000 ∧ k.deep ≤ 24) : T.tx.length ≤ 7000 ∧ T.deep ≤ 25 := by
  obtain ⟨h1, h2, h3, h4⟩ := build_some h
  subst h3
  cases T <;> first | (simp [Tm.isAtom] at h1; done) | (simp [Tm.kids] at hk; simp [Tm.tx, Tm.deep, say, oPair, oHash, oMac, oShut, oPub, oDh] at hk ⊢; omega)

theorem tms_base {w : World} {B B' : Nat} {v : Value} {ts : List Tm} (h : Tms w B v ts) (hB : B' ≤ B) : Tms w B' v ts := by
  obtain ⟨h1, h⟩ := h
  refine ⟨h1, ?_⟩
  rcases h with hn | ⟨g, cap, cur, hv, hbg, rest⟩
  · exact .inl hn
  · exact .inr ⟨g, cap, cur, hv, Nat.le_trans hB hbg, rest⟩

theorem Strs.set {w : World} {B b : Nat} {v x : Value} {ls : List Bs} (h : Strs w B v ls) (hb : b < B) : Strs (w.setCell ⟨b, 0, none⟩ x) B v ls :=
  own_kept h fun g hg _ => Below.heap_setCell _ _ _ g (by show g ≠ b; omega)

theorem sorted_b (b : Nat) (v : Value) (zs : List Bs) (hl : zs.length ≤ 1000000) (w : World) (hb : b = w.heap.size) (h : Rds w v zs) :
    Calls Tryz.prog 141 #[.func (.func 161) #[] #[.pointer (some ⟨b, 0, none⟩)]] (w.alloc (.cells #[v] 22)) fun e w' => ∃ v', e = .returned v' ∧ Strs w' w.heap.size v' (srt zs) ∧ Below w.heap.size w w' := by
  subst hb
  exact sorted_at v zs hl w h

theorem strs_slice {w : World} {B : Nat} {v : Value} {ls : List Bs} (h : Strs w B v ls) : ∃ a c, v = .slice a ls.length c := by
  rcases mrs.Strs.wrs h with ⟨rfl, a, c, e⟩ | ⟨g, off, cap, e, _⟩
  · exact ⟨a, c, e⟩
  · exact ⟨_, _, e⟩

theorem rt_slice {w : World} {B : Nat} {v : Value} {ts : List Tm} (h : Tms w B v ts) : ∃ a n c, v = .slice a n c := by
  rcases Tms.len h with ⟨e, _⟩ | ⟨g, cap, e⟩ <;> exact ⟨_, _, _, e⟩

theorem clos_all (p q : Nat) (op : Bs) (ad : Option Addr) (n cap : Nat) (ls : List Bs) (w : World) (c0 : w.cell? ⟨p, 0, none⟩ = some (str op)) (c1 : w.cell? ⟨q, 0, none⟩ = some (.slice ad n cap)) (hp : p < w.heap.size) (hq : q < w.heap.size)
    (hn : n = ls.length) (h : Rds w (.slice ad n cap) ls) (hl : ls.length ≤ 400) (hs : ∀ x ∈ ls, x.length ≤ 4000000) :
    Calls Tryz.prog 144 #[.pointer (some ⟨p, 0, none⟩), .pointer (some ⟨q, 0, none⟩)] w (OEnd (implR op ls).1 (implR op ls).2 w) := by
  have r1 := fun (w1 : World) (hb : Below w.heap.size w w1) => readTerms_calls ad n cap ls w1 hn (Rds.below h hb) (by omega) hs
  unfold implR
  rcases ht : terms ls with _ | Ts
  · refine (clos_read p q op [] 0 .nilIface ad n cap 1 [] w c0 c1 hp hq fun w1 hb => (r1 w1 hb).mono ?_).mono ?_
    · rintro e w' ⟨hb', ⟨Ts, v, h1, _⟩ | ⟨_, rfl⟩⟩
      · rw [ht] at h1; cases h1
      · exact ⟨rfl, hb'⟩
    · rintro e w' ⟨rfl, hb⟩
      exact ⟨.inr ⟨by simp, rfl⟩, hb⟩
  · have h2 : ∀ w1, Below w.heap.size w w1 → Calls Tryz.prog 148 #[.slice ad n cap] w1 fun e w' => ∃ a1 n1 c1, e = .returned (.slice a1 n1 c1) ∧ Below w1.heap.size w1 w' ∧ Tms w' w.heap.size (.slice a1 n1 c1) Ts := fun w1 hb => (r1 w1 hb).mono (by
      rintro e w' ⟨hb', ⟨Us, v, h1, rfl, h3⟩ | ⟨h1, _⟩⟩
      · rw [ht] at h1
        cases h1
        obtain ⟨a1, n1, c1, rfl⟩ := rt_slice h3
        exact ⟨a1, n1, c1, rfl, hb', tms_base h3 hb.size⟩
      · rw [ht] at h1; cases h1)
    simp only
    rcases hb : build op Ts with _ | T
    · simp only
      refine (clos_build p q op Ts 0 .nilIface ad n cap 1 [] w c0 c1 hp hq h2 fun w1 v hv hb1 => (build_no op Ts hb w1 _ v hv).mono ?_).mono ?_
      · rintro e w' ⟨rfl, hs⟩
        exact ⟨rfl, hs.below _⟩
      · rintro e w' ⟨rfl, hb⟩
        exact ⟨.inr ⟨by simp, rfl⟩, hb⟩
    · simp only
      obtain ⟨b1, b2⟩ := made_bound hb (terms_mem ls Ts ht)
      obtain ⟨tt, tv, ev⟩ := val_iface T
      have h3 : ∀ w1 v, Tms w1 w.heap.size v Ts → Below w.heap.size w w1 → Calls Tryz.prog 147 #[str op, v] w1 fun e w' => e = .returned (.iface tt tv) ∧ Below w1.heap.size w1 w' := fun w1 v hv hb1 => (build_yes op Ts T hb w1 _ v hv).mono (by
        rintro e w' ⟨rfl, hs⟩
        exact ⟨by rw [ev], hs.below _⟩)
      by_cases hc : T.tx.length ≤ 3000 ∧ T.deep ≤ 24
      · rw [if_pos hc]
        refine (clos_ret p q op Ts tt tv ad n cap 0 T.tx w c0 c1 hp hq h2 h3 (fun w1 => ?_) (fun w1 => ?_)).mono ?_
        · rw [← ev]; exact fitting_yes T hc.1 hc.2 w1
        · rw [← ev]; exact textOf_calls T (by omega) w1
        · rintro e w' ⟨rfl, hb⟩
          exact ⟨.inl ⟨rfl, rfl⟩, hb⟩
      · rw [if_neg hc]
        refine (clos_fit p q op Ts tt tv ad n cap 9 [] w c0 c1 hp hq h2 h3 (fun w1 => ?_)).mono ?_
        · rw [← ev]; exact fitting_no T (by omega) (by omega) hc w1
        · rintro e w' ⟨rfl, hb⟩
          exact ⟨.inr ⟨by simp, rfl⟩, hb⟩

theorem closM (a b : Value) (w : World) : (callFunc 144 #[a, b]).run Tryz.prog w = .ok (.enter 144 #[a, b]) w := by kernel_rfl

/-- termOut of Make's closure. -/
theorem termOut_all (p q : Nat) (op : Bs) (ad : Option Addr) (n cap : Nat) (ls : List Bs) (w : World) (c0 : w.cell? ⟨p, 0, none⟩ = some (str op)) (c1 : w.cell? ⟨q, 0, none⟩ = some (.slice ad n cap)) (hp : p < w.heap.size) (hq : q < w.heap.size)
    (hn : n = ls.length) (h : Rds w (.slice ad n cap) ls) (hl : ls.length ≤ 400) (hs : ∀ x ∈ ls, x.length ≤ 4000000) :
    Calls Tryz.prog 143 #[.func (.func 144) #[] #[.pointer (some ⟨p, 0, none⟩), .pointer (some ⟨q, 0, none⟩)]] w fun e w' => e = .returned (outVal (implR op ls).1 (implR op ls).2) ∧ Below w.heap.size w w' := by
  have hcl := fun (w1 : World) (hb : Below w.heap.size w w1) => clos_all p q op ad n cap ls w1 (kept_cell hb c0 hp) (kept_cell hb c1 hq) (Nat.lt_of_lt_of_le hp hb.size) (Nat.lt_of_lt_of_le hq hb.size) hn (Rds.below h hb) hl hs
  by_cases hc : (implR op ls).2 = 0
  · rw [hc]
    refine termOut_ret _ _ _ (fun w => closM _ _ w) w fun w1 hb => (hcl w1 hb).mono ?_
    rintro e w' ⟨⟨_, rfl⟩ | ⟨hn, _⟩, hb'⟩
    · exact ⟨rfl, hb'⟩
    · exact absurd hc hn
  · have hr : (implR op ls).1 = [] := by
      revert hc
      unfold implR
      cases terms ls with
      | none => intro _; rfl
      | some Ts =>
        simp only
        cases build op Ts with
        | none => intro _; rfl
        | some T =>
          simp only
          split
          · intro h; exact absurd rfl h
          · intro _; rfl
    rw [hr]
    refine termOut_fault _ _ _ (fun w => closM _ _ w) w fun w1 hb => (hcl w1 hb).mono ?_
    rintro e w' ⟨⟨h0, _⟩ | ⟨_, rfl⟩, hb'⟩
    · exact absurd h0 hc
    · exact ⟨rfl, hb'⟩

theorem fin4 {w w3 : World} {B : Nat} {b : Nat} (h : Below B w w3) (a c : Value) (hb : B ≤ b) : Below B w ((w3.setCell ⟨b, 0, none⟩ a).setCell ⟨b, 1, none⟩ c) :=
  (h.setCell (by simpa using hb) _).setCell (by simpa using hb) _

set_option maxHeartbeats 2000000 in
set_option maxRecDepth 100000 in
theorem implMake_calls (op : Bs) (ad : Option Addr) (n cap : Nat) (args : List Bs) (w : World) (hn : n = args.length) (h : Rds w (.slice ad n cap) args) (hop : op.length ≤ 4000000) (hl : args.length ≤ 4000000) (hs : ∀ x ∈ args, x.length ≤ 4000000) :
    Calls Tryz.prog 107 #[str op, .slice ad n cap] w fun e w' => e = .returned (outVal (makeR op args).1 (makeR op args).2) ∧ Below w.heap.size w w' := by
  by_cases hsz : 400 < args.length ∨ 8000 < op.length
  · have : makeR op args = ([], 2) := by unfold makeR; rw [if_pos hsz]
    rw [this]
    unfold outVal
    clear this h hs
    by_cases h1 : 8000 < op.length
    · have t1 := tooLong_calls op hop true (by simpa using h1)
      go_enter Tryz.func107, Tryz.ntmps107
      go_wp2_with (go_at_call 102; refine (t1 _).mono ?_; rintro e w' ⟨rfl, rfl⟩)
      exact bodyPost_ret (v := .agg #[.string ⟨#[]⟩, .int .i64 2]) (by simp [results, Tryz.results107, go_sem]) rfl ⟨rfl, (((Below.refl _ _).alloc (Nat.le_refl _) _).alloc (by simp) _).alloc (by simp; omega) _⟩
    · have t1 := tooLong_calls op hop false (by simpa using h1)
      have d2 : decide (400 < (n : Int)) = true := by simp; omega
      go_enter Tryz.func107, Tryz.ntmps107
      go_wp2_with (go_at_call 102; refine (t1 _).mono ?_; rintro e w' ⟨rfl, rfl⟩)
      exact bodyPost_ret (v := .agg #[.string ⟨#[]⟩, .int .i64 2]) (by simp [results, Tryz.results107, go_sem]) rfl ⟨rfl, (((Below.refl _ _).alloc (Nat.le_refl _) _).alloc (by simp) _).alloc (by simp; omega) _⟩
  · have h1 : args.length ≤ 400 := by omega
    have h2 : op.length ≤ 8000 := by omega
    rw [← make_eq op args h1 h2]
    have t1 := tooLong_calls op hop false (by simp; omega)
    have d2 : decide (400 < (n : Int)) = false := by simp; omega
    have hmf : ∀ (fn : Fn) (first cap : Array Value) (w : World), (Instr.makeFunc fn first cap).run Tryz.prog w = .ok (.func fn first cap) w := fun _ _ _ _ => rfl
    have HS := Lib.hid hs
    have HR := Lib.hid h
    have HN := Lib.hid hn
    clear hs h hn hsz
    have hw0 : Below w.heap.size w (((w.alloc (.cells #[str op] 9)).alloc (.cells #[.slice ad n cap] 22)).alloc (.cells #[.string ⟨#[]⟩, .int .i64 0] 87)) := (((Below.refl _ _).alloc (Nat.le_refl _) _).alloc (by simp) _).alloc (by simp; omega) _
    have HW0 := Lib.hid hw0
    clear hw0
    rcases hR : implR op (sortedR op args) with ⟨r, c⟩
    simp only
    by_cases hd : op = oDh
    · have d3 : (op == [100, 104]) = true := by rw [hd]; rfl
      have hR2 : implR op (srt args) = (r, c) := by rw [← hR]; unfold sortedR; rw [if_pos hd]
      have HRR := Lib.hid hR2
      clear hR hR2 hd h2
      go_enter Tryz.func107, Tryz.ntmps107
      go_wp2_with (first
        | (go_at_call 102; refine (t1 _).mono ?_; rintro e w' ⟨rfl, rfl⟩)
        | (go_at_call 142; refine (values_calls _ _ _ _).mono ?_; rintro e w' ⟨rfl, rfl⟩))
      refine (sorted_b _ _ args (by omega) _ (by simp) (Rds.below HR.out HW0.out)).mono ?_
      rintro e w1 ⟨v1, rfl, s1, b1⟩
      obtain ⟨a1, cap1, rfl⟩ := strs_slice s1
      rw [srt_len] at s1 ⊢
      have hz := b1.size
      simp at hz
      have hb1 : w1.heap[w.heap.size + 1]? = some (.cells #[.slice ad n cap] 22 (0, 0)) := by
        rw [b1.block _ (by simp)]
        rw [Below.heap_alloc _ _ _ (by simp)]
        have := heap_alloc_new (w.alloc (.cells #[str op] 9)) (.cells #[.slice ad n cap] 22)
        simpa using this
      obtain ⟨e1, e2, e3⟩ := grd.one hb1
      have k0 : w1.cell? ⟨w.heap.size, 0, none⟩ = some (str op) := by rw [b1.cell (p := ⟨w.heap.size, 0, none⟩) (by simp; omega)]; simp [go_sem]
      have hblk : w1.heap[w.heap.size + 2]? = some (.cells #[.string ⟨#[]⟩, .int .i64 0] 87 (0, 0)) := by
        rw [b1.block _ (by simp)]
        have := heap_alloc_new ((w.alloc (.cells #[str op] 9)).alloc (.cells #[.slice ad n cap] 22)) (.cells #[.string ⟨#[]⟩, .int .i64 0] 87)
        simpa using this
      have S1 := Lib.hid s1
      have K0 := Lib.hid k0
      have BLK := Lib.hid hblk
      have B1 := Lib.hid (HW0.out.trans (b1.mono (by simp; omega)))
      clear s1 k0 hblk b1 hb1
      go_wp2_with fail
      have s2 := Strs.set (x := .slice a1 args.length cap1) (b := w.heap.size + 1) S1.out (by simp)
      refine (termOut_all w.heap.size (w.heap.size + 1) op a1 args.length cap1 (srt args) _ (by rw [← K0.out]; exact World.cell?_of_block (Below.heap_setCell _ _ _ _ (by show w.heap.size ≠ w.heap.size + 1; omega))) (World.cell?_setCell_same' _ _ _ (by rw [e1]; rfl)) (by simp [World.setCell]; omega) (by simp [World.setCell]; omega)
        (srt_len args).symm (by have := mrs.Wrs.rds (mrs.Strs.wrs s2); exact this) (by rw [srt_len]; exact h1) (fun x hx => HS.out x ((List.mergeSort_perm args _).mem_iff.1 hx))).mono ?_
      rw [HRR.out]
      rintro e w2 ⟨rfl, hb⟩
      unfold outVal
      have hz2 := hb.size
      simp [World.setCell] at hz2
      have hblk : w2.heap[w.heap.size + 2]? = some (.cells #[.string ⟨#[]⟩, .int .i64 0] 87 (0, 0)) := by
        rw [hb.block _ (by simp [World.setCell]; omega), Below.heap_setCell _ _ _ _ (by simp)]
        exact BLK.out
      obtain ⟨c0, c1, f0, f1, hz3⟩ := two hblk
      have HB := Lib.hid ((B1.out.setCell (p := ⟨w.heap.size + 1, 0, none⟩) (by simp) (.slice a1 args.length cap1)).trans (hb.mono (by simp [World.setCell]; omega)))
      clear hb hblk
      go_wp2_with fail
      exact bodyPost_ret (v := .agg #[str r, .int .i64 c]) (by simp [results, Tryz.results107, go_sem, c0, c1]) rfl ⟨rfl, (HB.out.setCell (by first | (simp; done) | (simp; omega)) _).setCell (by first | (simp; done) | (simp; omega)) _⟩
    · have d3 : (op == [100, 104]) = false := by rw [beq_eq_false_iff_ne]; exact hd
      have hR2 : implR op args = (r, c) := by rw [← hR]; unfold sortedR; rw [if_neg hd]
      have to := termOut_all w.heap.size (w.heap.size + 1) op ad n cap args _ (by simp [go_sem]) (by simp [go_sem]) (by simp; omega) (by simp) HN.out (Rds.below HR.out HW0.out) h1 HS.out
      rw [hR2] at to
      unfold outVal at to ⊢
      have TO := Lib.hid to
      clear hR hR2 hd h2 to
      go_enter Tryz.func107, Tryz.ntmps107
      go_wp2_with (go_at_call 102; refine (t1 _).mono ?_; rintro e w' ⟨rfl, rfl⟩)
      refine TO.out.mono ?_
      rintro e w1 ⟨rfl, hb⟩
      have hz := hb.size
      simp at hz
      have hblk : w1.heap[w.heap.size + 2]? = some (.cells #[.string ⟨#[]⟩, .int .i64 0] 87 (0, 0)) := by
        rw [hb.block _ (by simp)]
        have := heap_alloc_new ((w.alloc (.cells #[str op] 9)).alloc (.cells #[.slice ad n cap] 22)) (.cells #[.string ⟨#[]⟩, .int .i64 0] 87)
        simpa using this
      obtain ⟨c0, c1, f0, f1, hz2⟩ := two hblk
      have HB := Lib.hid (HW0.out.trans (hb.mono (by simp; omega)))
      clear hb hblk
      go_wp2_with fail
      exact bodyPost_ret (v := .agg #[str r, .int .i64 c]) (by simp [results, Tryz.results107, go_sem, c0, c1]) rfl ⟨rfl, (HB.out.setCell (by first | (simp; done) | (simp; omega)) _).setCell (by first | (simp; done) | (simp; omega)) _⟩
end Go.Proofs.YtonjohlecomeoaaGreat.imk

/- Contract of madeOf of the program. -/
namespace Go.Proofs.YtonjohlecomeoaaGreat.gky
open Go.RowKit Go.Proofs.YtonjohlecomeoaaGreat.tm Go.Proofs.YtonjohlecomeoaaGreat.lib Go.Proofs.YtonjohlecomeoaaGreat.rdr Go.Proofs.YtonjohlecomeoaaGreat.bld Go.Proofs.YtonjohlecomeoaaGreat.app Go.Proofs.YtonjohlecomeoaaGreat.sop Go.Proofs.YtonjohlecomeoaaGreat.mkp Go.Proofs.YtonjohlecomeoaaGreat.mrk Go.Proofs.YtonjohlecomeoaaGreat.ltp Go.Proofs.YtonjohlecomeoaaGreat.ltq Go.Proofs.YtonjohlecomeoaaGreat.ltv
set_option linter.unusedVariables false

theorem out_term (x : Bs) (y : Int) (w : World) : (Instr.field 87 (.agg #[str x, .int .i64 y]) 0).run Tryz.prog w = .ok (str x) w := by kernel_rfl

theorem rds_one {w : World} {b cap : Nat} {x : Bs} (c0 : w.cell? ⟨b, 0, none⟩ = some (str x)) (hb : b < w.heap.size) : Rds w (.slice (some ⟨b, 0, none⟩) 1 cap) [x] :=
  .inr ⟨b, 0, cap, rfl, hb, fun j l hj => by
    match j, hj with
    | 0, hj => simp at hj; subst hj; exact c0
    | j + 1, hj => simp at hj⟩
theorem rds_two' {w : World} {b cap : Nat} {x y : Bs} (c0 : w.cell? ⟨b, 0, none⟩ = some (str x)) (c1 : w.cell? ⟨b, 1, none⟩ = some (str y)) (hb : b < w.heap.size) : Rds w (.slice (some ⟨b, 0, none⟩) 2 cap) [x, y] :=
  .inr ⟨b, 0, cap, rfl, hb, fun j l hj => by
    match j, hj with
    | 0, hj => simp at hj; subst hj; exact c0
    | 1, hj => simp at hj; subst hj; exact c1
    | j + 2, hj => simp at hj⟩

theorem made_len (op : Bs) (args : List Bs) : (makeR op args).1.length ≤ 3000 := by
  unfold makeR finR
  repeat' split
  all_goals first | (simp; done) | skip
  rename_i h
  exact okT_len h

set_option maxHeartbeats 1000000 in
set_option maxRecDepth 100000 in
theorem madeOf_calls (op : Bs) (ad : Option Addr) (n cap : Nat) (args : List Bs) (w : World) (hn : n = args.length) (h : Rds w (.slice ad n cap) args) (hop : op.length ≤ 4000000) (hl : args.length ≤ 4000000) (hs : ∀ x ∈ args, x.length ≤ 4000000) :
    Calls Tryz.prog 55 #[str op, .slice ad n cap] w fun e w' => e = .returned (str (makeR op args).1) ∧ Below w.heap.size w w' := by
  have c := imk.implMake_calls op ad n cap args w hn h hop hl hs
  unfold sop.outVal at c
  obtain ⟨x, hx⟩ : ∃ x, x = (makeR op args).1 := ⟨_, rfl⟩
  obtain ⟨y, hy⟩ : ∃ y, y = (makeR op args).2 := ⟨_, rfl⟩
  rw [← hx, ← hy] at c
  rw [← hx]
  have C := Lib.hid c
  have hfd := out_term x y
  clear c h hs hn hx hy
  go_enter Tryz.func55, Tryz.ntmps55
  go_wp2_with fail
  refine C.out.mono ?_
  rintro e w1 ⟨rfl, hb⟩
  have HB := Lib.hid hb
  clear hb
  go_wp2_with fail
  go_ret
  exact ⟨rfl, HB.out⟩

theorem madeTwo (op x y : Bs) (b cap : Nat) (w : World) (c0 : w.cell? ⟨b, 0, none⟩ = some (str x)) (c1 : w.cell? ⟨b, 1, none⟩ = some (str y)) (hb : b < w.heap.size) (hop : op.length ≤ 4000000) (hx : x.length ≤ 4000000) (hy : y.length ≤ 4000000) (z : Bs) (hz : (makeR op [x, y]).1 = z) :
    Calls Tryz.prog 55 #[str op, .slice (some ⟨b, 0, none⟩) 2 cap] w fun e w' => e = .returned (str z) ∧ Below w.heap.size w w' := by
  rw [← hz]
  exact madeOf_calls op _ 2 cap [x, y] w rfl (rds_two' c0 c1 hb) hop (by simp) (by simp [hx, hy])
theorem madeOne (op x : Bs) (b cap : Nat) (w : World) (c0 : w.cell? ⟨b, 0, none⟩ = some (str x)) (hb : b < w.heap.size) (hop : op.length ≤ 4000000) (hx : x.length ≤ 4000000) (z : Bs) (hz : (makeR op [x]).1 = z) :
    Calls Tryz.prog 55 #[str op, .slice (some ⟨b, 0, none⟩) 1 cap] w fun e w' => e = .returned (str z) ∧ Below w.heap.size w w' := by
  rw [← hz]
  exact madeOf_calls op _ 1 cap [x] w rfl (rds_one c0 hb) hop (by simp) (by simp [hx])

end Go.Proofs.YtonjohlecomeoaaGreat.gky

/- Contract of l04Gate of the model. -/
namespace Go.Proofs.YtonjohlecomeoaaGreat.gky
open Go.RowKit Go.Proofs.YtonjohlecomeoaaGreat.tm Go.Proofs.YtonjohlecomeoaaGreat.lib Go.Proofs.YtonjohlecomeoaaGreat.rdr Go.Proofs.YtonjohlecomeoaaGreat.bld Go.Proofs.YtonjohlecomeoaaGreat.app Go.Proofs.YtonjohlecomeoaaGreat.sop Go.Proofs.YtonjohlecomeoaaGreat.mkp Go.Proofs.YtonjohlecomeoaaGreat.mrk Go.Proofs.YtonjohlecomeoaaGreat.ltp Go.Proofs.YtonjohlecomeoaaGreat.ltq Go.Proofs.YtonjohlecomeoaaGreat.ltv
set_option linter.unusedVariables false

set_option maxHeartbeats 1000000 in
set_option maxRecDepth 100000 in
theorem l04Gate_calls (lock : Bs) (hl : lock.length ≤ 100000) (w : World) :
    Calls Tryz.prog 130 #[str lock] w fun e w' => e = .returned (str (gate lock)) ∧ Below w.heap.size w w' := by
  unfold gate
  obtain ⟨P, hP⟩ : ∃ P, P = say oPair [oGate, lock] := ⟨_, rfl⟩
  have hPl : P.length ≤ 4000000 := by rw [hP]; simp [say, oPair, oGate]; omega
  have c1 := fun (w : World) (b : Nat) h0 h1 => ssy.say_two oPair oGate lock b 0 2 w h0 h1 (by decide) (by decide) (by omega)
  rw [← hP] at c1 ⊢
  have c2 := fun (w : World) (b : Nat) h0 => ssy.say_one oHash P b 0 1 w h0 (by decide) hPl
  obtain ⟨G, hG⟩ : ∃ G, G = say oHash [P] := ⟨_, rfl⟩
  rw [← hG] at c2 ⊢
  have C1 := Lib.hid c1
  have C2 := Lib.hid c2
  unfold oPair oGate at C1
  unfold oHash at C2
  clear c1 c2 hP hG hPl
  go_enter Tryz.func130, Tryz.ntmps130
  go_wp2_with fail
  refine (C1.out _ _ (by simp [go_sem]) (by simp [go_sem])).mono ?_
  rintro e w1 ⟨rfl, hb1⟩
  have HB1 := Lib.hid (((Below.refl _ w).alloc (Nat.le_refl _) _).trans (hb1.mono (by simp)))
  clear hb1
  go_wp2_with fail
  refine (C2.out _ _ (by simp [go_sem])).mono ?_
  rintro e w2 ⟨rfl, hb2⟩
  have HB2 := Lib.hid ((HB1.out.alloc HB1.out.size _).trans (hb2.mono (by have := HB1.out.size; simp; omega)))
  clear hb2
  go_wp2_with fail
  go_ret
  exact ⟨rfl, HB2.out⟩

theorem gate_len (lock : Bs) : (gate lock).length = lock.length + 19 := by simp [gate, say, oHash, oPair, oGate]
end Go.Proofs.YtonjohlecomeoaaGreat.gky

/- Mix of the program. -/
namespace Go.Proofs.YtonjohlecomeoaaGreat.hmi
open Go.RowKit Go.Proofs.YtonjohlecomeoaaGreat.tm Go.Proofs.YtonjohlecomeoaaGreat.lib Go.Proofs.YtonjohlecomeoaaGreat.rdr Go.Proofs.YtonjohlecomeoaaGreat.bld Go.Proofs.YtonjohlecomeoaaGreat.mkp Go.Proofs.YtonjohlecomeoaaGreat.mrk Go.Proofs.YtonjohlecomeoaaGreat.ltq Go.Proofs.YtonjohlecomeoaaGreat.ltv Go.Proofs.YtonjohlecomeoaaGreat.ltp Go.Proofs.YtonjohlecomeoaaGreat.hdp Go.Proofs.YtonjohlecomeoaaGreat.blw Go.Proofs.YtonjohlecomeoaaGreat.gky
set_option linter.unusedVariables false

set_option maxHeartbeats 1000000 in
set_option maxRecDepth 100000 in
theorem implMix_calls (c t : Bs) (hc : c.length ≤ 4000000) (ht : t.length ≤ 4000000) (w : World) :
    Calls Tryz.prog 30 #[str c, str t] w fun e w' => e = .returned (str (mixR c t)) ∧ Below w.heap.size w w' := by
  rw [← mix_made c t]
  obtain ⟨P, hP⟩ : ∃ P, (makeR oPair [c, t]).1 = P := ⟨_, rfl⟩
  rw [hP]
  have hPl : P.length ≤ 4000000 := by have := made_len oPair [c, t]; rw [hP] at this; omega
  obtain ⟨G, hG⟩ : ∃ G, (makeR oHash [P]).1 = G := ⟨_, rfl⟩
  rw [hG]
  have c1 := fun (w : World) (b : Nat) h0 h1 hb => madeTwo oPair c t b 2 w h0 h1 hb (by decide) hc ht P hP
  have c2 := fun (w : World) (b : Nat) h0 hb => madeOne oHash P b 1 w h0 hb (by decide) hPl G hG
  have C1 := Lib.hid c1
  have C2 := Lib.hid c2
  unfold oPair at C1
  unfold oHash at C2
  clear c1 c2 hP hG hPl hc ht
  go_enter Tryz.func30, Tryz.ntmps30
  go_wp2_with fail
  refine (on (al0 _) (C1.out _ _ (by simp [go_sem]) (by simp [go_sem]) (by simp))).mono ?_
  rintro e w1 ⟨rfl, hb1⟩
  have HB1 := Lib.hid hb1
  clear hb1
  go_wp2_with fail
  refine (on (al1 HB1.out _) (C2.out _ _ (by simp [go_sem]) (by simp))).mono ?_
  rintro e w2 ⟨rfl, hb2⟩
  have HB2 := Lib.hid hb2
  clear hb2
  go_wp2_with fail
  go_ret
  exact ⟨rfl, HB2.out⟩
end Go.Proofs.YtonjohlecomeoaaGreat.hmi

/- Contract of Dh of the program. -/
namespace Go.Proofs.YtonjohlecomeoaaGreat.dhs
open Go.RowKit Go.Proofs.YtonjohlecomeoaaGreat.tm Go.Proofs.YtonjohlecomeoaaGreat.spm Go.Proofs.YtonjohlecomeoaaGreat.lib Go.Proofs.YtonjohlecomeoaaGreat.rdr Go.Proofs.YtonjohlecomeoaaGreat.bld Go.Proofs.YtonjohlecomeoaaGreat.app Go.Proofs.YtonjohlecomeoaaGreat.grd Go.Proofs.YtonjohlecomeoaaGreat.txo Go.Proofs.YtonjohlecomeoaaGreat.sop Go.Proofs.YtonjohlecomeoaaGreat.iop Go.Proofs.YtonjohlecomeoaaGreat.mkp Go.Proofs.YtonjohlecomeoaaGreat.mrk Go.Proofs.YtonjohlecomeoaaGreat.imk
set_option linter.unusedVariables false

/-! ### of the program -/

theorem as_pub (a : Bs) (w : World) : (Instr.typeAssert (.iface 169 (.agg #[str a])) 122 169 true).run Tryz.prog w = .ok (.tuple #[.agg #[str a], .bool true]) w := by kernel_rfl
theorem as_pub_nil (w : World) : (Instr.typeAssert .nilIface 122 169 true).run Tryz.prog w = .ok (.tuple #[.agg #[.string ⟨#[]⟩], .bool false]) w := by kernel_rfl
theorem as_pub_no (T : Tm) (h : T.op ≠ oPub) (w : World) : (Instr.typeAssert (val T) 122 169 true).run Tryz.prog w = .ok (.tuple #[.agg #[.string ⟨#[]⟩], .bool false]) w := by
  cases T with
  | pub a => exact absurd rfl h
  | _ => kernel_rfl

theorem rds_two (b : Nat) (w : World) (x s : Bs) (hb : b = w.heap.size) : Rds (w.alloc (.cells #[str x, str s] 9)) (.slice (some ⟨b, 0, none⟩) 2 2) [x, s] := by
  subst hb
  refine .inr ⟨w.heap.size, 0, 2, rfl, by simp, fun j l hj => ?_⟩
  match j, hj with
  | 0, hj => simp at hj; subst hj; simp [go_sem]
  | 1, hj => simp at hj; subst hj; simp [go_sem]

theorem yes_at (l : Bs) (T : Tm) (h : term l = some T) (w : World) : Calls Tryz.prog 106 #[str l] w fun e w' => e = .returned (.tuple #[val T, .bool true]) ∧ Below w.heap.size w w' :=
  termOf_yes ⟨l.toArray⟩ (by have := (term_some.1 h).1; unfold maxLen; show l.toArray.size ≤ _; simp; omega) T h w
theorem no_at (l : Bs) (hl : l.length ≤ 8000) (h : term l = none) (w : World) : Calls Tryz.prog 106 #[str l] w fun e w' => e = .returned (.tuple #[.nilIface, .bool false]) ∧ Below w.heap.size w w' :=
  termOf_no ⟨l.toArray⟩ (by unfold maxLen; show l.toArray.size ≤ _; simp; omega) h w

theorem out_block {w w1 : World} (h : Below (w.alloc (.cells #[.string ⟨#[]⟩, .int .i64 0] 87)).heap.size (w.alloc (.cells #[.string ⟨#[]⟩, .int .i64 0] 87)) w1) (o : Obj) :
    (w1.alloc o).heap[w.heap.size]? = some (.cells #[.string ⟨#[]⟩, .int .i64 0] 87 (0, 0)) := by
  have hz := h.size
  simp at hz
  rw [Below.heap_alloc _ _ _ (by omega)]
  exact clo.new_kept h
theorem out_bel {w w1 : World} {o1 : Obj} (h : Below (w.alloc o1).heap.size (w.alloc o1) w1) : Below w.heap.size w w1 := ((Below.refl _ _).alloc (Nat.le_refl _) _).trans (h.mono (by simp))

set_option maxHeartbeats 2000000 in
set_option maxRecDepth 100000 in
theorem implDh_calls (x p r : Bs) (c : Int) (h : DhR x p r c) (hx : x.length ≤ 4000000) (hp : p.length ≤ 4000000) (w : World) :
    Calls Tryz.prog 108 #[str x, str p] w fun e w' => e = .returned (outVal r c) ∧ Below w.heap.size w w' := by
  by_cases hs : 8000 < x.length ∨ 8000 < p.length
  · obtain ⟨rfl, rfl⟩ : r = [] ∧ c = 2 := by cases h <;> first | exact ⟨rfl, rfl⟩ | omega
    unfold outVal
    clear h
    by_cases h1 : 8000 < x.length
    · have t1 := tooLong_calls x hx true (by simpa using h1)
      go_enter Tryz.func108, Tryz.ntmps108
      go_wp2_with (go_at_call 102; refine (t1 _).mono ?_; rintro e w' ⟨rfl, rfl⟩)
      exact bodyPost_ret (v := .agg #[.string ⟨#[]⟩, .int .i64 2]) (by simp [results, Tryz.results108, go_sem]) rfl ⟨rfl, (Below.refl _ _).alloc (Nat.le_refl _) _⟩
    · have t1 := tooLong_calls x hx false (by simpa using h1)
      have t2 := tooLong_calls p hp true (by simp; omega)
      go_enter Tryz.func108, Tryz.ntmps108
      go_wp2_with (go_at_call 102; first | (refine (t1 _).mono ?_; rintro e w' ⟨rfl, rfl⟩) | (refine (t2 _).mono ?_; rintro e w' ⟨rfl, rfl⟩))
      exact bodyPost_ret (v := .agg #[.string ⟨#[]⟩, .int .i64 2]) (by simp [results, Tryz.results108, go_sem]) rfl ⟨rfl, (Below.refl _ _).alloc (Nat.le_refl _) _⟩
  · have t1 := tooLong_calls x hx false (by simp; omega)
    have t2 := tooLong_calls p hp false (by simp; omega)
    have hpl : p.length ≤ 8000 := by omega
    by_cases hpub : ∃ s, term p = some (.pub s)
    · obtain ⟨s, hT⟩ := hpub
      have hsa : atomR s = true := (term_some.1 hT).2.1
      have hR : makeR oDh [x, s] = (r, c) := by
        rw [make_dh x s hsa]
        cases h with
        | size h => exact absurd h hs
        | atom h1 h2 h => rw [h]; rfl
        | form h1 h2 ha h => rw [h] at hT; cases hT
        | other h1 h2 ha T hT' h => rw [hT'] at hT; cases hT; exact absurd rfl h
        | pub h1 h2 ha s' hT' => rw [hT'] at hT; cases hT; rw [ha]; rfl
      have hsl : s.length ≤ 8 := (atomR_len hsa).2
      have a1 := yes_at p (.pub s) hT
      simp only [val] at a1
      have a2 := as_pub s
      have a3 := fun ad (w : World) h => implMake_calls oDh ad 2 2 [x, s] w rfl h (by decide) (by simp) (by simp; omega)
      rw [hR] at a3
      unfold outVal at a3 ⊢
      have A3 := Lib.hid a3
      clear h hT hsa hR a3
      go_enter Tryz.func108, Tryz.ntmps108
      go_wp2_with (go_at_call 102; first | (refine (t1 _).mono ?_; rintro e w' ⟨rfl, rfl⟩) | (refine (t2 _).mono ?_; rintro e w' ⟨rfl, rfl⟩))
      refine (a1 _).mono ?_
      rintro e w1 ⟨rfl, hb⟩
      have HB := Lib.hid hb
      clear hb
      go_wp2_with fail
      refine (A3.out _ _ (rds_two _ _ x s (by simp))).mono ?_
      rintro e w2 ⟨rfl, hb2⟩
      have hz := HB.out.size
      simp at hz
      have hblk : w2.heap[w.heap.size]? = some (.cells #[.string ⟨#[]⟩, .int .i64 0] 87 (0, 0)) := by
        rw [hb2.block _ (by simp; omega), Below.heap_alloc _ _ _ (by simp; omega)]
        exact out_block HB.out _
      obtain ⟨c0, c1, f0, f1, hz2⟩ := two hblk
      have HB2 := Lib.hid ((((out_bel HB.out).alloc (by omega) _).alloc (by simp; omega) _).trans (hb2.mono (by simp; omega)))
      clear hb2 hblk
      go_wp2_with fail
      exact bodyPost_ret (v := .agg #[str r, .int .i64 c]) (by simp [results, Tryz.results108, go_sem, c0, c1]) rfl ⟨rfl, fin4 HB2.out _ _ (Nat.le_refl _)⟩
    · obtain ⟨rfl, rfl⟩ : r = [] ∧ c = 1 := by
        cases h with
        | size h => exact absurd h hs
        | pub h1 h2 ha s hT => exact absurd ⟨s, hT⟩ hpub
        | _ => exact ⟨rfl, rfl⟩
      unfold outVal
      clear h
      rcases hT : term p with _ | T
      · have a1 := no_at p hpl hT
        have a2 := as_pub_nil
        clear hT hpub
        go_enter Tryz.func108, Tryz.ntmps108
        go_wp2_with (go_at_call 102; first | (refine (t1 _).mono ?_; rintro e w' ⟨rfl, rfl⟩) | (refine (t2 _).mono ?_; rintro e w' ⟨rfl, rfl⟩))
        refine (a1 _).mono ?_
        rintro e w1 ⟨rfl, hb⟩
        have HB := Lib.hid hb
        obtain ⟨c0, c1, f0, f1, hz⟩ := two (out_block HB.out (.cells #[.string ⟨#[]⟩] 169))
        clear hb
        go_wp2_with fail
        exact bodyPost_ret (v := .agg #[.string ⟨#[]⟩, .int .i64 1]) (by simp [results, Tryz.results108, go_sem, c0, c1]) rfl ⟨rfl, fin4 ((out_bel HB.out).alloc (by have := HB.out.size; simp at this; omega) _) _ _ (Nat.le_refl _)⟩
      · have ho : T.op ≠ oPub := fun e => by obtain ⟨s, rfl⟩ := op_pub e; exact hpub ⟨s, hT⟩
        have a1 := yes_at p T hT
        have a2 := as_pub_no T ho
        obtain ⟨tt, tv, ev⟩ := val_iface T
        simp only [ev] at a1 a2
        clear hT hpub ho ev
        go_enter Tryz.func108, Tryz.ntmps108
        go_wp2_with (go_at_call 102; first | (refine (t1 _).mono ?_; rintro e w' ⟨rfl, rfl⟩) | (refine (t2 _).mono ?_; rintro e w' ⟨rfl, rfl⟩))
        refine (a1 _).mono ?_
        rintro e w1 ⟨rfl, hb⟩
        have HB := Lib.hid hb
        obtain ⟨c0, c1, f0, f1, hz⟩ := two (out_block HB.out (.cells #[.string ⟨#[]⟩] 169))
        clear hb
        go_wp2_with fail
        exact bodyPost_ret (v := .agg #[.string ⟨#[]⟩, .int .i64 1]) (by simp [results, Tryz.results108, go_sem, c0, c1]) rfl ⟨rfl, fin4 ((out_bel HB.out).alloc (by have := HB.out.size; simp at this; omega) _) _ _ (Nat.le_refl _)⟩
end Go.Proofs.YtonjohlecomeoaaGreat.dhs
