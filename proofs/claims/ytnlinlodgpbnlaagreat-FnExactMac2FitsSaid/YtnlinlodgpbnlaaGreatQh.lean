/- Several small texts, one behind the other. -/
import Derived.Test.YtnlinlodgpbnlaaGreatSdpq
import Derived.Test.YtnlinlodgpbnlaaGreatQb
import Derived.Test.YtnlinlodgpbnlaaGreatQf
import Derived.Test.YtnlinlodgpbnlaaGreatQd
import Derived.Test.YtnlinlodgpbnlaaGreatDpdq
import Derived.Test.YtnlinlodgpbnlaaGreatQe

/- Contracts of the model's l02Deep at every depth, TermRight, DeepOf. -/
namespace Go.Proofs.YtnlinlodgpbnlaaGreat.srt
open Go.RowKit Go.Proofs.YtnlinlodgpbnlaaGreat.tm Go.Proofs.YtnlinlodgpbnlaaGreat.lib Go.Proofs.YtnlinlodgpbnlaaGreat.rdr Go.Proofs.YtnlinlodgpbnlaaGreat.bld Go.Proofs.YtnlinlodgpbnlaaGreat.app Go.Proofs.YtnlinlodgpbnlaaGreat.spm Go.Proofs.YtnlinlodgpbnlaaGreat.sar Go.Proofs.YtnlinlodgpbnlaaGreat.sdp
set_option linter.unusedVariables false

theorem sd_all : ∀ n, 1 ≤ n → n ≤ 24 → SD n
  | 0, h, _ => by omega
  | 1, h, _ => fun t ht w => sd_plain 1 h (by omega) t ht (.inr (.inr rfl)) w
  | n + 2, h, h2 => by
    intro t ht w
    have ih := sd_all (n + 1) (by omega) (by omega)
    by_cases ha : atomR t.data.toList = true
    · exact sd_plain (n + 2) h h2 t ht (.inl ha) w
    have ha' : atomR t.data.toList = false := by simpa using ha
    cases hg : args t.data.toList with
    | none => exact sd_plain (n + 2) h h2 t ht (.inr (.inl hg)) w
    | some a =>
      obtain ⟨op, ks, rfl, _⟩ := args_say hg
      by_cases hm : many op = 0 ∨ ks.length ≠ many op
      · exact sd_shape (n + 1) (by omega) (by omega) t ht ha' op ks hg hm w
      · have hm1 : many op ≠ 0 := fun e => hm (.inl e)
        have hm2 : ks.length = many op := Decidable.not_not.1 fun e => hm (.inr e)
        rcases many_cases op with h0 | ⟨h1, hop⟩ | ⟨h1, hop⟩
        · exact absurd h0 hm1
        · rw [h1] at hm2
          match ks, hm2 with
          | [x], _ =>
            rcases hop with rfl | rfl
            · refine sd_one (n + 1) (by omega) (by omega) ih t ht ha' oHash x hg rfl false rfl _ ?_ rfl w
              by_cases hx : dz (n + 1) x = 0
              · exact .inl ⟨hx, dz_mk_none ha' hg (mk_zero (x := x) (by simp) hx)⟩
              · exact .inr (.inr ⟨hx, (by intro e; cases e), dz_mk_some ha' hg (mk_hash hx)⟩)
            · refine sd_one (n + 1) (by omega) (by omega) ih t ht ha' oPub x hg rfl true rfl _ ?_ rfl w
              by_cases hx : dz (n + 1) x = 0
              · exact .inl ⟨hx, dz_mk_none ha' hg (mk_zero (x := x) (by simp) hx)⟩
              · by_cases hx2 : 2 ≤ dz (n + 1) x
                · exact .inr (.inl ⟨hx, rfl, hx2, dz_mk_none ha' hg (mk_pub_no hx2)⟩)
                · have hx1 : dz (n + 1) x = 1 := by omega
                  exact .inr (.inr ⟨hx, fun _ => hx1, by rw [dz_mk_some ha' hg (mk_pub_yes hx1), hx1]⟩)
        · rw [h1] at hm2
          match ks, hm2 with
          | [x, y], _ =>
            by_cases hdh : op = oDh
            · subst hdh
              refine sd_dh (n + 1) (by omega) (by omega) ih t ht ha' x y hg _ ?_ w
              by_cases hx : dz (n + 1) x = 0
              · exact .inl ⟨.inl hx, dz_mk_none ha' hg (mk_zero (x := x) (by simp) hx)⟩
              by_cases hx2 : 2 ≤ dz (n + 1) x
              · exact .inl ⟨.inr hx2, dz_mk_none ha' hg (mk_dh_no (.inl hx2))⟩
              have hx1 : dz (n + 1) x = 1 := by omega
              by_cases hy : dz (n + 1) y = 0
              · exact .inr (.inl ⟨hx1, .inl hy, dz_mk_none ha' hg (mk_zero (x := y) (by simp) hy)⟩)
              by_cases hy2 : 2 ≤ dz (n + 1) y
              · exact .inr (.inl ⟨hx1, .inr hy2, dz_mk_none ha' hg (mk_dh_no (.inr hy2))⟩)
              have hy1 : dz (n + 1) y = 1 := by omega
              cases hgt : gt x y
              · exact .inr (.inr (.inr ⟨hx1, hy1, rfl, dz_mk_some ha' hg ((mk_dh hx1 hy1).1 hgt)⟩))
              · exact .inr (.inr (.inl ⟨hx1, hy1, rfl, dz_mk_none ha' hg ((mk_dh hx1 hy1).2 hgt)⟩))
            · have hop3 : op = oPair ∨ op = oMac ∨ op = oShut := by
                rcases hop with h | h | h | h
                · exact .inl h
                · exact .inr (.inl h)
                · exact .inr (.inr h)
                · exact absurd h hdh
              have hs : secret op = false := by rcases hop3 with rfl | rfl | rfl <;> rfl
              refine sd_two (n + 1) (by omega) (by omega) ih t ht ha' op x y hg h1 hs (by rw [beq_eq_false_iff_ne]; exact hdh) _ ?_ w
              by_cases hx : dz (n + 1) x = 0
              · exact .inl ⟨hx, dz_mk_none ha' hg (mk_zero (x := x) (by simp) hx)⟩
              by_cases hy : dz (n + 1) y = 0
              · exact .inr (.inl ⟨hx, hy, dz_mk_none ha' hg (mk_zero (x := y) (by simp) hy)⟩)
              · exact .inr (.inr ⟨hx, hy, dz_mk_some ha' hg (mk_pms hop3 hx hy)⟩)

/-- How deep: of what is not right 0. -/
def deepT (l : Bs) : Nat := match term l with | some T => T.deep | none => 0

theorem deepT_small {l : Bs} (h : l.length ≤ 3000) : deepT l = dz 24 l := by
  have e : term l = pz 24 l := by unfold term; rw [if_pos h]
  unfold deepT dz
  rw [e]
  cases pz 24 l <;> rfl
theorem deepT_big {l : Bs} (h : ¬ l.length ≤ 3000) : deepT l = 0 ∧ term l = none := by
  have : term l = none := by unfold term; rw [if_neg h]
  exact ⟨by unfold deepT; rw [this], this⟩
theorem term_isSome (l : Bs) : (term l).isSome = decide (0 < deepT l) := by
  unfold deepT
  cases h : term l with
  | none => rfl
  | some T => have := deep_pos T; simp; omega

set_option maxRecDepth 100000 in
theorem specTermRight_calls (s : ByteArray) (hs : s.size ≤ maxLen) (w : World) :
    Calls Tryz.prog 26 #[.string s] w fun e w' => e = .returned (.bool (term s.data.toList).isSome) ∧ Below w.heap.size w w' := by
  unfold maxLen at hs
  by_cases hbig : 3000 < s.size
  · have d0 : decide ((s.size : Int) ≤ 3000) = false := by simp; omega
    rw [(deepT_big (l := s.data.toList) (by show ¬ s.size ≤ 3000; omega)).2]
    go_enter Tryz.func26, Tryz.ntmps26
    go_wp2_with fail
    go_ret
    exact ⟨rfl, Below.refl _ _⟩
  · have d0 : decide ((s.size : Int) ≤ 3000) = true := by simp; omega
    have e0 := term_isSome s.data.toList
    rw [deepT_small (show s.data.toList.length ≤ 3000 by show s.size ≤ 3000; omega)] at e0
    rw [e0]
    have c1 := sd_all 24 (by omega) (by omega) s (by omega)
    obtain ⟨d, hd⟩ : ∃ d, dz 24 s.data.toList = d := ⟨_, rfl⟩
    rw [hd] at c1 ⊢
    clear hd e0
    go_enter Tryz.func26, Tryz.ntmps26
    go_wp2_with (go_at_call 86; refine (c1 _).mono ?_; rintro e w1 ⟨rfl, hb⟩)
    go_ret
    exact ⟨ret_bool (by simp), hb⟩

end Go.Proofs.YtnlinlodgpbnlaaGreat.srt

/- TermRight of the model at texts; small frames; a text and a code as a value. -/
namespace Go.Proofs.YtnlinlodgpbnlaaGreat.sop
open Go.RowKit Go.Proofs.YtnlinlodgpbnlaaGreat.tm Go.Proofs.YtnlinlodgpbnlaaGreat.lib Go.Proofs.YtnlinlodgpbnlaaGreat.rdr Go.Proofs.YtnlinlodgpbnlaaGreat.bld Go.Proofs.YtnlinlodgpbnlaaGreat.app
set_option linter.unusedVariables false

theorem right_at (l : Bs) (b : Bool) (h : (term l).isSome = b) (hl : l.length ≤ 8000) (w : World) :
    Calls Tryz.prog 26 #[str l] w fun e w' => e = .returned (.bool b) ∧ Below w.heap.size w w' := by
  have := srt.specTermRight_calls ⟨l.toArray⟩ (by unfold maxLen; show l.toArray.size ≤ _; simp; omega) w
  rw [show (term (⟨l.toArray⟩ : ByteArray).data.toList).isSome = b from h] at this
  exact this

theorem fin2 {w w3 : World} {o0 : Obj} (h : Below (w.alloc o0).heap.size (w.alloc o0) w3) (a b : Value) (o : Obj) : Below w.heap.size w (((w3.setCell ⟨w.heap.size, 0, none⟩ a).setCell ⟨w.heap.size, 1, none⟩ b).alloc o) := by
  have hz := h.size
  simp at hz
  exact (((((Below.refl _ _).alloc (Nat.le_refl _) _).trans (h.mono (by simp))).setCell (by simp) _).setCell (by simp) _).alloc (by simp [World.setCell]; omega) _
theorem fin3 {w w3 : World} {o0 : Obj} (h : Below (w.alloc o0).heap.size (w.alloc o0) w3) (a b : Value) : Below w.heap.size w ((w3.setCell ⟨w.heap.size, 0, none⟩ a).setCell ⟨w.heap.size, 1, none⟩ b) :=
  ((((Below.refl _ _).alloc (Nat.le_refl _) _).trans (h.mono (by simp))).setCell (by simp) _).setCell (by simp) _

def outVal (r : Bs) (c : Int) : Value := .agg #[str r, .int .i64 c]

end Go.Proofs.YtnlinlodgpbnlaaGreat.sop

/- Contracts of tooLong, termOut, readTerm at texts. -/
namespace Go.Proofs.YtnlinlodgpbnlaaGreat.iop
open Go.RowKit Go.Proofs.YtnlinlodgpbnlaaGreat.tm Go.Proofs.YtnlinlodgpbnlaaGreat.lib Go.Proofs.YtnlinlodgpbnlaaGreat.rdr Go.Proofs.YtnlinlodgpbnlaaGreat.bld Go.Proofs.YtnlinlodgpbnlaaGreat.app Go.Proofs.YtnlinlodgpbnlaaGreat.grd Go.Proofs.YtnlinlodgpbnlaaGreat.txo Go.Proofs.YtnlinlodgpbnlaaGreat.sop
set_option linter.unusedVariables false

set_option maxRecDepth 100000 in
theorem tooLong_calls (l : Bs) (hl : l.length ≤ 4000000) (b : Bool) (h : decide (8000 < l.length) = b) (w : World) :
    Calls Tryz.prog 67 #[str l] w fun e w' => e = .returned (.bool b) ∧ w = w' := by
  have d : decide (8000 < (l.length : Int)) = b := by rw [← h]; simp; omega
  clear h
  go_enter Tryz.func67, Tryz.ntmps67
  go_wp2_with fail
  go_ret
  exact ⟨rfl, rfl⟩

/-- termOut of a closure that returns. -/
theorem termOut_ret (F : FuncId) (cap : Array Value) (r : Bs) (hcf : ∀ (w : World), (callFunc F cap).run Tryz.prog w = .ok (.enter F cap) w) (w : World)
    (h : ∀ w1, Below w.heap.size w w1 → Calls Tryz.prog F cap w1 fun e w' => e = .returned (str r) ∧ Below w1.heap.size w1 w') :
    Calls Tryz.prog 70 #[.func (.func F) #[] cap] w fun e w' => e = .returned (outVal r 0) ∧ Below w.heap.size w w' := by
  unfold outVal
  have hg := guardedS_ret F cap (str r) hcf
  have HH := Lib.hid h
  clear h
  go_enter Tryz.func70, Tryz.ntmps70
  go_wp2_with fail
  refine (hg _ fun w1 hb => HH.out w1 (((Below.refl _ _).alloc (Nat.le_refl _) _).trans (hb.mono (by simp)))).mono ?_
  rintro e w1 ⟨rfl, hb⟩
  have HB := Lib.hid hb
  obtain ⟨c0, c1, f0, f1, hz⟩ := two (clo.new_kept hb)
  clear hb
  go_wp2_with fail
  exact bodyPost_ret (v := .agg #[str r, .int .i64 0]) (by simp [results, Tryz.results70, go_sem, c0, c1]) rfl ⟨rfl, fin3 HB.out _ _⟩

theorem termOut_fault (F : FuncId) (cap : Array Value) (c : Int) (hcf : ∀ (w : World), (callFunc F cap).run Tryz.prog w = .ok (.enter F cap) w) (w : World)
    (h : ∀ w1, Below w.heap.size w w1 → Calls Tryz.prog F cap w1 fun e w' => e = fault c ∧ Below w1.heap.size w1 w') :
    Calls Tryz.prog 70 #[.func (.func F) #[] cap] w fun e w' => e = .returned (outVal [] c) ∧ Below w.heap.size w w' := by
  unfold outVal
  have hg := guardedS_fault F cap c hcf
  have HH := Lib.hid h
  clear h
  go_enter Tryz.func70, Tryz.ntmps70
  go_wp2_with fail
  refine (hg _ fun w1 hb => HH.out w1 (((Below.refl _ _).alloc (Nat.le_refl _) _).trans (hb.mono (by simp)))).mono ?_
  rintro e w1 ⟨rfl, hb⟩
  have HB := Lib.hid hb
  obtain ⟨c0, c1, f0, f1, hz⟩ := two (clo.new_kept hb)
  clear hb
  go_wp2_with fail
  exact bodyPost_ret (v := .agg #[.string ⟨#[]⟩, .int .i64 c]) (by simp [results, Tryz.results70, go_sem, c0, c1]) rfl ⟨rfl, fin3 HB.out _ _⟩

theorem read_yes (l : Bs) (T : Tm) (h : term l = some T) (w : World) : Calls Tryz.prog 82 #[str l] w fun e w' => e = .returned (val T) ∧ Below w.heap.size w w' := by
  refine (readTerm_calls ⟨l.toArray⟩ (by have := (term_some.1 h).1; unfold maxLen; show l.toArray.size ≤ _; simp; omega) w).mono ?_
  rintro e w' ⟨hk, hb⟩
  rw [show term (⟨l.toArray⟩ : ByteArray).data.toList = some T from h] at hk
  rcases hk with ⟨T', h1, rfl⟩ | ⟨h1, _⟩
  · cases h1; exact ⟨rfl, hb⟩
  · cases h1
theorem read_no (l : Bs) (hl : l.length ≤ 4000000) (h : term l = none) (w : World) : Calls Tryz.prog 82 #[str l] w fun e w' => e = fault 1 ∧ Below w.heap.size w w' := by
  refine (readTerm_calls ⟨l.toArray⟩ (by unfold maxLen; show l.toArray.size ≤ _; simp; omega) w).mono ?_
  rintro e w' ⟨hk, hb⟩
  rw [show term (⟨l.toArray⟩ : ByteArray).data.toList = none from h] at hk
  rcases hk with ⟨T', h1, _⟩ | ⟨_, rfl⟩
  · cases h1
  · exact ⟨rfl, hb⟩

theorem kept_cell {w w1 : World} (h : Below w.heap.size w w1) {a : Nat} {v : Value} (c : w.cell? ⟨a, 0, none⟩ = some v) (ha : a < w.heap.size) : w1.cell? ⟨a, 0, none⟩ = some v := by
  rw [h.cell (p := ⟨a, 0, none⟩) ha]; exact c

def OEnd (r : Bs) (c : Int) (w : World) (e : Ending) (w' : World) : Prop := ((c = 0 ∧ e = .returned (str r)) ∨ (c ≠ 0 ∧ e = fault c)) ∧ Below w.heap.size w w'

end Go.Proofs.YtnlinlodgpbnlaaGreat.iop

/- Contracts of readTerms and fitting of the program. -/
namespace Go.Proofs.YtnlinlodgpbnlaaGreat.rts
open Go.RowKit Go.Proofs.YtnlinlodgpbnlaaGreat.tm Go.Proofs.YtnlinlodgpbnlaaGreat.lib Go.Proofs.YtnlinlodgpbnlaaGreat.rdr Go.Proofs.YtnlinlodgpbnlaaGreat.bld Go.Proofs.YtnlinlodgpbnlaaGreat.app Go.Proofs.YtnlinlodgpbnlaaGreat.grd Go.Proofs.YtnlinlodgpbnlaaGreat.txo Go.Proofs.YtnlinlodgpbnlaaGreat.sop Go.Proofs.YtnlinlodgpbnlaaGreat.iop Go.Proofs.YtnlinlodgpbnlaaGreat.mkp Go.Proofs.YtnlinlodgpbnlaaGreat.mrk
set_option linter.unusedVariables false

theorem terms_none {l : List Bs} {k : Nat} {x : Bs} (hk : l[k]? = some x) (h : term x = none) : terms l = none := by
  induction l generalizing k with
  | nil => simp at hk
  | cons a l ih =>
    rw [terms_cons]
    cases k with
    | zero => simp at hk; subst hk; rw [h]
    | succ k =>
      rw [ih (k := k) (by simpa using hk)]
      cases term a <;> rfl
theorem terms_snoc {l : List Bs} {Ts : List Tm} {x : Bs} {T : Tm} (h : terms l = some Ts) (hx : term x = some T) : terms (l ++ [x]) = some (Ts ++ [T]) := by
  induction l generalizing Ts with
  | nil => simp [terms] at h; subst h; simp [terms, hx]
  | cons a l ih =>
    rw [terms_cons] at h
    rw [List.cons_append, terms_cons]
    cases ha : term a with
    | none => rw [ha] at h; cases h
    | some A =>
      rw [ha] at h
      cases hl : terms l with
      | none => rw [hl] at h; cases h
      | some L =>
        rw [hl] at h
        cases h
        rw [ih hl]
        rfl

structure Lp (w : World) (n : Nat) (ls : List Bs) (v : Value) (wr : World) (k : Nat) (ts : List Tm) : Prop where
  le : k ≤ n
  told : terms (ls.take k) = some ts
  bel : Below w.heap.size w wr
  own : Tms wr w.heap.size v ts

def RTEnd (ls : List Bs) (w : World) (e : Ending) (w' : World) : Prop :=
  Below w.heap.size w w' ∧ ((∃ Ts v, terms ls = some Ts ∧ e = .returned v ∧ Tms w' w.heap.size v Ts) ∨ (terms ls = none ∧ e = fault 1))

set_option maxHeartbeats 1000000 in
set_option maxRecDepth 100000 in
theorem readTerms_calls (ad : Option Addr) (n cap : Nat) (ls : List Bs) (w : World) (hn : n = ls.length) (h : Rds w (.slice ad n cap) ls) (hl : ls.length ≤ 1000) (hs : ∀ x ∈ ls, x.length ≤ 4000000) :
    Calls Tryz.prog 75 #[.slice ad n cap] w (RTEnd ls w) := by
  have hn2 : n ≤ 1000 := by omega
  have H := Lib.hid h
  have HN := Lib.hid hn
  have HS := Lib.hid hs
  clear h hn hs hl
  go_enter Tryz.func75, Tryz.ntmps75
  go_wp2_with fail
  go_loopw [3, 5, 8, 9, 10, 11, 12, 13, 14, 15, 16, 17] (fun v _ vk _ _ _ _ _ _ _ _ _ wr => ∃ k ts, vk = .int .i64 (k : Nat) ∧ Lp w n ls v wr k ts) (fun _ _ vk _ _ _ _ _ _ _ _ _ _ => n - (intOf vk).toNat)
  case atStart => exact ⟨0, [], rfl, Nat.zero_le _, rfl, Below.refl _ _, Tms.nil _ _⟩
  case round =>
    obtain ⟨k, ts, rfl, L⟩ := hrel
    have HL := Lib.hid L
    have hk := L.le
    have hkl : ts.length ≤ 1000 := by
      have := terms_len _ _ L.told
      rw [List.length_take] at this
      omega
    clear L
    by_cases hlt : k < n
    · have hk' : k < ls.length := by have := HN.out; omega
      obtain ⟨x, hx⟩ : ∃ x, ls[k]? = some x := ⟨_, List.getElem?_eq_getElem hk'⟩
      rcases H.out with ⟨h0, _⟩ | ⟨g, off, cap', e, hg, hc⟩
      · rw [h0] at hx; simp at hx
      cases e
      have c1 : wr.cell? ⟨g, off + k, none⟩ = some (str x) := by rw [← hc k x hx]; exact HL.out.bel.cell (p := ⟨g, off + k, none⟩) hg
      have hxs : x.length ≤ 4000000 := HS.out x (List.mem_of_getElem? hx)
      have HX := Lib.hid hx
      clear hx hc hg
      rcases ht : term x with _ | T
      · have a1 := read_no x hxs ht
        have HT := Lib.hid (terms_none HX.out ht)
        clear ht
        go_wp2_with fail
        refine (a1 _).mono ?_
        rintro e w1 ⟨rfl, hb⟩
        exact ⟨rfl, HL.out.bel.trans (hb.mono HL.out.bel.size), .inr ⟨HT.out, rfl⟩⟩
      · have a1 := read_yes x T ht
        have HT := Lib.hid (terms_snoc HL.out.told ht)
        clear ht
        go_wp2_with fail
        refine (a1 _).mono ?_
        rintro e w1 ⟨rfl, hb⟩
        have T1 := Lib.hid (Tms.below HL.out.own hb)
        have HB := Lib.hid (HL.out.bel.trans (hb.mono HL.out.bel.size))
        have hz : w.heap.size ≤ w1.heap.size := HB.out.size
        clear hb c1
        obtain ⟨tt, vv, ev⟩ := val_iface T
        rw [ev]
        have EV := Lib.hid ev.symm
        clear ev
        go_wp2_with (at_builtin; refine wp_putT (.tmp 12) (.tmp 15) T _ EV.out w.heap.size _ ts rfl rfl rfl T1.out rfl (by omega) hz ?_; intro v6 w6 t6 b6)
        have T6 := Lib.hid t6
        have B6 := Lib.hid (HB.out.trans b6)
        clear t6 b6
        go_roundw
        case rel =>
          refine ⟨k + 1, ts ++ [T], by simp, hlt, ?_, B6.out, T6.out⟩
          rw [List.take_add_one, HX.out]
          exact HT.out
        case measure => simp [intOf]; omega
    · obtain rfl : k = n := by omega
      go_wp2_with fail
      go_ret
      refine ⟨HL.out.bel, .inl ⟨ts, _, ?_, rfl, HL.out.own⟩⟩
      have := HL.out.told
      rw [List.take_of_length_le (by have := HN.out; omega)] at this
      exact this

set_option maxRecDepth 100000 in
/-- A term that can be read again. -/
theorem fitting_yes (T : Tm) (h1 : T.tx.length ≤ 3000) (h2 : T.deep ≤ 24) (w : World) :
    Calls Tryz.prog 73 #[val T] w fun e w' => e = .returned (val T) ∧ Below w.heap.size w w' := by
  have a1 := textOf_calls T (by omega)
  have a2 := dpt.deepOf_calls T (by omega)
  obtain ⟨D, hD⟩ : ∃ D, D = T.deep := ⟨_, rfl⟩
  obtain ⟨X, hX⟩ : ∃ X, X = T.tx := ⟨_, rfl⟩
  rw [← hX] at a1 h1
  rw [← hD] at a2 h2
  obtain ⟨t, v, e⟩ := val_iface T
  rw [e] at a1 a2 ⊢
  have d1 : decide (3000 < (X.length : Int)) = false := by simp; omega
  have d2 : decide (24 < (D : Int)) = false := by simp; omega
  clear hD hX e
  go_enter Tryz.func73, Tryz.ntmps73
  go_wp2_with fail
  refine (a1 _).mono ?_
  rintro e w1 ⟨rfl, hb⟩
  have HB := Lib.hid hb
  clear hb
  go_wp2_with fail
  refine (a2 _).mono ?_
  rintro e w2 ⟨rfl, hb⟩
  have HB2 := Lib.hid (HB.out.trans (hb.mono HB.out.size))
  clear hb
  go_wp2_with fail
  go_ret
  exact ⟨rfl, HB2.out⟩

set_option maxRecDepth 100000 in
theorem fitting_no (T : Tm) (hl : T.tx.length ≤ 1000000) (hd : T.deep ≤ 100) (h : ¬ (T.tx.length ≤ 3000 ∧ T.deep ≤ 24)) (w : World) :
    Calls Tryz.prog 73 #[val T] w fun e w' => e = fault 9 ∧ Below w.heap.size w w' := by
  have a1 := textOf_calls T hl
  have a2 := dpt.deepOf_calls T hd
  obtain ⟨D, hD⟩ : ∃ D, D = T.deep := ⟨_, rfl⟩
  obtain ⟨X, hX⟩ : ∃ X, X = T.tx := ⟨_, rfl⟩
  rw [← hX] at a1 h
  rw [← hD] at a2 h
  obtain ⟨t, v, e⟩ := val_iface T
  rw [e] at a1 a2 ⊢
  clear hl hd hD hX e
  by_cases h1 : X.length ≤ 3000
  · have d1 : decide (3000 < (X.length : Int)) = false := by simp; omega
    have d2 : decide (24 < (D : Int)) = true := by simp; omega
    clear h
    go_enter Tryz.func73, Tryz.ntmps73
    go_wp2_with fail
    refine (a1 _).mono ?_
    rintro e w1 ⟨rfl, hb⟩
    have HB := Lib.hid hb
    clear hb
    go_wp2_with fail
    refine (a2 _).mono ?_
    rintro e w2 ⟨rfl, hb⟩
    have HB2 := Lib.hid (HB.out.trans (hb.mono HB.out.size))
    clear hb
    go_wp2_with (go_at_call 83; refine (refuse_calls _ _).mono ?_; rintro e w' ⟨rfl, rfl⟩)
    exact ⟨rfl, rfl, HB2.out⟩
  · have d1 : decide (3000 < (X.length : Int)) = true := by simp; omega
    clear h
    go_enter Tryz.func73, Tryz.ntmps73
    go_wp2_with fail
    refine (a1 _).mono ?_
    rintro e w1 ⟨rfl, hb⟩
    have HB := Lib.hid hb
    clear hb
    go_wp2_with (go_at_call 83; refine (refuse_calls _ _).mono ?_; rintro e w' ⟨rfl, rfl⟩)
    exact ⟨rfl, rfl, HB.out⟩
end Go.Proofs.YtnlinlodgpbnlaaGreat.rts

/- Contract of the model's l02Say. -/
namespace Go.Proofs.YtnlinlodgpbnlaaGreat.ssy
open Go.RowKit Go.Proofs.YtnlinlodgpbnlaaGreat.tm Go.Proofs.YtnlinlodgpbnlaaGreat.lib Go.Proofs.YtnlinlodgpbnlaaGreat.rdr Go.Proofs.YtnlinlodgpbnlaaGreat.bld Go.Proofs.YtnlinlodgpbnlaaGreat.app Go.Proofs.YtnlinlodgpbnlaaGreat.txo Go.Proofs.YtnlinlodgpbnlaaGreat.sop
set_option linter.unusedVariables false

set_option maxHeartbeats 1000000 in
set_option maxRecDepth 100000 in
theorem say_one (op x : Bs) (g : Nat) (off : Nat) (cap : Nat) (w : World) (c0 : w.cell? ⟨g, off, none⟩ = some (str x)) (hop : op.length ≤ 10000) (hx : x.length ≤ 4000000) :
    Calls Tryz.prog 79 #[str op, .slice (some ⟨g, off, none⟩) 1 cap] w fun e w' => e = .returned (str (say op [x])) ∧ Below w.heap.size w w' := by
  obtain ⟨X, hX⟩ : ∃ X, X = say op [x] := ⟨_, rfl⟩
  obtain ⟨S1, hS1⟩ : ∃ S, 91 :: op = S := ⟨_, rfl⟩
  obtain ⟨S2, hS2⟩ : ∃ S, S1 ++ [32] = S := ⟨_, rfl⟩
  obtain ⟨S3, hS3⟩ : ∃ S, S2 ++ x = S := ⟨_, rfl⟩
  have l1 : S1.length ≤ 10001 := by rw [← hS1]; simp; omega
  have l2 : S2.length ≤ 10002 := by rw [← hS2]; simp; omega
  have l3 : S3.length ≤ 5000000 := by rw [← hS3]; simp; omega
  have f1 := add_at [91] op S1 hS1 (by omega)
  have f2 := add_at S1 [32] S2 hS2 (by omega)
  have f3 := add_at S2 x S3 hS3 (by omega)
  have f4 := add_at S3 [93] X (by rw [← hS3, ← hS2, ← hS1, hX]; simp [say]) (by rw [hX]; simp [say]; omega)
  rw [← hX]
  clear hX hS1 hS2 hS3 l1 l2 l3
  go_enter Tryz.func79, Tryz.ntmps79
  go_wp2_with fail
  refine wp_loop_rounds 2 ?_
  rw [rounds_succ]
  go_wp2_with fail
  rw [rounds_succ]
  go_wp2_with fail
  go_ret
  exact ⟨rfl, Below.refl _ _⟩

set_option maxHeartbeats 1000000 in
set_option maxRecDepth 100000 in
theorem say_two (op x y : Bs) (g : Nat) (off : Nat) (cap : Nat) (w : World) (c0 : w.cell? ⟨g, off, none⟩ = some (str x)) (c1 : w.cell? ⟨g, off + 1, none⟩ = some (str y)) (hop : op.length ≤ 10000) (hx : x.length ≤ 4000000) (hy : y.length ≤ 4000000) :
    Calls Tryz.prog 79 #[str op, .slice (some ⟨g, off, none⟩) 2 cap] w fun e w' => e = .returned (str (say op [x, y])) ∧ Below w.heap.size w w' := by
  obtain ⟨X, hX⟩ : ∃ X, X = say op [x, y] := ⟨_, rfl⟩
  obtain ⟨S1, hS1⟩ : ∃ S, 91 :: op = S := ⟨_, rfl⟩
  obtain ⟨S2, hS2⟩ : ∃ S, S1 ++ [32] = S := ⟨_, rfl⟩
  obtain ⟨S3, hS3⟩ : ∃ S, S2 ++ x = S := ⟨_, rfl⟩
  obtain ⟨S4, hS4⟩ : ∃ S, S3 ++ [32] = S := ⟨_, rfl⟩
  obtain ⟨S5, hS5⟩ : ∃ S, S4 ++ y = S := ⟨_, rfl⟩
  have l1 : S1.length ≤ 10001 := by rw [← hS1]; simp; omega
  have l2 : S2.length ≤ 10002 := by rw [← hS2]; simp; omega
  have l3 : S3.length ≤ 5000000 := by rw [← hS3]; simp; omega
  have l4 : S4.length ≤ 5000001 := by rw [← hS4]; simp; omega
  have l5 : S5.length ≤ 10000000 := by rw [← hS5]; simp; omega
  have f1 := add_at [91] op S1 hS1 (by omega)
  have f2 := add_at S1 [32] S2 hS2 (by omega)
  have f3 := add_at S2 x S3 hS3 (by omega)
  have f4 := add_at S3 [32] S4 hS4 (by omega)
  have f5 := add_at S4 y S5 hS5 (by omega)
  have f6 := add_at S5 [93] X (by rw [← hS5, ← hS4, ← hS3, ← hS2, ← hS1, hX]; simp [say]) (by rw [hX]; simp [say]; omega)
  rw [← hX]
  clear hX hS1 hS2 hS3 hS4 hS5 l1 l2 l3 l4 l5
  go_enter Tryz.func79, Tryz.ntmps79
  go_wp2_with fail
  refine wp_loop_rounds 3 ?_
  rw [rounds_succ]
  go_wp2_with fail
  rw [rounds_succ]
  go_wp2_with fail
  rw [rounds_succ]
  go_wp2_with fail
  go_ret
  exact ⟨rfl, Below.refl _ _⟩

end Go.Proofs.YtnlinlodgpbnlaaGreat.ssy
