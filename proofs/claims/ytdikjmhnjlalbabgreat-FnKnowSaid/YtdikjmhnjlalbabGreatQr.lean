/- Several small texts, one behind the other. -/
import Derived.Test.YtdikjmhnjlalbabGreatTkfq
import Derived.Test.YtdikjmhnjlalbabGreatStkq
import Derived.Test.YtdikjmhnjlalbabGreatQq
import Derived.Test.YtdikjmhnjlalbabGreatQk
import Derived.Test.YtdikjmhnjlalbabGreatQe
import Derived.Sort.KeysCollected

/- Knows and Learned of the program and of the model. -/
namespace Go.Proofs.YtdikjmhnjlalbabGreat.kws
open Go.RowKit Go.Proofs.YtdikjmhnjlalbabGreat.tm Go.Proofs.YtdikjmhnjlalbabGreat.lib Go.Proofs.YtdikjmhnjlalbabGreat.rdr Go.Proofs.YtdikjmhnjlalbabGreat.bld Go.Proofs.YtdikjmhnjlalbabGreat.app Go.Proofs.YtdikjmhnjlalbabGreat.mrk Go.Proofs.YtdikjmhnjlalbabGreat.mrs Go.Proofs.YtdikjmhnjlalbabGreat.kmp Go.Proofs.YtdikjmhnjlalbabGreat.kst Go.Proofs.YtdikjmhnjlalbabGreat.prt Go.Proofs.YtdikjmhnjlalbabGreat.pso Go.Proofs.YtdikjmhnjlalbabGreat.skr Go.Proofs.YtdikjmhnjlalbabGreat.ato Go.Proofs.YtdikjmhnjlalbabGreat.bui
set_option linter.unusedVariables false

/-- What is known by what is taken: whatever least closed set is asked. -/
theorem least_bld {l R R' : List Bs} (h : Least l R) (h' : Least l R') (T : Tm) : kmp.bld (inn R) T = kmp.bld (inn R') T :=
  bld_ext (fun x => by
    cases hx : inn R' x with
    | true => exact inn_iff.2 ((least_ext h h' x).2 (inn_iff.1 hx))
    | false => exact inn_no.2 fun hm => inn_no.1 hx ((least_ext h h' x).1 hm)) T

theorem least_asks {l R R' : List Bs} (h : Least l R) (h' : Least l R') (t : Bs) : asks R t = asks R' t := by
  unfold asks
  cases term t with
  | none => rfl
  | some T => exact least_bld h h' T

def KwEnd (ls : List Bs) (t : Bs) (w : World) (e : Ending) (w' : World) : Prop :=
  Below w.heap.size w w' ∧ ((∃ Ts R, Kn ls Ts ∧ Least ls R ∧ e = .returned (.bool (asks R t))) ∨ (∀ Ts, ¬ Kn ls Ts) ∧ e = .returned (.bool false))

set_option maxHeartbeats 1000000 in
set_option maxRecDepth 100000 in
theorem implKnows_calls (ad : Option Addr) (n cap : Nat) (ls : List Bs) (t : Bs) (ht : t.length ≤ maxLen) (w : World) (hn : n = ls.length) (h : Rds w (.slice ad n cap) ls) (hm : n ≤ maxLen) (hs : ∀ x ∈ ls, x.length ≤ maxLen) :
    Calls Tryz.prog 6 #[.slice ad n cap, str t] w (KwEnd ls t w) := by
  have h1 := partsOf_calls ad n cap ls w hn h hm hs
  have hmf : ∀ (fn : Fn) (first cap : Array Value) (w : World), (Instr.makeFunc fn first cap).run Tryz.prog w = .ok (.func fn first cap) w := fun _ _ _ _ => rfl
  have H1 := Lib.hid h1
  clear h1 hn h hm hs
  go_enter Tryz.func6, Tryz.ntmps6
  go_wp2_with fail
  refine H1.out.mono ?_
  rintro e w1 ⟨hb, hk⟩
  have HB := Lib.hid hb
  clear hb
  rcases hk with ⟨Ts, v, es, hkn, rfl, hpt⟩ | ⟨hno, rfl⟩
  · have HK := Lib.hid hkn
    have KO := Lib.hid (tkf.taken_calls v _ ls Ts es w1 hpt hkn)
    clear hkn hpt
    go_wp2_with fail
    refine KO.out.mono ?_
    rintro e w2 ⟨bm, L, rfl, hb2, hs2, hbm, hle⟩
    have HB2 := Lib.hid (HB.out.trans (hb2.mono HB.out.size))
    have BC := Lib.hid (built_calls t ht bm L w2 hs2)
    have HLE := Lib.hid hle
    clear hb2 hs2 hbm hle
    go_wp2_with fail
    refine BC.out.mono ?_
    rintro e w3 ⟨rfl, hb3⟩
    have HB3 := Lib.hid (HB2.out.trans (hb3.mono HB2.out.size))
    clear hb3
    go_wp2_with fail
    go_ret
    exact ⟨HB3.out, .inl ⟨Ts, L, HK.out, HLE.out, rfl⟩⟩
  · have HK := Lib.hid hno
    clear hno
    go_wp2_with fail
    go_ret
    exact ⟨HB.out, .inr ⟨HK.out, rfl⟩⟩

def KsEnd (ls : List Bs) (t : Bs) (w : World) (e : Ending) (w' : World) : Prop :=
  Below w.heap.size w w' ∧ (((∃ Ts, Kn ls Ts) ∧ ∃ b, e = .returned (.bool b) ∧ ∀ R, Least ls R → b = asks R t) ∨ (∀ Ts, ¬ Kn ls Ts) ∧ e = .returned (.bool false))

set_option maxHeartbeats 1000000 in
set_option maxRecDepth 100000 in
theorem specKnows_calls (ad : Option Addr) (n cap : Nat) (ls : List Bs) (t : Bs) (ht : t.length ≤ maxLen) (w : World) (hn : n = ls.length) (h : Rds w (.slice ad n cap) ls) (hm : n ≤ maxLen) (hs : ∀ x ∈ ls, x.length ≤ maxLen) :
    Calls Tryz.prog 9 #[.slice ad n cap, str t] w (KsEnd ls t w) := by
  have h1 := specKnownRight_calls ad n cap ls w hn h hm hs
  have h2 := fun w => srt.specTermRight_calls ⟨t.toArray⟩ (by show t.toArray.size ≤ maxLen; simpa using ht) w
  have H := Lib.hid h
  have H1 := Lib.hid h1
  have H2 := Lib.hid h2
  clear h1 h2 hn h hm hs
  go_enter Tryz.func9, Tryz.ntmps9
  go_wp2_with fail
  refine H1.out.mono ?_
  rintro e w1 ⟨hb, hk⟩
  have HB := Lib.hid hb
  clear hb
  rcases hk with ⟨hkn, rfl⟩ | ⟨hno, rfl⟩
  · obtain ⟨Ts, hkn⟩ := hkn
    have HK := Lib.hid hkn
    clear hkn
    go_wp2_with fail
    refine (H2.out _).mono ?_
    rintro e w2 ⟨rfl, hb2⟩
    have HB2 := Lib.hid (HB.out.trans (hb2.mono HB.out.size))
    clear hb2
    rcases hT : term t with _ | T
    · simp only [Option.isSome_none]
      have HN := Lib.hid (show ∀ R, asks R t = false from fun R => asks_none hT)
      clear hT
      go_wp2_with fail
      go_ret
      exact ⟨HB2.out, .inl ⟨⟨Ts, HK.out⟩, false, rfl, fun R _ => (HN.out R).symm⟩⟩
    · simp only [Option.isSome_some]
      have HN := Lib.hid (show ∀ R, asks R t = kmp.bld (inn R) T from fun R => asks_some hT)
      have TK := Lib.hid (stk.take_calls _ ls Ts w2 (Rds.below H.out HB2.out) HK.out)
      have HTM := Lib.hid hT
      clear hT
      go_wp2_with fail
      refine TK.out.mono ?_
      rintro e w3 ⟨v, out, rfl, hb3, hr3, hle, hri⟩
      have HB3 := Lib.hid (HB2.out.trans (hb3.mono HB2.out.size))
      have hob := bound HK.out.txs HK.out.right (rise_nodup hri) hle.min
      have SB := Lib.hid (sin.specBuilds_in T (term_some.1 HTM.out).2.1 (by have := (term_some.1 HTM.out).1; rw [(term_some.1 HTM.out).2.2.2]; exact this) w3 v out (stk.Txs.rds2 hr3) (by have h1 := HK.out.few; rw [HK.out.txs] at h1; simp at h1; omega))
      rw [(term_some.1 HTM.out).2.2.2] at SB
      have HLE := Lib.hid hle
      clear hb3 hr3 hob hle hri
      go_wp2_with fail
      refine SB.out.mono ?_
      rintro e w4 ⟨rfl, hb4⟩
      have HB4 := Lib.hid (HB3.out.trans (hb4.mono HB3.out.size))
      clear hb4
      go_wp2_with fail
      go_ret
      exact ⟨HB4.out, .inl ⟨⟨Ts, HK.out⟩, _, rfl, fun R hR => by rw [HN.out]; exact least_bld HLE.out hR T⟩⟩
  · have HK := Lib.hid hno
    clear hno
    go_wp2_with fail
    go_ret
    exact ⟨HB.out, .inr ⟨HK.out, rfl⟩⟩
end Go.Proofs.YtdikjmhnjlalbabGreat.kws

/- Take of the program and of the model. -/
namespace Go.Proofs.YtdikjmhnjlalbabGreat.tak
open Go.RowKit Go.Proofs.YtdikjmhnjlalbabGreat.tm Go.Proofs.YtdikjmhnjlalbabGreat.lib Go.Proofs.YtdikjmhnjlalbabGreat.rdr Go.Proofs.YtdikjmhnjlalbabGreat.bld Go.Proofs.YtdikjmhnjlalbabGreat.app Go.Proofs.YtdikjmhnjlalbabGreat.mrk Go.Proofs.YtdikjmhnjlalbabGreat.mrs Go.Proofs.YtdikjmhnjlalbabGreat.kmp Go.Proofs.YtdikjmhnjlalbabGreat.kst Go.Proofs.YtdikjmhnjlalbabGreat.prt Go.Proofs.YtdikjmhnjlalbabGreat.pso Go.Proofs.YtdikjmhnjlalbabGreat.skr Go.Proofs.YtdikjmhnjlalbabGreat.ato Go.Proofs.YtdikjmhnjlalbabGreat.bui Go.Proofs.YtdikjmhnjlalbabGreat.mrd
set_option linter.unusedVariables false

/-- What Take tells. -/
inductive TR (l : List Bs) : List Bs → Prop
  | no (h : ∀ Ts, ¬ Kn l Ts) : TR l []
  | yes (Ts : List Tm) (R : List Bs) (h1 : Kn l Ts) (h2 : Least l R) (h3 : Rise R) : TR l R

theorem TR.one {l a b : List Bs} (h : TR l a) (k : TR l b) : a = b := by
  cases h with
  | no h =>
    cases k with
    | no => rfl
    | yes Ts R h1 h2 h3 => exact absurd h1 (h Ts)
  | yes Ts R h1 h2 h3 =>
    cases k with
    | no h => exact absurd h1 (h Ts)
    | yes Ts' R' h1' h2' h3' => exact rise_ext _ _ h3 h3' (least_ext h2 h2')

theorem TR.len {l a : List Bs} (h : TR l a) : a.length ≤ 60060 := by
  cases h with
  | no => simp
  | yes Ts R h1 h2 h3 =>
    have := bound h1.txs h1.right (rise_nodup h3) h2.min
    have h4 := h1.few
    rw [h1.txs] at h4
    simp at h4
    omega

theorem Least.same {l R R' : List Bs} (h : Least l R) (e : ∀ x, x ∈ R' ↔ x ∈ R) : Least l R' := by
  have hi : inn R' = inn R := funext fun x => by
    cases hx : inn R x with
    | true => exact inn_iff.2 ((e x).2 (inn_iff.1 hx))
    | false => exact inn_no.2 fun hm => inn_no.1 hx ((e x).1 hm)
  exact ⟨fun x hx => (e x).2 (h.has x hx), by rw [hi]; exact h.closed, fun X h1 h2 x hx => h.min X h1 h2 x ((e x).1 hx)⟩

theorem rise_sort {L Z : List Bs} (hp : Z.Perm L) (hn : L.Nodup) (hs : Z.Pairwise (· ≤ ·)) : Rise Z := by
  have hz : Z.Nodup := hp.nodup_iff.2 hn
  refine (List.Pairwise.and hs hz).imp fun {a b} h => ?_
  rcases lt_or a b with h1 | h1 | h1
  · exact h1
  · exact absurd h1 h.2
  · exact absurd (List.le_antisymm h.1 (Std.le_of_lt h1)) h.2

theorem rb_txs {w : World} {B : Nat} {v : Value} {ls : List Bs} (h : snd.Txs w B v ls) : Rb w B w.heap.size v ls := by
  refine ⟨stk.Txs.rds2 h, fun _ g hg => ?_⟩
  obtain ⟨g', off, cap, e, h1, h2, _⟩ := h
  rw [e] at hg
  cases hg
  exact ⟨h1, h2⟩

set_option maxHeartbeats 1000000 in
set_option maxRecDepth 100000 in
theorem implTake_calls (ad : Option Addr) (n cap : Nat) (ls : List Bs) (w : World) (hn : n = ls.length) (h : Rds w (.slice ad n cap) ls) (hm : n ≤ maxLen) (hs : ∀ x ∈ ls, x.length ≤ maxLen) :
    Calls Tryz.prog 8 #[.slice ad n cap] w fun e w' => ∃ v out, e = .returned v ∧ Below w.heap.size w w' ∧ Strs w' w.heap.size v out ∧ TR ls out := by
  have h1 := partsOf_calls ad n cap ls w hn h hm hs
  have H1 := Lib.hid h1
  clear h1 hn h hm hs
  go_enter Tryz.func8, Tryz.ntmps8
  go_wp2_with fail
  refine H1.out.mono ?_
  rintro e w1 ⟨hb, hk⟩
  have HB := Lib.hid hb
  clear hb
  rcases hk with ⟨Ts, v, es, hkn, rfl, hpt⟩ | ⟨hno, rfl⟩
  · have HK := Lib.hid hkn
    have KO := Lib.hid (tkf.taken_calls v _ ls Ts es w1 hpt hkn)
    clear hkn hpt
    go_wp2_with fail
    refine KO.out.mono ?_
    rintro e w2 ⟨bm, L, rfl, hb2, hs2, hbm, hle⟩
    have HB2 := Lib.hid (HB.out.trans (hb2.mono HB.out.size))
    have hbd := bound HK.out.txs HK.out.right hs2.2.1 hle.min
    have hLn : L.length ≤ 100000 := by have h1 := HK.out.few; rw [HK.out.txs] at h1; simp at h1; omega
    have hsz := size_set hs2.2.1
    have SK := Lib.hid (shk.sorted_keys bm L.length (setD L) _ w2 hs2.1 (by rw [hsz]; unfold maxLen; omega) (by rw [hsz]; omega))
    have hcol : Collected (setD L) (fun _ => false) L := ⟨hs2.2.1, fun x => by
      have h1 : Maps.has (setD L) (.string x) = inn L x := by unfold setD; rw [Maps.has_setOf _ _ _ isKey]; exact any_inn L x
      rw [h1, inn_iff]; simp⟩
    have CP := Lib.hid (Collected.perm hcol hs2.1 law Tryz.underlying9 fun _ => rfl)
    have HLE := Lib.hid hle
    have HND := Lib.hid hs2.2.1
    have hw2 := HB2.out.size
    clear hb2 hs2 hbm hle hbd hsz hcol
    go_wp2_with fail
    refine (shk.keys_calls _ _).mono ?_
    rintro e w3 ⟨rfl, rfl⟩
    go_wp2_with fail
    refine SK.out.mono ?_
    rintro e w4 ⟨v4, ss, rfl, hperm, hrow, hnil, hb4⟩
    have HB4 := Lib.hid (HB2.out.trans (((bds.new1 w2 _).trans (hb4.mono (by simp))).mono hw2))
    have HP := Lib.hid hperm
    have HR := Lib.hid hrow
    clear hperm hrow hnil hb4
    go_wp2_with fail
    go_ret
    have pz : (ss.mergeSort (fun x y => decide (x ≤ y))).Perm L := (List.mergeSort_perm ss _).trans (HP.out.trans CP.out.symm)
    refine ⟨v4, ss.mergeSort (fun x y => decide (x ≤ y)), rfl, HB4.out, ?_, .yes Ts _ HK.out (tak.Least.same HLE.out fun x => pz.mem_iff) (rise_sort pz HND.out (ato.sorted ss))⟩
    have hrow := HR.out
    refine own_base (B := (w2.alloc (.cells #[.map (some bm)] 43)).heap.size) ?_ (by simp; omega)
    unfold Strs
    rw [List.length_mergeSort]
    exact hrow
  · have HK := Lib.hid hno
    clear hno
    go_wp2_with fail
    go_ret
    exact ⟨_, [], rfl, HB.out, Strs.nil _ _, .no HK.out⟩

set_option maxHeartbeats 1000000 in
set_option maxRecDepth 100000 in
theorem specTake_calls (ad : Option Addr) (n cap : Nat) (ls : List Bs) (w : World) (hn : n = ls.length) (h : Rds w (.slice ad n cap) ls) (hm : n ≤ maxLen) (hs : ∀ x ∈ ls, x.length ≤ maxLen) :
    Calls Tryz.prog 13 #[.slice ad n cap] w fun e w' => ∃ v out, e = .returned v ∧ Below w.heap.size w w' ∧ Rb w' w.heap.size w'.heap.size v out ∧ TR ls out := by
  have h1 := specKnownRight_calls ad n cap ls w hn h hm hs
  have H := Lib.hid h
  have H1 := Lib.hid h1
  clear h1 hn h hm hs
  go_enter Tryz.func13, Tryz.ntmps13
  go_wp2_with fail
  refine H1.out.mono ?_
  rintro e w1 ⟨hb, hk⟩
  have HB := Lib.hid hb
  have hw1 := hb.size
  clear hb
  rcases hk with ⟨hkn, rfl⟩ | ⟨hno, rfl⟩
  · obtain ⟨Ts, hkn⟩ := hkn
    have HK := Lib.hid hkn
    have TK := Lib.hid (stk.take_calls _ ls Ts w1 (Rds.below H.out HB.out) hkn)
    clear hkn
    go_wp2_with fail
    refine TK.out.mono ?_
    rintro e w2 ⟨v, out, rfl, hb2, hr2, hle, hri⟩
    have HB2 := Lib.hid (HB.out.trans (hb2.mono HB.out.size))
    have HR := Lib.hid (rb_txs hr2)
    have HLE := Lib.hid hle
    have HRI := Lib.hid hri
    clear hb2 hr2 hle hri
    go_wp2_with fail
    go_ret
    exact ⟨v, out, rfl, HB2.out, ⟨HR.out.rds, fun hne g hg => by have := HR.out.blk hne g hg; omega⟩, .yes Ts out HK.out HLE.out HRI.out⟩
  · have HK := Lib.hid hno
    clear hno
    go_wp2_with fail
    go_ret
    exact ⟨_, [], rfl, HB.out.alloc hw1 _, ⟨.inl ⟨rfl, _, _, rfl⟩, fun h => absurd rfl h⟩, .no HK.out⟩

#print axioms implTake_calls
#print axioms specTake_calls
end Go.Proofs.YtdikjmhnjlalbabGreat.tak
