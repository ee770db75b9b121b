/- Several small texts, one behind the other. -/
import Derived.Test.YtdikjmhnjlalbabGreatQf
import Derived.Test.YtdikjmhnjlalbabGreatQj
import Derived.Test.YtdikjmhnjlalbabGreatQk
import Derived.BigQuiet

/- Contract of the model's l02Dh. -/
namespace Go.Proofs.YtdikjmhnjlalbabGreat.ssy
open Go.RowKit Go.Proofs.YtdikjmhnjlalbabGreat.tm Go.Proofs.YtdikjmhnjlalbabGreat.lib Go.Proofs.YtdikjmhnjlalbabGreat.rdr Go.Proofs.YtdikjmhnjlalbabGreat.bld Go.Proofs.YtdikjmhnjlalbabGreat.app Go.Proofs.YtdikjmhnjlalbabGreat.txo Go.Proofs.YtdikjmhnjlalbabGreat.sop Go.Proofs.YtdikjmhnjlalbabGreat.mkp
set_option linter.unusedVariables false

set_option maxRecDepth 100000 in
theorem dh_calls (x y : Bs) (hx : x.length ≤ 4000000) (hy : y.length ≤ 4000000) (w : World) :
    Calls Tryz.prog 78 #[str x, str y] w fun e w' => e = .returned (str (dhS x y)) ∧ Below w.heap.size w w' := by
  unfold dhS
  cases hg : gt x y with
  | true =>
    obtain ⟨h1, h2⟩ := gt_true hg
    have a1 := fun (w : World) c0 c1 => say_two oDh y x w.heap.size 0 2 (w.alloc (.cells #[str y, str x] 9)) c0 c1 (by decide) hy hx
    simp only [if_true]
    have A1 := Lib.hid a1
    clear hg a1
    go_enter Tryz.func78, Tryz.ntmps78
    go_wp2_with fail
    refine (A1.out _ (by simp [go_sem]) (by simp [go_sem])).mono ?_
    rintro e w1 ⟨rfl, hb⟩
    have HB := Lib.hid hb
    clear hb
    go_wp2_with fail
    go_ret
    exact ⟨rfl, ((Below.refl _ _).alloc (Nat.le_refl _) _).trans (HB.out.mono (by simp))⟩
  | false =>
    have a1 := fun (w : World) c0 c1 => say_two oDh x y w.heap.size 0 2 (w.alloc (.cells #[str x, str y] 9)) c0 c1 (by decide) hx hy
    simp only [Bool.false_eq_true, if_false]
    have A1 := Lib.hid a1
    rcases gt_false hg with h1 | ⟨h1, h2⟩
    all_goals
      clear hg a1
      go_enter Tryz.func78, Tryz.ntmps78
      go_wp2_with fail
      refine (A1.out _ (by simp [go_sem]) (by simp [go_sem])).mono ?_
      rintro e w1 ⟨rfl, hb⟩
      have HB := Lib.hid hb
      clear hb
      go_wp2_with fail
      go_ret
      exact ⟨rfl, ((Below.refl _ _).alloc (Nat.le_refl _) _).trans (HB.out.mono (by simp))⟩
end Go.Proofs.YtdikjmhnjlalbabGreat.ssy

/- Contracts of the model's drawing functions of terms: l02TermOf, spoil, l02Term. -/
namespace Go.Proofs.YtdikjmhnjlalbabGreat.drt
open Go.RowKit Go.Proofs.YtdikjmhnjlalbabGreat.tm Go.Proofs.YtdikjmhnjlalbabGreat.lib Go.Proofs.YtdikjmhnjlalbabGreat.rdr Go.Proofs.YtdikjmhnjlalbabGreat.drw Go.Proofs.YtdikjmhnjlalbabGreat.drp Go.Proofs.YtdikjmhnjlalbabGreat.ssy Go.Proofs.YtdikjmhnjlalbabGreat.mkp
set_option linter.unusedVariables false

/-- the longest text of a drawn term of that depth. -/
def top : Nat → Nat
  | 0 => 30
  | n + 1 => 2 * top n + 10

theorem top_le : ∀ n, 30 ≤ top n
  | 0 => Nat.le_refl _
  | n + 1 => by have := top_le n; simp only [top]; omega

def TO (n : Nat) : Prop := ∀ (g : Nat) (a0 : Option Addr) (len cap B : Nat) (w : World), Sd w g a0 len cap B → ∀ d : Int, d ≤ n → -100 ≤ d →
  Calls Tryz.prog 65 #[.pointer (some ⟨g, 0, none⟩), .int .i64 d] w (Tld (top n) g a0 len cap w)

theorem Tld.mono {n m g : Nat} {a0 : Option Addr} {len cap : Nat} {w : World} {e : Ending} {w' : World} (h : Tld n g a0 len cap w e w') (hn : n ≤ m) : Tld m g a0 len cap w e w' := by
  obtain ⟨s, h1, h2⟩ := h
  exact ⟨s, by omega, h2⟩

theorem Sd.below {w w' : World} {g : Nat} {a0 : Option Addr} {len cap B : Nat} (h : Sd w g a0 len cap B) (k : Below w.heap.size w w') : Sd w' g a0 len cap B :=
  h.only (Only.of_below k) (h.src.below2 (k.mono h.lt))

set_option maxRecDepth 100000 in
theorem to_zero : TO 1 := by
  intro g a0 len cap B w h d hd hd2
  have d1 : decide (d ≤ 1) = true := by simp; omega
  have a1 := atom_calls g a0 len cap B w h
  have A1 := Lib.hid a1
  clear a1 h
  go_enter Tryz.func65, Tryz.ntmps65
  go_wp2_with fail
  refine A1.out.mono ?_
  rintro e w1 ⟨s, hs, rfl, h1, h2⟩
  have H1 := Lib.hid h1
  have H2 := Lib.hid h2
  clear h1 h2
  go_wp2_with fail
  go_ret
  exact ⟨s, by simp [top]; omega, rfl, H1.out, H2.out⟩

/-- One op of one drawn text. -/
theorem one_end {n m g : Nat} {a0 : Option Addr} {len cap : Nat} {w w1 w2 : World} {op x : Bs} (hx : x.length ≤ n) (hop : op.length ≤ 4) (hm : n + 10 ≤ m) (h1 : Only g w w1) (hg : g < w.heap.size) (hs : Src w1 g a0 len cap) (hb : Below w1.heap.size w1 w2) :
    Tld m g a0 len cap w (.returned (.string ⟨(say op [x]).toArray⟩)) w2 :=
  ⟨say op [x], by simp [say]; omega, rfl, hs.below2 (hb.mono (Nat.lt_of_lt_of_le hg h1.size)), h1.trans (Only.of_below hb)⟩
theorem two_end {n m g : Nat} {a0 : Option Addr} {len cap : Nat} {w w1 w2 : World} {op x y : Bs} (hx : x.length ≤ n) (hy : y.length ≤ n) (hop : op.length ≤ 4) (hm : 2 * n + 10 ≤ m) (h1 : Only g w w1) (hg : g < w.heap.size) (hs : Src w1 g a0 len cap) (hb : Below w1.heap.size w1 w2) :
    Tld m g a0 len cap w (.returned (.string ⟨(say op [x, y]).toArray⟩)) w2 :=
  ⟨say op [x, y], by simp [say]; omega, rfl, hs.below2 (hb.mono (Nat.lt_of_lt_of_le hg h1.size)), h1.trans (Only.of_below hb)⟩

set_option maxHeartbeats 2000000 in
set_option maxRecDepth 100000 in
theorem to_step (n : Nat) (hn : 1 ≤ n) (hn2 : n ≤ 12) (ih : TO n) : TO (n + 1) := by
  intro g a0 len cap B w h d hd hd2
  have htop : top (n + 1) = 2 * top n + 10 := rfl
  have htl := top_le n
  have hbig : top n ≤ 1000000 := by
    have : ∀ k, k ≤ 12 → top k ≤ 1000000 := by decide
    exact this n hn2
  rw [htop]
  by_cases hd1 : d ≤ 1
  · refine (to_zero g a0 len cap B w h d hd1 hd2).mono fun e w' k => Tld.mono k ?_
    have : top 1 = 70 := rfl
    omega
  have d1 : decide (d ≤ 1) = false := by simp; omega
  have IH := Lib.hid ih
  have H := Lib.hid h
  clear h ih htop
  go_enter Tryz.func65, Tryz.ntmps65
  go_wp2_with fail
  refine (one_calls g a0 len cap 4 (by omega) (by omega) B w H.out.le H.out.src H.out.rd).mono ?_
  rintro e w1 ⟨⟨bb, rfl⟩, hs1, hg1⟩
  have O1 := Lib.hid (Only.of_grown hg1)
  have S1 := Lib.hid (H.out.only O1.out hs1)
  clear hs1 hg1
  cases bb
  · go_wp2_with fail
    refine (n_calls g a0 len cap 7 (by omega) (by omega) B w1 S1.out.le S1.out.src S1.out.rd).mono ?_
    rintro e w2 ⟨⟨r, r0, r1, rfl⟩, hs2, hg2⟩
    have O2 := Lib.hid (O1.out.trans (Only.of_grown hg2))
    have S2 := Lib.hid (S1.out.only (Only.of_grown hg2) hs2)
    clear hs2 hg2
    have hr : r = 0 ∨ r = 1 ∨ r = 2 ∨ r = 3 ∨ r = 4 ∨ r = 5 ∨ r = 6 := by omega
    clear r0 r1
    rcases hr with rfl | rfl | rfl | rfl | rfl | rfl | rfl
    · go_wp2_with fail
      refine (IH.out g a0 len cap B w2 S2.out _ (by omega) (by omega)).mono ?_
      rintro e w3 ⟨x3, hx3, rfl, s3, o3⟩
      have O3 := Lib.hid (O2.out.trans o3)
      have S3 := Lib.hid (S2.out.only o3 s3)
      clear s3 o3
      go_wp2_with fail
      refine (say_one oHash x3 _ 0 1 _ (by simp [go_sem]) (by decide) (by omega)).mono ?_
      rintro e w5 ⟨rfl, hb⟩
      have HB := Lib.hid hb
      clear hb
      go_wp2_with fail
      go_ret
      exact one_end (n := top n) (by omega) (by decide) (by omega) (O3.out.trans (Only.alloc' _ _ _)) H.out.lt (S3.out.alloc _).src HB.out
    · go_wp2_with fail
      refine (atom_calls g a0 len cap B w2 S2.out).mono ?_
      rintro e w3 ⟨x3, hx3, rfl, s3, o3⟩
      have O3 := Lib.hid (O2.out.trans o3)
      have S3 := Lib.hid (S2.out.only o3 s3)
      clear s3 o3
      go_wp2_with fail
      refine (say_one oPub x3 _ 0 1 _ (by simp [go_sem]) (by decide) (by omega)).mono ?_
      rintro e w5 ⟨rfl, hb⟩
      have HB := Lib.hid hb
      clear hb
      go_wp2_with fail
      go_ret
      exact one_end (n := top n) (by omega) (by decide) (by omega) (O3.out.trans (Only.alloc' _ _ _)) H.out.lt (S3.out.alloc _).src HB.out
    · go_wp2_with fail
      refine (atom_calls g a0 len cap B w2 S2.out).mono ?_
      rintro e w3 ⟨x3, hx3, rfl, s3, o3⟩
      have O3 := Lib.hid (O2.out.trans o3)
      have S3 := Lib.hid (S2.out.only o3 s3)
      clear s3 o3
      go_wp2_with fail
      refine (atom_calls g a0 len cap B w3 S3.out).mono ?_
      rintro e w4 ⟨x4, hx4, rfl, s4, o4⟩
      have O4 := Lib.hid (O3.out.trans o4)
      have S4 := Lib.hid (S3.out.only o4 s4)
      clear s4 o4
      go_wp2_with fail
      refine (ssy.dh_calls x3 x4 (by omega) (by omega) _).mono ?_
      rintro e w5 ⟨rfl, hb⟩
      have HB := Lib.hid hb
      clear hb
      go_wp2_with fail
      go_ret
      exact ⟨dhS x3 x4, by unfold dhS; split <;> simp [say, oDh] <;> omega, rfl, HB.out |> fun hb => S4.out.src.below2 (hb.mono S4.out.lt), O4.out.trans (Only.of_below HB.out)⟩
    · go_wp2_with fail
      refine (IH.out g a0 len cap B w2 S2.out _ (by omega) (by omega)).mono ?_
      rintro e w3 ⟨x3, hx3, rfl, s3, o3⟩
      have O3 := Lib.hid (O2.out.trans o3)
      have S3 := Lib.hid (S2.out.only o3 s3)
      clear s3 o3
      go_wp2_with fail
      refine (IH.out g a0 len cap B w3 S3.out _ (by omega) (by omega)).mono ?_
      rintro e w4 ⟨x4, hx4, rfl, s4, o4⟩
      have O4 := Lib.hid (O3.out.trans o4)
      have S4 := Lib.hid (S3.out.only o4 s4)
      clear s4 o4
      go_wp2_with fail
      refine (say_two oMac x3 x4 _ 0 2 _ (by simp [go_sem]) (by simp [go_sem]) (by decide) (by omega) (by omega)).mono ?_
      rintro e w5 ⟨rfl, hb⟩
      have HB := Lib.hid hb
      clear hb
      go_wp2_with fail
      go_ret
      exact two_end (n := top n) (by omega) (by omega) (by decide) (by omega) (O4.out.trans (Only.alloc' _ _ _)) H.out.lt (S4.out.alloc _).src HB.out
    · go_wp2_with fail
      refine (IH.out g a0 len cap B w2 S2.out _ (by omega) (by omega)).mono ?_
      rintro e w3 ⟨x3, hx3, rfl, s3, o3⟩
      have O3 := Lib.hid (O2.out.trans o3)
      have S3 := Lib.hid (S2.out.only o3 s3)
      clear s3 o3
      go_wp2_with fail
      refine (IH.out g a0 len cap B w3 S3.out _ (by omega) (by omega)).mono ?_
      rintro e w4 ⟨x4, hx4, rfl, s4, o4⟩
      have O4 := Lib.hid (O3.out.trans o4)
      have S4 := Lib.hid (S3.out.only o4 s4)
      clear s4 o4
      go_wp2_with fail
      refine (say_two oShut x3 x4 _ 0 2 _ (by simp [go_sem]) (by simp [go_sem]) (by decide) (by omega) (by omega)).mono ?_
      rintro e w5 ⟨rfl, hb⟩
      have HB := Lib.hid hb
      clear hb
      go_wp2_with fail
      go_ret
      exact two_end (n := top n) (by omega) (by omega) (by decide) (by omega) (O4.out.trans (Only.alloc' _ _ _)) H.out.lt (S4.out.alloc _).src HB.out
    · go_wp2_with fail
      refine (IH.out g a0 len cap B w2 S2.out _ (by omega) (by omega)).mono ?_
      rintro e w3 ⟨x3, hx3, rfl, s3, o3⟩
      have O3 := Lib.hid (O2.out.trans o3)
      have S3 := Lib.hid (S2.out.only o3 s3)
      clear s3 o3
      go_wp2_with fail
      refine (IH.out g a0 len cap B w3 S3.out _ (by omega) (by omega)).mono ?_
      rintro e w4 ⟨x4, hx4, rfl, s4, o4⟩
      have O4 := Lib.hid (O3.out.trans o4)
      have S4 := Lib.hid (S3.out.only o4 s4)
      clear s4 o4
      go_wp2_with fail
      refine (say_two oPair x3 x4 _ 0 2 _ (by simp [go_sem]) (by simp [go_sem]) (by decide) (by omega) (by omega)).mono ?_
      rintro e w5 ⟨rfl, hb⟩
      have HB := Lib.hid hb
      clear hb
      go_wp2_with fail
      go_ret
      exact two_end (n := top n) (by omega) (by omega) (by decide) (by omega) (O4.out.trans (Only.alloc' _ _ _)) H.out.lt (S4.out.alloc _).src HB.out
    · go_wp2_with fail
      refine (IH.out g a0 len cap B w2 S2.out _ (by omega) (by omega)).mono ?_
      rintro e w3 ⟨x3, hx3, rfl, s3, o3⟩
      have O3 := Lib.hid (O2.out.trans o3)
      have S3 := Lib.hid (S2.out.only o3 s3)
      clear s3 o3
      go_wp2_with fail
      refine (IH.out g a0 len cap B w3 S3.out _ (by omega) (by omega)).mono ?_
      rintro e w4 ⟨x4, hx4, rfl, s4, o4⟩
      have O4 := Lib.hid (O3.out.trans o4)
      have S4 := Lib.hid (S3.out.only o4 s4)
      clear s4 o4
      go_wp2_with fail
      refine (say_two oPair x3 x4 _ 0 2 _ (by simp [go_sem]) (by simp [go_sem]) (by decide) (by omega) (by omega)).mono ?_
      rintro e w5 ⟨rfl, hb⟩
      have HB := Lib.hid hb
      clear hb
      go_wp2_with fail
      go_ret
      exact two_end (n := top n) (by omega) (by omega) (by decide) (by omega) (O4.out.trans (Only.alloc' _ _ _)) H.out.lt (S4.out.alloc _).src HB.out
  · go_wp2_with fail
    refine (atom_calls g a0 len cap B w1 S1.out).mono ?_
    rintro e w2 ⟨x, hx, rfl, s2, o2⟩
    have O2 := Lib.hid (O1.out.trans o2)
    have S2 := Lib.hid s2
    clear s2 o2
    go_wp2_with fail
    go_ret
    exact ⟨x, by omega, rfl, S2.out, O2.out⟩

theorem to_all : ∀ n, 1 ≤ n → n ≤ 13 → TO n
  | 0, h, _ => by omega
  | 1, _, _ => to_zero
  | n + 2, _, h => to_step (n + 1) (by omega) (by omega) (to_all (n + 1) (by omega) (by omega))
end Go.Proofs.YtdikjmhnjlalbabGreat.drt

/- Contracts of the model's drawing functions: n at any bound, one, spoil. Of the text only a bound of its length is told. -/
namespace Go.Proofs.YtdikjmhnjlalbabGreat.drs
open Go.RowKit Go.Proofs.YtdikjmhnjlalbabGreat.tm Go.Proofs.YtdikjmhnjlalbabGreat.lib Go.Proofs.YtdikjmhnjlalbabGreat.rdr Go.Proofs.YtdikjmhnjlalbabGreat.bld Go.Proofs.YtdikjmhnjlalbabGreat.drw Go.Proofs.YtdikjmhnjlalbabGreat.drp Go.Proofs.YtdikjmhnjlalbabGreat.drt
set_option linter.unusedVariables false

theorem n_le (g : Nat) (a0 : Option Addr) (len cap B : Nat) (most : Int) (hm : 1 ≤ most) (hM : most ≤ 1000000000) (w : World) (h : Sd w g a0 len cap B) :
    Calls Tryz.prog 45 #[.pointer (some ⟨g, 0, none⟩), .int .i64 most] w fun e w' => (∃ k : Nat, (k : Int) < most ∧ e = .returned (.int .i64 (k : Nat))) ∧ Sd w' g a0 len cap B ∧ Only g w w' := by
  by_cases h1 : most ≤ 1
  · refine (n_small g most h1 w).mono ?_
    rintro e w' ⟨rfl, rfl⟩
    exact ⟨⟨0, by omega, rfl⟩, h, Only.refl _ _⟩
  · refine (n_calls g a0 len cap most (by omega) (by omega) B w h.le h.src h.rd).mono ?_
    rintro e w' ⟨⟨r, r0, r1, rfl⟩, hs, hg⟩
    obtain ⟨j, rfl⟩ := Int.eq_ofNat_of_zero_le r0
    exact ⟨⟨j, r1, rfl⟩, h.only (Only.of_grown hg) hs, Only.of_grown hg⟩

theorem one_le (g : Nat) (a0 : Option Addr) (len cap B : Nat) (most : Int) (hm : 1 < most) (hM : most ≤ 1000000000) (w : World) (h : Sd w g a0 len cap B) :
    Calls Tryz.prog 60 #[.pointer (some ⟨g, 0, none⟩), .int .i64 most] w fun e w' => (∃ b : Bool, e = .returned (.bool b)) ∧ Sd w' g a0 len cap B ∧ Only g w w' := by
  refine (one_calls g a0 len cap most hm (by omega) B w h.le h.src h.rd).mono ?_
  rintro e w' ⟨⟨b, rfl⟩, hs, hg⟩
  exact ⟨⟨b, rfl⟩, h.only (Only.of_grown hg) hs, Only.of_grown hg⟩

theorem tld_of {n g : Nat} {a0 : Option Addr} {len cap B : Nat} {w w' : World} (x : ByteArray) (hx : x.size ≤ n) (h : Sd w' g a0 len cap B) (k : Only g w w') : Tld n g a0 len cap w (.returned (.string x)) w' :=
  ⟨x.data.toList, hx, rfl, h.src, k⟩

theorem size1 (b : UInt8) : (⟨#[b]⟩ : ByteArray).size = 1 := rfl

theorem drew_b (w : World) : Below w.heap.size w w.drew := ⟨rfl, rfl, rfl, Nat.le_refl _, fun _ _ => rfl⟩

set_option maxHeartbeats 1000000 in
set_option maxRecDepth 100000 in
theorem spoil_calls (g : Nat) (a0 : Option Addr) (len cap B : Nat) (t : Bs) (ht : t.length ≤ 1000000) (w : World) (h : Sd w g a0 len cap B) :
    Calls Tryz.prog 66 #[.pointer (some ⟨g, 0, none⟩), str t] w (Tld (t.length + 1) g a0 len cap w) := by
  obtain ⟨s, hs⟩ : ∃ s : ByteArray, s = ⟨t.toArray⟩ := ⟨_, rfl⟩
  have hsz : s.size = t.length := by rw [hs]; show t.toArray.size = _; simp
  have e0 : str t = .string s := by rw [hs]
  rw [e0]
  have HT := Lib.hid hs
  have H := Lib.hid h
  have HZ := Lib.hid hsz
  have hz1 : s.size ≤ 1000000 := by omega
  clear h hs e0 hsz
  go_enter Tryz.func66, Tryz.ntmps66
  go_wp2_with fail
  refine (n_le g a0 len cap B _ (by omega) (by omega) w H.out).mono ?_
  rintro e w1 ⟨⟨k, hk, rfl⟩, hd, ho⟩
  have HD := Lib.hid hd
  have HO := Lib.hid ho
  clear hd ho
  go_wp2_with fail
  refine (n_le g a0 len cap B 17 (by omega) (by omega) w1 HD.out).mono ?_
  rintro e w2 ⟨⟨j, hj, rfl⟩, hd, ho⟩
  have HD2 := Lib.hid hd
  have HO2 := Lib.hid (HO.out.trans ho)
  clear hd ho
  have hcv : ∀ (b : UInt8), (convert 22 9 (.slice (some ⟨w2.heap.size, 0, none⟩) 1 1)).run Tryz.prog (w2.alloc (.cells #[.int .u8 (b.toNat : Nat)] 5)) = .ok (.string ⟨#[b]⟩) (w2.alloc (.cells #[.int .u8 (b.toNat : Nat)] 5)) := fun b =>
    run_strAt w2.heap.size 0 1 1 [b] rfl fun i hi => by
      have hi0 : i = 0 := by simpa using hi
      subst hi0
      simp [go_sem]
  have hz2 := HD2.out.lt
  have HA := Lib.hid (Only.alloc' w2 (.cells #[.int .u8 ((⟨#[32, 10, 48, 97, 45, 110, 44, 58, 93, 255, 40, 120, 126, 49, 128, 225, 59]⟩ : ByteArray)[j]'(by show j < 17; omega)).toNat] 5) g)
  have e1 : (s.extract 0 k).size = k := by rw [ByteArray.size_extract]; omega
  have e2 : (s.extract k s.size).size = s.size - k := by rw [ByteArray.size_extract]; omega
  have e3 : (s.extract (k + 1) s.size).size = s.size - (k + 1) := by rw [ByteArray.size_extract]; omega
  have hb2 : ∀ o, Below w2.heap.size w2 (w2.alloc o) := fun o => (Below.refl _ _).alloc (Nat.le_refl _) _
  have HB := Lib.hid hb2
  clear hb2
  by_cases hk2 : k = s.size
  · go_wp2_with fail
    go_region
    go_wp2_with fail
    go_ret
    exact tld_of _ (by rw [← HZ.out]; simp [ByteArray.size_append, size1]; try omega) (drt.Sd.below HD2.out ((HB.out _).drew)) (HO2.out.trans (Only.of_below ((HB.out _).drew)))
  · have hk3 : k < s.size := by omega
    go_wp2_with fail
    refine (one_le g a0 len cap B 3 (by omega) (by omega) _ (drt.Sd.below HD2.out (HB.out _))).mono ?_
    rintro e w3 ⟨⟨b, rfl⟩, hd, ho⟩
    have HD3 := Lib.hid hd
    have HO3 := Lib.hid ((HO2.out.trans (Only.of_below (HB.out _))).trans ho)
    clear hd ho
    cases b with
    | true =>
      go_wp2_with fail
      go_region
      go_wp2_with fail
      go_ret
      exact tld_of _ (by rw [← HZ.out]; simp [ByteArray.size_append, size1]; try omega) (drt.Sd.below HD3.out (drew_b _)) (HO3.out.trans (Only.of_below (drew_b _)))
    | false =>
      go_wp2_with fail
      refine (one_le g a0 len cap B 2 (by omega) (by omega) _ HD3.out).mono ?_
      rintro e w4 ⟨⟨b, rfl⟩, hd, ho⟩
      have HD4 := Lib.hid hd
      have HO4 := Lib.hid (HO3.out.trans ho)
      clear hd ho
      cases b with
      | true =>
        go_wp2_with fail
        go_region
        go_wp2_with fail
        go_ret
        exact tld_of _ (by rw [← HZ.out]; simp [ByteArray.size_append]; try omega) (drt.Sd.below HD4.out (drew_b _)) (HO4.out.trans (Only.of_below (drew_b _)))
      | false =>
        go_wp2_with fail
        go_region
        go_wp2_with fail
        go_ret
        exact tld_of _ (by rw [← HZ.out]; simp [ByteArray.size_append, size1]; try omega) (drt.Sd.below HD4.out (drew_b _)) (HO4.out.trans (Only.of_below (drew_b _)))

#print axioms spoil_calls
end Go.Proofs.YtdikjmhnjlalbabGreat.drs
