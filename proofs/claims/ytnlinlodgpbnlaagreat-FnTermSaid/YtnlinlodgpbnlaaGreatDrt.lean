/- Contracts of the model's drawing functions of terms: l02TermOf, spoil, l02Term. -/
import Derived.Test.YtnlinlodgpbnlaaGreatDrp
import Derived.Test.YtnlinlodgpbnlaaGreatSsy
import Derived.BigQuiet
namespace Go.Proofs.YtnlinlodgpbnlaaGreat.drt
open Go.RowKit Go.Proofs.YtnlinlodgpbnlaaGreat.tm Go.Proofs.YtnlinlodgpbnlaaGreat.lib Go.Proofs.YtnlinlodgpbnlaaGreat.rdr Go.Proofs.YtnlinlodgpbnlaaGreat.drw Go.Proofs.YtnlinlodgpbnlaaGreat.drp Go.Proofs.YtnlinlodgpbnlaaGreat.ssy Go.Proofs.YtnlinlodgpbnlaaGreat.mkp
set_option linter.unusedVariables false

/-- the longest text of a drawn term of that depth. -/
def top : Nat → Nat
  | 0 => 30
  | n + 1 => 2 * top n + 10

theorem top_le : ∀ n, 30 ≤ top n
  | 0 => Nat.le_refl _
  | n + 1 => by have := top_le n; simp only [top]; omega

def TO (n : Nat) : Prop := ∀ (g : Nat) (a0 : Option Addr) (len cap B : Nat) (w : World), Sd w g a0 len cap B → ∀ d : Int, d ≤ n → -100 ≤ d →
  Calls Tryz.prog 80 #[.pointer (some ⟨g, 0, none⟩), .int .i64 d] w (Tld (top n) g a0 len cap w)

theorem Tld.mono {n m g : Nat} {a0 : Option Addr} {len cap : Nat} {w : World} {e : Ending} {w' : World} (h : Tld n g a0 len cap w e w') (hn : n ≤ m) : Tld m g a0 len cap w e w' := by
  obtain ⟨s, h1, h2⟩ := h
  exact ⟨s, by omega, h2⟩

theorem Sd.below {w w' : World} {g : Nat} {a0 : Option Addr} {len cap B : Nat} (h : Sd w g a0 len cap B) (k : Below w.heap.size w w') : Sd w' g a0 len cap B :=
  h.only (Only.of_below k) (h.src.below2 (k.mono h.lt))

set_option maxRecDepth 100000 in
theorem to_zero : TO 1 := by
  intro g a0 len cap B w h d hd hd2
  have d1 : decide (d ≤ 1) = true := by simp; omega
  have a1 := atom_calls g a0 len cap B w h
  have A1 := Lib.hid a1
  clear a1 h
  go_enter Tryz.func80, Tryz.ntmps80
  go_wp2_with fail
  refine A1.out.mono ?_
  rintro e w1 ⟨s, hs, rfl, h1, h2⟩
  have H1 := Lib.hid h1
  have H2 := Lib.hid h2
  clear h1 h2
  go_wp2_with fail
  go_ret
  exact ⟨s, by simp [top]; omega, rfl, H1.out, H2.out⟩

/-- One op of one drawn text. -/
theorem one_end {n m g : Nat} {a0 : Option Addr} {len cap : Nat} {w w1 w2 : World} {op x : Bs} (hx : x.length ≤ n) (hop : op.length ≤ 4) (hm : n + 10 ≤ m) (h1 : Only g w w1) (hg : g < w.heap.size) (hs : Src w1 g a0 len cap) (hb : Below w1.heap.size w1 w2) :
    Tld m g a0 len cap w (.returned (.string ⟨(say op [x]).toArray⟩)) w2 :=
  ⟨say op [x], by simp [say]; omega, rfl, hs.below2 (hb.mono (Nat.lt_of_lt_of_le hg h1.size)), h1.trans (Only.of_below hb)⟩
theorem two_end {n m g : Nat} {a0 : Option Addr} {len cap : Nat} {w w1 w2 : World} {op x y : Bs} (hx : x.length ≤ n) (hy : y.length ≤ n) (hop : op.length ≤ 4) (hm : 2 * n + 10 ≤ m) (h1 : Only g w w1) (hg : g < w.heap.size) (hs : Src w1 g a0 len cap) (hb : Below w1.heap.size w1 w2) :
    Tld m g a0 len cap w (.returned (.string ⟨(say op [x, y]).toArray⟩)) w2 :=
  ⟨say op [x, y], by simp [say]; omega, rfl, hs.below2 (hb.mono (Nat.lt_of_lt_of_le hg h1.size)), h1.trans (Only.of_below hb)⟩

set_option maxHeartbeats 2000000 in
set_option maxRecDepth 100000 in
theorem to_step (n : Nat) (hn : 1 ≤ n) (hn2 : n ≤ 12) (ih : TO n) : TO (n + 1) := by
  intro g a0 len cap B w h d hd hd2
  have htop : top (n + 1) = 2 * top n + 10 := rfl
  have htl := top_le n
  have hbig : top n ≤ 1000000 := by
    have : ∀ k, k ≤ 12 → top k ≤ 1000000 := by decide
    exact this n hn2
  rw [htop]
  by_cases hd1 : d ≤ 1
  · refine (to_zero g a0 len cap B w h d hd1 hd2).mono fun e w' k => Tld.mono k ?_
    have : top 1 = 70 := rfl
    omega
  have d1 : decide (d ≤ 1) = false := by simp; omega
  have IH := Lib.hid ih
  have H := Lib.hid h
  clear h ih htop
  go_enter Tryz.func80, Tryz.ntmps80
  go_wp2_with fail
  refine (one_calls g a0 len cap 4 (by omega) (by omega) B w H.out.le H.out.src H.out.rd).mono ?_
  rintro e w1 ⟨⟨bb, rfl⟩, hs1, hg1⟩
  have O1 := Lib.hid (Only.of_grown hg1)
  have S1 := Lib.hid (H.out.only O1.out hs1)
  clear hs1 hg1
  cases bb
  · go_wp2_with fail
    refine (n_calls g a0 len cap 7 (by omega) (by omega) B w1 S1.out.le S1.out.src S1.out.rd).mono ?_
    rintro e w2 ⟨⟨r, r0, r1, rfl⟩, hs2, hg2⟩
    have O2 := Lib.hid (O1.out.trans (Only.of_grown hg2))
    have S2 := Lib.hid (S1.out.only (Only.of_grown hg2) hs2)
    clear hs2 hg2
    have hr : r = 0 ∨ r = 1 ∨ r = 2 ∨ r = 3 ∨ r = 4 ∨ r = 5 ∨ r = 6 := by omega
    clear r0 r1
    rcases hr with rfl | rfl | rfl | rfl | rfl | rfl | rfl
    · go_wp2_with fail
      refine (IH.out g a0 len cap B w2 S2.out _ (by omega) (by omega)).mono ?_
      rintro e w3 ⟨x3, hx3, rfl, s3, o3⟩
      have O3 := Lib.hid (O2.out.trans o3)
      have S3 := Lib.hid (S2.out.only o3 s3)
      clear s3 o3
      go_wp2_with fail
      refine (say_one oHash x3 _ 0 1 _ (by simp [go_sem]) (by decide) (by omega)).mono ?_
      rintro e w5 ⟨rfl, hb⟩
      have HB := Lib.hid hb
      clear hb
      go_wp2_with fail
      go_ret
      exact one_end (n := top n) (by omega) (by decide) (by omega) (O3.out.trans (Only.alloc' _ _ _)) H.out.lt (S3.out.alloc _).src HB.out
    · go_wp2_with fail
      refine (atom_calls g a0 len cap B w2 S2.out).mono ?_
      rintro e w3 ⟨x3, hx3, rfl, s3, o3⟩
      have O3 := Lib.hid (O2.out.trans o3)
      have S3 := Lib.hid (S2.out.only o3 s3)
      clear s3 o3
      go_wp2_with fail
      refine (say_one oPub x3 _ 0 1 _ (by simp [go_sem]) (by decide) (by omega)).mono ?_
      rintro e w5 ⟨rfl, hb⟩
      have HB := Lib.hid hb
      clear hb
      go_wp2_with fail
      go_ret
      exact one_end (n := top n) (by omega) (by decide) (by omega) (O3.out.trans (Only.alloc' _ _ _)) H.out.lt (S3.out.alloc _).src HB.out
    · go_wp2_with fail
      refine (atom_calls g a0 len cap B w2 S2.out).mono ?_
      rintro e w3 ⟨x3, hx3, rfl, s3, o3⟩
      have O3 := Lib.hid (O2.out.trans o3)
      have S3 := Lib.hid (S2.out.only o3 s3)
      clear s3 o3
      go_wp2_with fail
      refine (atom_calls g a0 len cap B w3 S3.out).mono ?_
      rintro e w4 ⟨x4, hx4, rfl, s4, o4⟩
      have O4 := Lib.hid (O3.out.trans o4)
      have S4 := Lib.hid (S3.out.only o4 s4)
      clear s4 o4
      go_wp2_with fail
      refine (ssy.dh_calls x3 x4 (by omega) (by omega) _).mono ?_
      rintro e w5 ⟨rfl, hb⟩
      have HB := Lib.hid hb
      clear hb
      go_wp2_with fail
      go_ret
      exact ⟨dhS x3 x4, by unfold dhS; split <;> simp [say, oDh] <;> omega, rfl, HB.out |> fun hb => S4.out.src.below2 (hb.mono S4.out.lt), O4.out.trans (Only.of_below HB.out)⟩
    · go_wp2_with fail
      refine (IH.out g a0 len cap B w2 S2.out _ (by omega) (by omega)).mono ?_
      rintro e w3 ⟨x3, hx3, rfl, s3, o3⟩
      have O3 := Lib.hid (O2.out.trans o3)
      have S3 := Lib.hid (S2.out.only o3 s3)
      clear s3 o3
      go_wp2_with fail
      refine (IH.out g a0 len cap B w3 S3.out _ (by omega) (by omega)).mono ?_
      rintro e w4 ⟨x4, hx4, rfl, s4, o4⟩
      have O4 := Lib.hid (O3.out.trans o4)
      have S4 := Lib.hid (S3.out.only o4 s4)
      clear s4 o4
      go_wp2_with fail
      refine (say_two oMac x3 x4 _ 0 2 _ (by simp [go_sem]) (by simp [go_sem]) (by decide) (by omega) (by omega)).mono ?_
      rintro e w5 ⟨rfl, hb⟩
      have HB := Lib.hid hb
      clear hb
      go_wp2_with fail
      go_ret
      exact two_end (n := top n) (by omega) (by omega) (by decide) (by omega) (O4.out.trans (Only.alloc' _ _ _)) H.out.lt (S4.out.alloc _).src HB.out
    · go_wp2_with fail
      refine (IH.out g a0 len cap B w2 S2.out _ (by omega) (by omega)).mono ?_
      rintro e w3 ⟨x3, hx3, rfl, s3, o3⟩
      have O3 := Lib.hid (O2.out.trans o3)
      have S3 := Lib.hid (S2.out.only o3 s3)
      clear s3 o3
      go_wp2_with fail
      refine (IH.out g a0 len cap B w3 S3.out _ (by omega) (by omega)).mono ?_
      rintro e w4 ⟨x4, hx4, rfl, s4, o4⟩
      have O4 := Lib.hid (O3.out.trans o4)
      have S4 := Lib.hid (S3.out.only o4 s4)
      clear s4 o4
      go_wp2_with fail
      refine (say_two oShut x3 x4 _ 0 2 _ (by simp [go_sem]) (by simp [go_sem]) (by decide) (by omega) (by omega)).mono ?_
      rintro e w5 ⟨rfl, hb⟩
      have HB := Lib.hid hb
      clear hb
      go_wp2_with fail
      go_ret
      exact two_end (n := top n) (by omega) (by omega) (by decide) (by omega) (O4.out.trans (Only.alloc' _ _ _)) H.out.lt (S4.out.alloc _).src HB.out
    · go_wp2_with fail
      refine (IH.out g a0 len cap B w2 S2.out _ (by omega) (by omega)).mono ?_
      rintro e w3 ⟨x3, hx3, rfl, s3, o3⟩
      have O3 := Lib.hid (O2.out.trans o3)
      have S3 := Lib.hid (S2.out.only o3 s3)
      clear s3 o3
      go_wp2_with fail
      refine (IH.out g a0 len cap B w3 S3.out _ (by omega) (by omega)).mono ?_
      rintro e w4 ⟨x4, hx4, rfl, s4, o4⟩
      have O4 := Lib.hid (O3.out.trans o4)
      have S4 := Lib.hid (S3.out.only o4 s4)
      clear s4 o4
      go_wp2_with fail
      refine (say_two oPair x3 x4 _ 0 2 _ (by simp [go_sem]) (by simp [go_sem]) (by decide) (by omega) (by omega)).mono ?_
      rintro e w5 ⟨rfl, hb⟩
      have HB := Lib.hid hb
      clear hb
      go_wp2_with fail
      go_ret
      exact two_end (n := top n) (by omega) (by omega) (by decide) (by omega) (O4.out.trans (Only.alloc' _ _ _)) H.out.lt (S4.out.alloc _).src HB.out
    · go_wp2_with fail
      refine (IH.out g a0 len cap B w2 S2.out _ (by omega) (by omega)).mono ?_
      rintro e w3 ⟨x3, hx3, rfl, s3, o3⟩
      have O3 := Lib.hid (O2.out.trans o3)
      have S3 := Lib.hid (S2.out.only o3 s3)
      clear s3 o3
      go_wp2_with fail
      refine (IH.out g a0 len cap B w3 S3.out _ (by omega) (by omega)).mono ?_
      rintro e w4 ⟨x4, hx4, rfl, s4, o4⟩
      have O4 := Lib.hid (O3.out.trans o4)
      have S4 := Lib.hid (S3.out.only o4 s4)
      clear s4 o4
      go_wp2_with fail
      refine (say_two oPair x3 x4 _ 0 2 _ (by simp [go_sem]) (by simp [go_sem]) (by decide) (by omega) (by omega)).mono ?_
      rintro e w5 ⟨rfl, hb⟩
      have HB := Lib.hid hb
      clear hb
      go_wp2_with fail
      go_ret
      exact two_end (n := top n) (by omega) (by omega) (by decide) (by omega) (O4.out.trans (Only.alloc' _ _ _)) H.out.lt (S4.out.alloc _).src HB.out
  · go_wp2_with fail
    refine (atom_calls g a0 len cap B w1 S1.out).mono ?_
    rintro e w2 ⟨x, hx, rfl, s2, o2⟩
    have O2 := Lib.hid (O1.out.trans o2)
    have S2 := Lib.hid s2
    clear s2 o2
    go_wp2_with fail
    go_ret
    exact ⟨x, by omega, rfl, S2.out, O2.out⟩

theorem to_all : ∀ n, 1 ≤ n → n ≤ 13 → TO n
  | 0, h, _ => by omega
  | 1, _, _ => to_zero
  | n + 2, _, h => to_step (n + 1) (by omega) (by omega) (to_all (n + 1) (by omega) (by omega))
end Go.Proofs.YtnlinlodgpbnlaaGreat.drt
