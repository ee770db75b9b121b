/- Contracts of the model's DrawNodeOf, DrawAtomRight, DrawDh, DrawOpen. Of the texts only a bound of their length is told. -/
import Derived.Test.YtnlinlodgpbnlaaGreatDrl
namespace Go.Proofs.YtnlinlodgpbnlaaGreat.dro
open Go.RowKit Go.Proofs.YtnlinlodgpbnlaaGreat.tm Go.Proofs.YtnlinlodgpbnlaaGreat.lib Go.Proofs.YtnlinlodgpbnlaaGreat.rdr Go.Proofs.YtnlinlodgpbnlaaGreat.bld Go.Proofs.YtnlinlodgpbnlaaGreat.drw Go.Proofs.YtnlinlodgpbnlaaGreat.drp Go.Proofs.YtnlinlodgpbnlaaGreat.drt Go.Proofs.YtnlinlodgpbnlaaGreat.drs Go.Proofs.YtnlinlodgpbnlaaGreat.drl Go.Proofs.YtnlinlodgpbnlaaGreat.mkp Go.Proofs.YtnlinlodgpbnlaaGreat.ssy
set_option linter.unusedVariables false

/-- One drawn text; two. -/
def One (e : Ending) : Prop := ∃ s : Bs, s.length ≤ 3000 ∧ e = .returned (str s)
def Two (e : Ending) : Prop := ∃ s t : Bs, s.length ≤ 3000 ∧ t.length ≤ 3000 ∧ e = .returned (.tuple #[str s, str t])

theorem start {a0 : Option Addr} {len cap : Nat} {w w1 : World} (hr : Rd w w.heap.size a0 len) (hs : Src w1 w.heap.size a0 len cap) (hb : Below w.heap.size w w1) (hz : w.heap.size < w1.heap.size) : Sd w1 w.heap.size a0 len cap w.heap.size :=
  ⟨hs, hr.below hb, Nat.le_refl _, hz⟩

theorem fin {w w1 w2 : World} (hb : Below w.heap.size w w1) (ho : Only w.heap.size w1 w2) : Below w.heap.size w w2 :=
  hb.trans (ho.below (Nat.le_refl _) hb.size)

set_option maxRecDepth 100000 in
theorem drawNodeOf (a0 : Option Addr) (len cap : Nat) (w : World) (hr : Rd w w.heap.size a0 len) :
    Calls Tryz.prog 11 #[.slice a0 len cap] w fun e w' => One e ∧ Below w.heap.size w w' := by
  go_enter Tryz.func11, Tryz.ntmps11
  go_wp2_with fail
  refine (source_calls a0 len cap w hr).mono ?_
  rintro e w1 ⟨rfl, hs1, hb1, hz1⟩
  have D1 := Lib.hid (start hr hs1 hb1 hz1)
  have B1 := Lib.hid hb1
  clear hs1 hb1 hz1 hr
  go_wp2_with fail
  refine (term_calls w.heap.size a0 len cap w.heap.size w1 D1.out).mono ?_
  rintro e w2 ⟨s, hs, rfl, h1, h2⟩
  have H2 := Lib.hid h2
  clear h1 h2
  go_wp2_with fail
  go_ret
  exact ⟨⟨s, by omega, rfl⟩, fin B1.out H2.out⟩

set_option maxRecDepth 100000 in
theorem drawAtomRight (a0 : Option Addr) (len cap : Nat) (w : World) (hr : Rd w w.heap.size a0 len) :
    Calls Tryz.prog 17 #[.slice a0 len cap] w fun e w' => One e ∧ Below w.heap.size w w' := by
  go_enter Tryz.func17, Tryz.ntmps17
  go_wp2_with fail
  refine (source_calls a0 len cap w hr).mono ?_
  rintro e w1 ⟨rfl, hs1, hb1, hz1⟩
  have D1 := Lib.hid (start hr hs1 hb1 hz1)
  have B1 := Lib.hid hb1
  clear hs1 hb1 hr
  go_wp2_with fail
  refine (pick_calls w.heap.size a0 len cap w.heap.size w1.heap.size 7 7 (by omega) (by omega) 9 _ (D1.out.alloc _) (by simp) (by omega) ?_).mono ?_
  · intro j hj
    match j, hj with
    | 0, _ => exact ⟨[97], by decide, by simp [go_sem]⟩
    | 1, _ => exact ⟨[97, 98, 99, 100, 101, 102, 103, 104], by decide, by simp [go_sem]⟩
    | 2, _ => exact ⟨[97, 98, 99, 100, 101, 102, 103, 104, 105], by decide, by simp [go_sem]⟩
    | 3, _ => exact ⟨[], by decide, by simp [go_sem]⟩
    | 4, _ => exact ⟨[65], by decide, by simp [go_sem]⟩
    | 5, _ => exact ⟨[97, 32, 98], by decide, by simp [go_sem]⟩
    | 6, _ => exact ⟨[57], by decide, by simp [go_sem]⟩
    | j + 7, h => omega
  · rintro e w2 ⟨s, hs, rfl, h1, h2⟩
    have H2 := Lib.hid h2
    clear h1 h2
    go_wp2_with fail
    go_ret
    exact ⟨⟨s, by omega, rfl⟩, fin B1.out ((Only.alloc' w1 _ _).trans H2.out)⟩

set_option maxHeartbeats 1000000 in
set_option maxRecDepth 100000 in
theorem drawDh (a0 : Option Addr) (len cap : Nat) (w : World) (hr : Rd w w.heap.size a0 len) :
    Calls Tryz.prog 14 #[.slice a0 len cap] w fun e w' => Two e ∧ Below w.heap.size w w' := by
  go_enter Tryz.func14, Tryz.ntmps14
  go_wp2_with fail
  refine (source_calls a0 len cap w hr).mono ?_
  rintro e w1 ⟨rfl, hs1, hb1, hz1⟩
  have D1 := Lib.hid (start hr hs1 hb1 hz1)
  have B1 := Lib.hid hb1
  clear hs1 hb1 hr hz1
  go_wp2_with fail
  refine (atom_calls w.heap.size a0 len cap w.heap.size w1 D1.out).mono ?_
  rintro e w2 ⟨x, hx, rfl, s2, o2⟩
  have O2 := Lib.hid o2
  have S2 := Lib.hid (D1.out.only o2 s2)
  clear s2 o2
  go_wp2_with fail
  refine (one_le w.heap.size a0 len cap w.heap.size 3 (by omega) (by omega) w2 S2.out).mono ?_
  rintro e w3 ⟨⟨b, rfl⟩, s3, o3⟩
  have O3 := Lib.hid (O2.out.trans o3)
  have S3 := Lib.hid s3
  clear s3 o3
  cases b with
  | true =>
    go_wp2_with fail
    refine (term_calls w.heap.size a0 len cap w.heap.size w3 S3.out).mono ?_
    rintro e w4 ⟨y, hy, rfl, s4, o4⟩
    have O4 := Lib.hid (O3.out.trans o4)
    clear s4 o4
    go_wp2_with fail
    go_ret2
    exact ⟨⟨x, y, by omega, by omega, rfl⟩, fin B1.out O4.out⟩
  | false =>
    go_wp2_with fail
    refine (atom_calls w.heap.size a0 len cap w.heap.size w3 S3.out).mono ?_
    rintro e w4 ⟨y, hy, rfl, s4, o4⟩
    have O4 := Lib.hid (O3.out.trans o4)
    clear s4 o4
    go_wp2_with fail
    refine (say_one oPub y _ 0 1 _ (by simp [go_sem]) (by decide) (by omega)).mono ?_
    rintro e w5 ⟨rfl, hb⟩
    have HB := Lib.hid hb
    clear hb
    go_wp2_with fail
    go_ret2
    exact ⟨⟨x, say oPub [y], by omega, by simp [say, oPub]; omega, rfl⟩, fin B1.out ((O4.out.trans (Only.alloc' _ _ _)).trans (Only.of_below HB.out))⟩

set_option maxHeartbeats 2000000 in
set_option maxRecDepth 100000 in
theorem drawOpen (a0 : Option Addr) (len cap : Nat) (w : World) (hr : Rd w w.heap.size a0 len) :
    Calls Tryz.prog 15 #[.slice a0 len cap] w fun e w' => Two e ∧ Below w.heap.size w w' := by
  have t3 := fun w1 => to_all 4 (by omega) (by omega) w.heap.size a0 len cap w.heap.size w1
  have T3 := Lib.hid t3
  clear t3
  go_enter Tryz.func15, Tryz.ntmps15
  go_wp2_with fail
  refine (source_calls a0 len cap w hr).mono ?_
  rintro e w1 ⟨rfl, hs1, hb1, hz1⟩
  have D1 := Lib.hid (start hr hs1 hb1 hz1)
  have B1 := Lib.hid hb1
  clear hs1 hb1 hr hz1
  go_wp2_with fail
  refine (T3.out w1 D1.out 3 (by decide) (by decide)).mono ?_
  rintro e w2 ⟨x, hx, rfl, s2, o2⟩
  have hx' : x.length ≤ 630 := hx
  have O2 := Lib.hid o2
  have S2 := Lib.hid (D1.out.only o2 s2)
  clear s2 o2 hx
  go_wp2_with fail
  refine (n_le w.heap.size a0 len cap w.heap.size 4 (by omega) (by omega) w2 S2.out).mono ?_
  rintro e w3 ⟨⟨c, hc, rfl⟩, s3, o3⟩
  have O3 := Lib.hid (O2.out.trans o3)
  have S3 := Lib.hid s3
  clear s3 o3
  by_cases h0 : c = 0
  · subst h0
    go_wp2_with fail
    refine (term_calls w.heap.size a0 len cap w.heap.size w3 S3.out).mono ?_
    rintro e w4 ⟨y, hy, rfl, s4, o4⟩
    have O4 := Lib.hid (O3.out.trans o4)
    clear s4 o4
    go_wp2_with fail
    go_ret2
    exact ⟨⟨x, y, by omega, by omega, rfl⟩, fin B1.out O4.out⟩
  by_cases h1 : c = 1
  · subst h1
    go_wp2_with fail
    refine (atom_calls w.heap.size a0 len cap w.heap.size w3 S3.out).mono ?_
    rintro e w4 ⟨z, hz, rfl, s4, o4⟩
    have O4 := Lib.hid (O3.out.trans o4)
    have S4 := Lib.hid (S3.out.only o4 s4)
    clear s4 o4
    go_wp2_with fail
    refine (T3.out w4 S4.out 2 (by decide) (by decide)).mono ?_
    rintro e w5 ⟨y, hy, rfl, s5, o5⟩
    have hy' : y.length ≤ 630 := hy
    have O5 := Lib.hid (O4.out.trans o5)
    clear s5 o5 hy
    go_wp2_with fail
    refine (say_two oShut x y _ 0 2 _ (by simp [go_sem]) (by simp [go_sem]) (by decide) (by omega) (by omega)).mono ?_
    rintro e w6 ⟨rfl, hb⟩
    have HB := Lib.hid hb
    clear hb
    go_wp2_with fail
    go_ret2
    exact ⟨⟨z, say oShut [x, y], by omega, by simp [say, oShut]; omega, rfl⟩, fin B1.out ((O5.out.trans (Only.alloc' _ _ _)).trans (Only.of_below HB.out))⟩
  · have c0 : ¬ (c : Int) = 0 := by omega
    have c1 : ¬ (c : Int) = 1 := by omega
    go_wp2_with fail
    refine (T3.out w3 S3.out 2 (by decide) (by decide)).mono ?_
    rintro e w5 ⟨y, hy, rfl, s5, o5⟩
    have hy' : y.length ≤ 630 := hy
    have O5 := Lib.hid (O3.out.trans o5)
    clear s5 o5 hy
    go_wp2_with fail
    refine (say_two oShut x y _ 0 2 _ (by simp [go_sem]) (by simp [go_sem]) (by decide) (by omega) (by omega)).mono ?_
    rintro e w6 ⟨rfl, hb⟩
    have HB := Lib.hid hb
    clear hb
    go_wp2_with fail
    go_ret2
    exact ⟨⟨x, say oShut [x, y], by omega, by simp [say, oShut]; omega, rfl⟩, fin B1.out ((O5.out.trans (Only.alloc' _ _ _)).trans (Only.of_below HB.out))⟩

#print axioms drawOpen
end Go.Proofs.YtnlinlodgpbnlaaGreat.dro
