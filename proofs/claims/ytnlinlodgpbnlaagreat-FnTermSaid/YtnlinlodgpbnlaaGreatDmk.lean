/- Contract of the model's DrawMake. Of the texts only a bound of their length is told, of the list that of its own. (Written by wip/gen_dmk.py.) -/
import Derived.Test.YtnlinlodgpbnlaaGreatDrw
import Derived.Test.YtnlinlodgpbnlaaGreatRds
namespace Go.Proofs.YtnlinlodgpbnlaaGreat.dmk
open Go.RowKit Go.Proofs.YtnlinlodgpbnlaaGreat.tm Go.Proofs.YtnlinlodgpbnlaaGreat.lib Go.Proofs.YtnlinlodgpbnlaaGreat.rdr Go.Proofs.YtnlinlodgpbnlaaGreat.bld Go.Proofs.YtnlinlodgpbnlaaGreat.app Go.Proofs.YtnlinlodgpbnlaaGreat.drw Go.Proofs.YtnlinlodgpbnlaaGreat.drp Go.Proofs.YtnlinlodgpbnlaaGreat.drt Go.Proofs.YtnlinlodgpbnlaaGreat.drs Go.Proofs.YtnlinlodgpbnlaaGreat.drl Go.Proofs.YtnlinlodgpbnlaaGreat.dro Go.Proofs.YtnlinlodgpbnlaaGreat.mkp Go.Proofs.YtnlinlodgpbnlaaGreat.spm Go.Proofs.YtnlinlodgpbnlaaGreat.sdp Go.Proofs.YtnlinlodgpbnlaaGreat.mrk Go.Proofs.YtnlinlodgpbnlaaGreat.mrs
set_option linter.unusedVariables false

/-- What stands while the list is drawn. -/
structure Dm (g : Nat) (a0 : Option Addr) (len cap : Nat) (w wr : World) (m k : Nat) (v : Value) (ls : List Bs) : Prop where
  le : k ≤ m
  len' : ls.length = k
  few : ∀ x ∈ ls, x.length ≤ 3000
  sd : Sd wr g a0 len cap g
  bel : Below g w wr
  own : Strs wr (g + 1) v ls

theorem Dm.only {g : Nat} {a0 : Option Addr} {len cap : Nat} {w wr w' : World} {m k : Nat} {v : Value} {ls : List Bs} (L : Dm g a0 len cap w wr m k v ls) (hg : g ≤ w.heap.size) (s : Src w' g a0 len cap) (o : Only g wr w') : Dm g a0 len cap w w' m k v ls :=
  ⟨L.le, L.len', L.few, L.sd.only o s, L.bel.trans (o.below (Nat.le_refl _) (Nat.le_of_lt L.sd.lt)), own_kept L.own fun j h1 h2 => o.block j h2 (by omega)⟩

theorem Dm.put {g : Nat} {a0 : Option Addr} {len cap : Nat} {w wr w' : World} {m k : Nat} {v v' : Value} {ls : List Bs} {t : Bs} (L : Dm g a0 len cap w wr m k v ls) (hk : k < m) (ht : t.length ≤ 3000) (h1 : Strs w' (g + 1) v' (ls ++ [t])) (h2 : Below (g + 1) wr w') : Dm g a0 len cap w w' m (k + 1) v' (ls ++ [t]) := by
  refine ⟨by omega, by rw [List.length_append, L.len']; rfl, ?_, ⟨L.sd.src.below2 h2, L.sd.rd.below (h2.mono (Nat.le_succ _)), Nat.le_refl _, Nat.lt_of_lt_of_le L.sd.lt h2.size⟩, L.bel.trans (h2.mono (Nat.le_succ _)), h1⟩
  intro x hx
  rcases List.mem_append.1 hx with h | h
  · exact L.few x h
  · have : x = t := by simpa using h
    rw [this]; exact ht

theorem Strs.empty (w : World) (B : Nat) (h : B ≤ w.heap.size) : Strs (w.alloc (.cells #[] 9)) B (.slice (some ⟨w.heap.size, 0, none⟩) 0 0) [] :=
  World.ownsRow_made (size := 1) w #[] 0 h (by decide) (by simp)

theorem many_le (op : Bs) : many op ≤ 2 := by
  unfold many
  split
  · omega
  · split <;> omega

/-- A drawn op and a drawn list. -/
def OpList (w : World) (e : Ending) (w' : World) : Prop :=
  ∃ (op : Bs) (v : Value) (ls : List Bs), op.length ≤ 9 ∧ ls.length ≤ 3 ∧ (∀ x ∈ ls, x.length ≤ 3000) ∧ e = .returned (.tuple #[str op, v]) ∧ Rds w' v ls

set_option maxHeartbeats 4000000 in
set_option maxRecDepth 100000 in
theorem drawMake (a0 : Option Addr) (len cap : Nat) (w : World) (hr : Rd w w.heap.size a0 len) :
    Calls Tryz.prog 9 #[.slice a0 len cap] w fun e w' => OpList w e w' ∧ Below w.heap.size w w' := by
  obtain ⟨g, hgw⟩ : ∃ g, g = w.heap.size := ⟨_, rfl⟩
  have hgle : g ≤ w.heap.size := Nat.le_of_eq hgw
  rw [← hgw]
  have HG := Lib.hid hgw
  clear hgw
  go_enter Tryz.func9, Tryz.ntmps9
  go_wp2_with fail
  refine (source_calls a0 len cap w hr).mono ?_
  rintro e w1 ⟨rfl, hs1, hb1, hz1⟩
  have d1 := dro.start hr hs1 hb1 hz1
  rw [← HG.out] at d1 hb1 hz1
  have D1 := Lib.hid d1
  have B1 := Lib.hid hb1
  clear hs1 hb1 hr d1
  rw [← HG.out]
  clear HG
  go_wp2_with fail
  refine (pick_calls g a0 len cap g w1.heap.size 7 7 (by omega) (by omega) 9 _ (D1.out.alloc _) (by simp) (by omega) ?_).mono ?_
  · intro j hj
    match j, hj with
    | 0, _ => exact ⟨[112, 97, 105, 114], by decide, by simp [go_sem]⟩
    | 1, _ => exact ⟨[104, 97, 115, 104], by decide, by simp [go_sem]⟩
    | 2, _ => exact ⟨[109, 97, 99], by decide, by simp [go_sem]⟩
    | 3, _ => exact ⟨[115, 104, 117, 116], by decide, by simp [go_sem]⟩
    | 4, _ => exact ⟨[112, 117, 98], by decide, by simp [go_sem]⟩
    | 5, _ => exact ⟨[100, 104], by decide, by simp [go_sem]⟩
    | 6, _ => exact ⟨[102, 111, 111], by decide, by simp [go_sem]⟩
    | j + 7, h => omega
  rintro e w2 ⟨op, hop, rfl, s2, o2⟩
  have O2 := Lib.hid ((Only.alloc' w1 _ g).trans o2)
  have D2 := Lib.hid (D1.out.only O2.out s2)
  have hg2 := D2.out.lt
  have hml := many_le op
  obtain ⟨mm, hmm⟩ : ∃ mm, mm = many op := ⟨_, rfl⟩
  have mc := fun w => many_calls op w
  have sc := fun w => secret_calls op w
  rw [← hmm] at mc hml
  have MC := Lib.hid mc
  clear mc hmm s2 o2
  obtain ⟨sec, hsec⟩ : ∃ sec, sec = secret op := ⟨_, rfl⟩
  rw [← hsec] at sc
  have SC := Lib.hid sc
  clear sc hsec
  go_wp2_with fail
  refine (MC.out _).mono ?_
  rintro e w3 ⟨rfl, rfl⟩
  clear MC
  have D3 := Lib.hid (D2.out.alloc (.cells #[] 9))
  have E3 := Lib.hid (Strs.empty w2 (g + 1) (by omega))
  have B3 := Lib.hid ((B1.out.trans (O2.out.below (Nat.le_refl _) (by omega))).trans ((Below.refl _ _).alloc (by omega) (.cells #[] 9)) : Below g w (w2.alloc (.cells #[] 9)))
  clear D1 B1 O2 D2
  go_wp2_with fail
  refine (one_le g a0 len cap g 8 (by omega) (by omega) _ D3.out).mono ?_
  rintro e w4 ⟨⟨b, rfl⟩, s4, o4⟩
  have I4 : Hid (∀ m, Dm g a0 len cap w w4 m 0 (.slice (some ⟨w2.heap.size, 0, none⟩) 0 0) []) := fun m => Dm.only ⟨Nat.zero_le _, rfl, by simp, D3.out, B3.out, E3.out⟩ hgle s4.src o4
  have D4 := Lib.hid s4
  clear s4 o4 D3 E3 B3
  cases b with
  | false =>
    go_wp2_with fail
    go_loopw [6, 8, 9, 22, 23, 24, 25, 26, 27, 28, 29, 30, 31, 32, 33, 34, 35, 36, 37, 38, 39, 40, 41] (fun vl vk _ _ _ _ _ _ _ _ _ _ _ _ _ _ _ _ _ _ _ _ _ wr => ∃ k ls, vk = .int .i64 (k : Nat) ∧ Dm g a0 len cap w wr mm k vl ls) (fun _ vk _ _ _ _ _ _ _ _ _ _ _ _ _ _ _ _ _ _ _ _ _ _ => mm - (intOf vk).toNat)
    case atStart => exact ⟨0, [], rfl, I4.out _⟩
    case round =>
      obtain ⟨k, ls, rfl, L⟩ := hrel
      have hkm := L.le
      have hkl := L.len'
      have HL := Lib.hid L
      have hglt := L.sd.lt
      clear L
      by_cases hk : k < mm
      · have hpos : decide (((k : Nat) : Int) < (mm : Nat)) = true := by simp; omega
        go_wp2_with fail
        refine (term_calls g a0 len cap g wr HL.out.sd).mono ?_
        rintro e w6 ⟨t, ht, rfl, s6, o6⟩
        have L6 := Lib.hid (HL.out.only hgle s6 o6)
        have hg6 := L6.out.sd.lt
        clear HL s6 o6
        go_wp2_with fail
        refine (SC.out _).mono ?_
        rintro e w7 ⟨rfl, rfl⟩
        cases sec with
        | false =>
          go_wp2_with (at_builtin; refine wp_putS (.tmp 38) (.tmp 40) t (g + 1) _ ls rfl rfl rfl L6.out.own rfl (by omega) (by omega) ?_; intro v2 w8 t2 b2)
          have L8 := Lib.hid (L6.out.put hk (by omega) t2 b2)
          clear t2 b2
          go_wp2_with fail
          go_roundw
          case rel => exact ⟨k + 1, _, by go_num, L8.out⟩
          case measure => simp [intOf]; omega
        | true =>
          go_wp2_with fail
          refine (one_le g a0 len cap g 5 (by omega) (by omega) _ L6.out.sd).mono ?_
          rintro e w7 ⟨⟨b, rfl⟩, s7, o7⟩
          have L7 := Lib.hid (L6.out.only hgle s7.src o7)
          have hg7 := L7.out.sd.lt
          clear s7 o7 L6
          cases b with
          | true =>
            go_wp2_with (at_builtin; refine wp_putS (.tmp 38) (.tmp 40) t (g + 1) _ ls rfl rfl rfl L7.out.own rfl (by omega) (by omega) ?_; intro v2 w8 t2 b2)
            have L8 := Lib.hid (L7.out.put hk (by omega) t2 b2)
            clear t2 b2
            go_wp2_with fail
            go_roundw
            case rel => exact ⟨k + 1, _, by go_num, L8.out⟩
            case measure => simp [intOf]; omega
          | false =>
            go_wp2_with fail
            refine (atom_calls g a0 len cap g _ L7.out.sd).mono ?_
            rintro e w9 ⟨t', ht', rfl, s9, o9⟩
            have L9 := Lib.hid (L7.out.only hgle s9 o9)
            have hg9 := L9.out.sd.lt
            clear s9 o9 L7
            go_wp2_with (at_builtin; refine wp_putS (.tmp 38) (.tmp 40) t' (g + 1) _ ls rfl rfl rfl L9.out.own rfl (by omega) (by omega) ?_; intro v2 w8 t2 b2)
            have L8 := Lib.hid (L9.out.put hk (by omega) t2 b2)
            clear t2 b2
            go_wp2_with fail
            go_roundw
            case rel => exact ⟨k + 1, _, by go_num, L8.out⟩
            case measure => simp [intOf]; omega
      · have hneg : decide (((k : Nat) : Int) < (mm : Nat)) = false := by simp; omega
        go_wp2_with fail
        go_ret2
        exact ⟨⟨op, _, ls, hop, by omega, HL.out.few, rfl, (Strs.wrs HL.out.own).rds⟩, HL.out.bel⟩
  | true =>
    go_wp2_with fail
    refine (n_le g a0 len cap g 4 (by omega) (by omega) _ D4.out).mono ?_
    rintro e w5 ⟨⟨mn, hmn, rfl⟩, s5, o5⟩
    have I5 : Hid (∀ m, Dm g a0 len cap w w5 m 0 (.slice (some ⟨w2.heap.size, 0, none⟩) 0 0) []) := fun m => (I4.out m).only hgle s5.src o5
    clear s5 o5 I4 D4 hml
    go_wp2_with fail
    go_loopw [6, 8, 9, 22, 23, 24, 25, 26, 27, 28, 29, 30, 31, 32, 33, 34, 35, 36, 37, 38, 39, 40, 41] (fun vl vk _ _ _ _ _ _ _ _ _ _ _ _ _ _ _ _ _ _ _ _ _ wr => ∃ k ls, vk = .int .i64 (k : Nat) ∧ Dm g a0 len cap w wr mn k vl ls) (fun _ vk _ _ _ _ _ _ _ _ _ _ _ _ _ _ _ _ _ _ _ _ _ _ => mn - (intOf vk).toNat)
    case atStart => exact ⟨0, [], rfl, I5.out _⟩
    case round =>
      obtain ⟨k, ls, rfl, L⟩ := hrel
      have hkm := L.le
      have hkl := L.len'
      have HL := Lib.hid L
      have hglt := L.sd.lt
      clear L
      by_cases hk : k < mn
      · have hpos : decide (((k : Nat) : Int) < (mn : Nat)) = true := by simp; omega
        go_wp2_with fail
        refine (term_calls g a0 len cap g wr HL.out.sd).mono ?_
        rintro e w6 ⟨t, ht, rfl, s6, o6⟩
        have L6 := Lib.hid (HL.out.only hgle s6 o6)
        have hg6 := L6.out.sd.lt
        clear HL s6 o6
        go_wp2_with fail
        refine (SC.out _).mono ?_
        rintro e w7 ⟨rfl, rfl⟩
        cases sec with
        | false =>
          go_wp2_with (at_builtin; refine wp_putS (.tmp 38) (.tmp 40) t (g + 1) _ ls rfl rfl rfl L6.out.own rfl (by omega) (by omega) ?_; intro v2 w8 t2 b2)
          have L8 := Lib.hid (L6.out.put hk (by omega) t2 b2)
          clear t2 b2
          go_wp2_with fail
          go_roundw
          case rel => exact ⟨k + 1, _, by go_num, L8.out⟩
          case measure => simp [intOf]; omega
        | true =>
          go_wp2_with fail
          refine (one_le g a0 len cap g 5 (by omega) (by omega) _ L6.out.sd).mono ?_
          rintro e w7 ⟨⟨b, rfl⟩, s7, o7⟩
          have L7 := Lib.hid (L6.out.only hgle s7.src o7)
          have hg7 := L7.out.sd.lt
          clear s7 o7 L6
          cases b with
          | true =>
            go_wp2_with (at_builtin; refine wp_putS (.tmp 38) (.tmp 40) t (g + 1) _ ls rfl rfl rfl L7.out.own rfl (by omega) (by omega) ?_; intro v2 w8 t2 b2)
            have L8 := Lib.hid (L7.out.put hk (by omega) t2 b2)
            clear t2 b2
            go_wp2_with fail
            go_roundw
            case rel => exact ⟨k + 1, _, by go_num, L8.out⟩
            case measure => simp [intOf]; omega
          | false =>
            go_wp2_with fail
            refine (atom_calls g a0 len cap g _ L7.out.sd).mono ?_
            rintro e w9 ⟨t', ht', rfl, s9, o9⟩
            have L9 := Lib.hid (L7.out.only hgle s9 o9)
            have hg9 := L9.out.sd.lt
            clear s9 o9 L7
            go_wp2_with (at_builtin; refine wp_putS (.tmp 38) (.tmp 40) t' (g + 1) _ ls rfl rfl rfl L9.out.own rfl (by omega) (by omega) ?_; intro v2 w8 t2 b2)
            have L8 := Lib.hid (L9.out.put hk (by omega) t2 b2)
            clear t2 b2
            go_wp2_with fail
            go_roundw
            case rel => exact ⟨k + 1, _, by go_num, L8.out⟩
            case measure => simp [intOf]; omega
      · have hneg : decide (((k : Nat) : Int) < (mn : Nat)) = false := by simp; omega
        go_wp2_with fail
        go_ret2
        exact ⟨⟨op, _, ls, hop, by omega, HL.out.few, rfl, (Strs.wrs HL.out.own).rds⟩, HL.out.bel⟩

#print axioms drawMake
end Go.Proofs.YtnlinlodgpbnlaaGreat.dmk
