/- Several small texts, one behind the other. -/
import Derived.Test.YtdikjmhnjlalbabGreatQl
import Derived.Test.YtdikjmhnjlalbabGreatQg

/- Contracts of the model's l02Term, DrawNodeOf, DrawAtomRight. Of the text only a bound of its length is told. -/
namespace Go.Proofs.YtdikjmhnjlalbabGreat.drl
open Go.RowKit Go.Proofs.YtdikjmhnjlalbabGreat.tm Go.Proofs.YtdikjmhnjlalbabGreat.lib Go.Proofs.YtdikjmhnjlalbabGreat.rdr Go.Proofs.YtdikjmhnjlalbabGreat.bld Go.Proofs.YtdikjmhnjlalbabGreat.drw Go.Proofs.YtdikjmhnjlalbabGreat.drp Go.Proofs.YtdikjmhnjlalbabGreat.drt Go.Proofs.YtdikjmhnjlalbabGreat.drs
set_option linter.unusedVariables false

structure Lt (g : Nat) (a0 : Option Addr) (len cap B : Nat) (w wr : World) (m k : Nat) (t : Bs) : Prop where
  le : k ≤ m
  few : t.length + 7 * k ≤ 630 + 7 * m
  sd : Sd wr g a0 len cap B
  only : Only g w wr

set_option maxHeartbeats 2000000 in
set_option maxRecDepth 100000 in
theorem term_calls (g : Nat) (a0 : Option Addr) (len cap B : Nat) (w : World) (h : Sd w g a0 len cap B) :
    Calls Tryz.prog 46 #[.pointer (some ⟨g, 0, none⟩)] w (Tld 1000 g a0 len cap w) := by
  have ht := to_all 4 (by omega) (by omega) g a0 len cap B w h 4 (by decide) (by decide)
  have H := Lib.hid h
  have HT := Lib.hid ht
  clear h ht
  go_enter Tryz.func46, Tryz.ntmps46
  go_wp2_with fail
  refine HT.out.mono ?_
  rintro e w1 ⟨t, htl, rfl, hs1, ho1⟩
  have HD1 := Lib.hid (H.out.only ho1 hs1)
  have HO1 := Lib.hid ho1
  have ht4 : t.length ≤ 630 := htl
  clear hs1 ho1 htl
  go_wp2_with fail
  refine (n_le g a0 len cap B 12 (by omega) (by omega) w1 HD1.out).mono ?_
  rintro e w2 ⟨⟨c, hc, rfl⟩, hd2, ho2⟩
  have HD2 := Lib.hid hd2
  have HO2 := Lib.hid (HO1.out.trans ho2)
  clear hd2 ho2
  by_cases h0 : c = 0
  · subst h0
    have SP := Lib.hid (spoil_calls g a0 len cap B t (by omega) w2 HD2.out)
    go_wp2_with fail
    refine SP.out.mono ?_
    rintro e w3 ⟨s, hs, rfl, h1, h2⟩
    have H1 := Lib.hid h1
    have H2 := Lib.hid h2
    clear h1 h2
    go_wp2_with fail
    go_ret
    exact ⟨s, by omega, rfl, H1.out, HO2.out.trans H2.out⟩
  by_cases h1 : c = 1
  · subst h1
    have hg2 := HD2.out.lt
    go_wp2_with fail
    refine (pick_calls g a0 len cap B w2.heap.size 15 15 (by omega) (by omega) 100 _ (HD2.out.alloc _) (by simp) (by omega) ?_).mono ?_
    · intro j hj
      match j, hj with
      | 0, _ => exact ⟨[], by decide, by simp [go_sem]⟩
      | 1, _ => exact ⟨[65], by decide, by simp [go_sem]⟩
      | 2, _ => exact ⟨[91, 112, 97, 105, 114, 32, 97, 93], by decide, by simp [go_sem]⟩
      | 3, _ => exact ⟨[91, 112, 97, 105, 114, 32, 97, 32, 98, 32, 99, 93], by decide, by simp [go_sem]⟩
      | 4, _ => exact ⟨[91, 100, 104, 32, 98, 32, 97, 93], by decide, by simp [go_sem]⟩
      | 5, _ => exact ⟨[91, 112, 117, 98, 32, 91, 104, 97, 115, 104, 32, 97, 93, 93], by decide, by simp [go_sem]⟩
      | 6, _ => exact ⟨[91, 104, 97, 115, 104, 32, 32, 97, 93], by decide, by simp [go_sem]⟩
      | 7, _ => exact ⟨[91, 104, 97, 115, 104, 32, 97], by decide, by simp [go_sem]⟩
      | 8, _ => exact ⟨[104, 97, 115, 104, 32, 97, 93], by decide, by simp [go_sem]⟩
      | 9, _ => exact ⟨[91, 93], by decide, by simp [go_sem]⟩
      | 10, _ => exact ⟨[91, 112, 97, 105, 114, 32, 97, 32, 98, 93, 93], by decide, by simp [go_sem]⟩
      | 11, _ => exact ⟨[91, 104, 97, 115, 104, 32, 97, 93, 32], by decide, by simp [go_sem]⟩
      | 12, _ => exact ⟨[91, 102, 111, 111, 32, 97, 93], by decide, by simp [go_sem]⟩
      | 13, _ => exact ⟨[49, 50, 51, 52, 53, 54, 55, 56, 57], by decide, by simp [go_sem]⟩
      | 14, _ => exact ⟨[91, 112, 97, 105, 114, 32, 91, 104, 97, 115, 104, 32, 97, 93, 32, 91, 112, 117, 98, 32, 98, 93, 93], by decide, by simp [go_sem]⟩
      | j + 15, h => omega
    · rintro e w3 ⟨s, hs, rfl, h1, h2⟩
      have H1 := Lib.hid h1
      have H2 := Lib.hid h2
      clear h1 h2
      go_wp2_with fail
      go_ret
      exact ⟨s, by omega, rfl, H1.out, (HO2.out.trans (Only.alloc' w2 _ g)).trans H2.out⟩
  by_cases h2 : c = 2
  · subst h2
    go_wp2_with fail
    refine (n_le g a0 len cap B 26 (by omega) (by omega) w2 HD2.out).mono ?_
    rintro e w3 ⟨⟨m, hm, rfl⟩, hd3, ho3⟩
    have HD3 := Lib.hid hd3
    have HO3 := Lib.hid (HO2.out.trans ho3)
    clear hd3 ho3
    go_wp2_with fail
    go_loopw [3, 4, 23, 24, 25, 26, 27, 28, 29] (fun vt vk _ _ _ _ _ _ _ wr => ∃ k t, vt = str t ∧ vk = .int .i64 (k : Nat) ∧ Lt g a0 len cap B w wr m k t) (fun _ vk _ _ _ _ _ _ _ _ => (intOf vk).toNat)
    case atStart => exact ⟨m, t, rfl, rfl, Nat.le_refl _, by omega, HD3.out, HO3.out⟩
    case round =>
      obtain ⟨k, t, rfl, rfl, L⟩ := hrel
      have HL := Lib.hid L
      have hkm := L.le
      have htl := L.few
      have hglt := L.sd.lt
      clear L
      by_cases hk : 0 < k
      · obtain ⟨k', rfl⟩ : ∃ k', k = k' + 1 := ⟨k - 1, by omega⟩
        have hpos : decide ((0 : Int) < ((k' : Nat) : Int) + 1) = true := by simp
        have hwk : IntKind.i64.wrap (k' : Int) = (k' : Int) := by rw [IntKind.wrap_i64]; omega
        have sx := fun (w : World) (b : Nat) (c0 : w.cell? ⟨b, 0, none⟩ = some (str t)) => ssy.say_one oHash t b 0 1 w c0 (by simp [oHash]) (by omega)
        have SX := Lib.hid sx
        unfold oHash at SX
        clear sx
        go_wp2_with fail
        refine (SX.out _ _ (by simp [go_sem])).mono ?_
        rintro e w4 ⟨rfl, hb4⟩
        have HB4 := Lib.hid (((Below.refl _ _).alloc (Nat.le_refl _) _ |>.trans (hb4.mono (by simp))) : Below wr.heap.size wr w4)
        clear hb4
        go_wp2_with fail
        go_roundw
        case rel =>
          refine ⟨k', say [104, 97, 115, 104] [t], rfl, by simp, by omega, ?_, drt.Sd.below HL.out.sd HB4.out, HL.out.only.trans (Only.of_below HB4.out)⟩
          simp [say]
          omega
        case measure => simp [intOf]
      · obtain rfl : k = 0 := by omega
        go_wp2_with fail
        go_ret
        exact ⟨t, by omega, rfl, HL.out.sd.src, HL.out.only⟩
  · have c0 : ¬ (c : Int) = 0 := by omega
    have c1 : ¬ (c : Int) = 1 := by omega
    have c2 : ¬ (c : Int) = 2 := by omega
    go_wp2_with fail
    go_ret
    exact ⟨t, by omega, rfl, HD2.out.src, HO2.out⟩

#print axioms term_calls
end Go.Proofs.YtdikjmhnjlalbabGreat.drl

/- lwTexts of laws: two lists that are one list. -/
namespace Go.Proofs.YtdikjmhnjlalbabGreat.lwt
open Go.RowKit Go.Proofs.YtdikjmhnjlalbabGreat.tm Go.Proofs.YtdikjmhnjlalbabGreat.lib Go.Proofs.YtdikjmhnjlalbabGreat.rdr Go.Proofs.YtdikjmhnjlalbabGreat.bld Go.Proofs.YtdikjmhnjlalbabGreat.app Go.Proofs.YtdikjmhnjlalbabGreat.mrk
set_option linter.unusedVariables false

set_option maxHeartbeats 1000000 in
set_option maxRecDepth 100000 in
theorem lwTexts_calls (va vb : Value) (ls : List Bs) (w : World) (ha : Rds w va ls) (hb : Rds w vb ls) (hl : ls.length ≤ 100000000) :
    Calls Tryz.prog 12 #[va, vb] w fun e w' => e = .returned (.bool true) ∧ Still w w' := by
  by_cases h0 : ls = []
  · subst h0
    have fa : ∃ ad cap, va = .slice ad 0 cap := by rcases ha with ⟨_, h⟩ | ⟨g, off, cap, h, _⟩; exact h; exact ⟨_, _, h⟩
    have fb : ∃ ad cap, vb = .slice ad 0 cap := by rcases hb with ⟨_, h⟩ | ⟨g, off, cap, h, _⟩; exact h; exact ⟨_, _, h⟩
    obtain ⟨aa, ca, rfl⟩ := fa
    obtain ⟨ab, cb, rfl⟩ := fb
    clear ha hb
    go_enter Tryz.func12, Tryz.ntmps12
    go_wp2_with fail
    refine wp_loop_rounds 1 ?_
    rw [rounds_succ]
    go_wp2_with fail
    go_ret
    exact ⟨rfl, Still.refl _⟩
  · rcases ha with ⟨h, _⟩ | ⟨ga, oa, ca, rfl, hga, hca⟩
    · exact absurd h h0
    rcases hb with ⟨h, _⟩ | ⟨gb, ob, cb, rfl, hgb, hcb⟩
    · exact absurd h h0
    obtain ⟨n, hn⟩ : ∃ n, n = ls.length := ⟨_, rfl⟩
    rw [← hn] at hl ⊢
    have HA := Lib.hid hca
    have HB := Lib.hid hcb
    have HN := Lib.hid hn
    clear hca hcb hn h0
    go_enter Tryz.func12, Tryz.ntmps12
    go_wp2_with fail
    go_loopw [5, 11, 12, 13, 14, 15, 16, 17, 18, 19, 20, 21, 22, 23, 24, 25] (fun vk _ _ _ _ _ _ _ _ _ _ _ _ _ _ _ wr => ∃ k : Nat, k ≤ n ∧ vk = .int .i64 k ∧ Still w wr) (fun vk _ _ _ _ _ _ _ _ _ _ _ _ _ _ _ _ => n - (intOf vk).toNat)
    case atStart => exact ⟨0, Nat.zero_le _, rfl, Still.refl _⟩
    case round =>
      obtain ⟨k, hk, rfl, hst⟩ := hrel
      have HS := Lib.hid hst
      by_cases hlt : k < n
      · have hk' : k < ls.length := by have := HN.out; omega
        obtain ⟨l, hl'⟩ : ∃ l, ls[k]? = some l := ⟨_, List.getElem?_eq_getElem hk'⟩
        have c1 : wr.cell? ⟨ga, oa + k, none⟩ = some (str l) := by rw [← HA.out k l hl']; exact World.cell?_of_block (by rw [hst.heap])
        have c2 : wr.cell? ⟨gb, ob + k, none⟩ = some (str l) := by rw [← HB.out k l hl']; exact World.cell?_of_block (by rw [hst.heap])
        clear hst hl'
        go_wp2_with fail
        go_quiet (fail)
        go_wp2_with fail
        go_roundw
        case rel => exact ⟨k + 1, by omega, by go_num, HS.out.trans (Still.drewN _ _)⟩
        case measure => simp [intOf]; omega
      · clear hst
        go_wp2_with fail
        go_ret
        exact ⟨rfl, HS.out⟩
end Go.Proofs.YtdikjmhnjlalbabGreat.lwt
