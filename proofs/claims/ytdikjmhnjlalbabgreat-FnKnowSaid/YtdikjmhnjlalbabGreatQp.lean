/- Several small texts, one behind the other. -/
import Derived.Test.YtdikjmhnjlalbabGreatQm
import Derived.Test.YtdikjmhnjlalbabGreatQo
import Derived.Test.YtdikjmhnjlalbabGreatQa
import Derived.Test.YtdikjmhnjlalbabGreatQf
import Derived.Test.YtdikjmhnjlalbabGreatQn
import Derived.Test.YtdikjmhnjlalbabGreatQj
import Derived.Test.YtdikjmhnjlalbabGreatQg

/- Contract of the model's l03KnownOf: at most six texts, rising; of each only a bound of its length is told. -/
namespace Go.Proofs.YtdikjmhnjlalbabGreat.dkn
open Go.RowKit Go.Proofs.YtdikjmhnjlalbabGreat.tm Go.Proofs.YtdikjmhnjlalbabGreat.lib Go.Proofs.YtdikjmhnjlalbabGreat.rdr Go.Proofs.YtdikjmhnjlalbabGreat.bld Go.Proofs.YtdikjmhnjlalbabGreat.app Go.Proofs.YtdikjmhnjlalbabGreat.drw Go.Proofs.YtdikjmhnjlalbabGreat.drp Go.Proofs.YtdikjmhnjlalbabGreat.drt Go.Proofs.YtdikjmhnjlalbabGreat.drs Go.Proofs.YtdikjmhnjlalbabGreat.snd Go.Proofs.YtdikjmhnjlalbabGreat.ato
set_option linter.unusedVariables false

theorem Txs.only {w w' : World} {B g : Nat} {v : Value} {ls : List Bs} (h : Txs w B v ls) (hg : g < B) (k : Only g w w') : Txs w' B v ls := by
  obtain ⟨b, off, cap, e, h1, h2, h3, h4⟩ := h
  refine ⟨b, off, cap, e, h1, Nat.lt_of_lt_of_le h2 k.size, h3, fun j l hj => ?_⟩
  rw [← h4 j l hj]
  exact World.cell?_of_block (k.block b h2 (by omega))

/-- What holds while texts are put. -/
structure Ks (g : Nat) (a0 : Option Addr) (len cap B : Nat) (w wr : World) (m k : Nat) (v : Value) (ls : List Bs) : Prop where
  le : ls.length + k ≤ m
  sd : Sd wr g a0 len cap B
  only : Only g w wr
  txs : Txs wr w.heap.size v ls
  few : ∀ x ∈ ls, x.length ≤ 1000
  rise : Rise ls
  own : Strs wr w.heap.size v ls

theorem Strs.only {w w' : World} {B g : Nat} {v : Value} {ls : List Bs} (h : Strs w B v ls) (hg : g < B) (k : Only g w w') : Strs w' B v ls :=
  own_kept h fun g' h1 h2 => k.block g' h2 (by omega)

theorem Ks.put {g : Nat} {a0 : Option Addr} {len cap B : Nat} {w wr w4 w5 : World} {m k : Nat} {v v' : Value} {ls : List Bs} {t : Bs} (K : Ks g a0 len cap B w wr m (k + 1) v ls) (ht : t.length ≤ 1000) (ho : Only g wr w4) (hs : Sd w4 g a0 len cap B) (hb : Below w4.heap.size w4 w5) (htx : Txs w5 w.heap.size v' (put ls t)) (hst : Strs w5 w.heap.size v' (put ls t)) : Ks g a0 len cap B w w5 m k v' (put ls t) := by
  obtain ⟨r1, r2⟩ := put_rise ls t K.rise
  refine ⟨?_, drt.Sd.below hs hb, (K.only.trans ho).trans (Only.of_below hb), htx, fun x hx => ?_, r1, hst⟩
  · have := K.le
    rcases kmp.put_len2 (t := t) K.rise with ⟨h, _⟩ | ⟨h, _⟩ <;> omega
  · rcases (r2 x).1 hx with h | rfl
    · exact K.few x h
    · exact ht

set_option maxHeartbeats 2000000 in
set_option maxRecDepth 100000 in
theorem of_calls (g : Nat) (a0 : Option Addr) (len cap B : Nat) (w : World) (h : Sd w g a0 len cap B) :
    Calls Tryz.prog 44 #[.pointer (some ⟨g, 0, none⟩)] w fun e w' => ∃ v ls, e = .returned v ∧ Ks g a0 len cap B w w' 6 0 v ls := by
  have H := Lib.hid h
  have hgw := h.lt
  clear h
  go_enter Tryz.func44, Tryz.ntmps44
  go_wp2_with fail
  refine (n_le g a0 len cap B 7 (by omega) (by omega) _ (H.out.alloc _)).mono ?_
  rintro e w2 ⟨⟨m, hm, rfl⟩, hd2, ho2⟩
  have HD2 := Lib.hid hd2
  have HO2 := Lib.hid ((Only.alloc' w _ g).trans ho2)
  have ST2 := Lib.hid (Strs.only (sar.strs_empty w w.heap.size (Nat.le_refl _)) hgw ho2)
  have hz2 : w.heap.size < w2.heap.size := by have := ho2.size; simp at this; omega
  clear hd2 ho2
  go_wp2_with fail
  go_loopw [3, 4, 8, 9, 10, 11, 12, 13, 14, 15] (fun v vk _ _ _ _ _ _ _ _ wr => ∃ k ls, vk = .int .i64 (k : Nat) ∧ Ks g a0 len cap B w wr m k v ls) (fun _ vk _ _ _ _ _ _ _ _ _ => (intOf vk).toNat)
  case atStart => exact ⟨m, [], rfl, by simp, HD2.out, HO2.out, ⟨w.heap.size, 0, 0, rfl, Nat.le_refl _, hz2, Nat.le_refl _, fun j l hj => by simp at hj⟩, by simp, by simp [Rise], ST2.out⟩
  case round =>
    obtain ⟨k, ls, rfl, L⟩ := hrel
    have HL := Lib.hid L
    have hle := L.le
    clear L
    by_cases hk : 0 < k
    · obtain ⟨k', rfl⟩ : ∃ k', k = k' + 1 := ⟨k - 1, by omega⟩
      have hpos : decide ((0 : Int) < ((k' : Nat) : Int) + 1) = true := by simp
      have hwk : IntKind.i64.wrap (k' : Int) = (k' : Int) := by rw [IntKind.wrap_i64]; omega
      have to := to_all 4 (by omega) (by omega) g a0 len cap B _ HL.out.sd 4 (by decide) (by decide)
      have TO4 := Lib.hid to
      clear to
      go_wp2_with fail
      refine TO4.out.mono ?_
      rintro e w4 ⟨t, ht, rfl, hs4, ho4⟩
      have HT := Lib.hid (show t.length ≤ 1000 from Nat.le_trans ht (by decide))
      have HS4 := Lib.hid (HL.out.sd.only ho4 hs4)
      have HO4 := Lib.hid ho4
      clear ht hs4 ho4 TO4
      have hsz : w.heap.size ≤ w4.heap.size := Nat.le_trans HL.out.only.size HO4.out.size
      go_wp2_with fail
      refine (spt.put_both _ ls t w.heap.size w4 (Txs.only HL.out.txs hgw HO4.out) hsz (by omega)).mono ?_
      rintro e w5 ⟨v', rfl, htx, hst, hb5⟩
      have HK := Lib.hid (HL.out.put HT.out HO4.out HS4.out hb5 htx (hst (Strs.only HL.out.own hgw HO4.out)))
      clear htx hst hb5
      go_wp2_with fail
      go_roundw
      case rel => exact ⟨k', put ls t, rfl, HK.out⟩
      case measure => simp [intOf]
    · obtain rfl : k = 0 := by omega
      go_wp2_with fail
      go_ret
      exact ⟨_, ls, rfl, ⟨by have := HL.out.le; omega, HL.out.sd, HL.out.only, HL.out.txs, HL.out.few, HL.out.rise, HL.out.own⟩⟩

#print axioms of_calls
end Go.Proofs.YtdikjmhnjlalbabGreat.dkn

/- Contracts of the model's l03Known, l03Near, DrawBuilds, DrawKnows, DrawLearned: of the texts only bounds of their number and length are told. -/
namespace Go.Proofs.YtdikjmhnjlalbabGreat.dkk
open Go.RowKit Go.Proofs.YtdikjmhnjlalbabGreat.tm Go.Proofs.YtdikjmhnjlalbabGreat.lib Go.Proofs.YtdikjmhnjlalbabGreat.rdr Go.Proofs.YtdikjmhnjlalbabGreat.bld Go.Proofs.YtdikjmhnjlalbabGreat.app Go.Proofs.YtdikjmhnjlalbabGreat.mrk Go.Proofs.YtdikjmhnjlalbabGreat.drw Go.Proofs.YtdikjmhnjlalbabGreat.drp Go.Proofs.YtdikjmhnjlalbabGreat.drt Go.Proofs.YtdikjmhnjlalbabGreat.drs Go.Proofs.YtdikjmhnjlalbabGreat.drl Go.Proofs.YtdikjmhnjlalbabGreat.snd Go.Proofs.YtdikjmhnjlalbabGreat.ato Go.Proofs.YtdikjmhnjlalbabGreat.dkn Go.Proofs.YtdikjmhnjlalbabGreat.dec
set_option linter.unusedVariables false

theorem dd_len : ∀ n k : Nat, n < 10 ^ k → (dd n).length ≤ k := by
  intro n
  induction n using Nat.strongRecOn with
  | _ n ih =>
    intro k h
    by_cases h0 : n = 0
    · subst h0; rw [dd_zero]; simp
    · cases k with
      | zero => simp at h; omega
      | succ k =>
        rw [dd_step h0, List.length_append]
        have := ih (n / 10) (by omega) k (by rw [Nat.pow_succ] at h; omega)
        simp
        omega
theorem decR_len (n : Nat) (h : n ≤ 1000) : (decR n).length ≤ 7 := by
  unfold decR
  split
  · simp
  · exact dd_len n 7 (by omega)

/-- Texts that were drawn. -/
structure Kq (g : Nat) (a0 : Option Addr) (len cap B : Nat) (w wr : World) (m : Nat) (v : Value) (ls : List Bs) : Prop where
  le : ls.length ≤ m
  sd : Sd wr g a0 len cap B
  only : Only g w wr
  txs : Txs wr w.heap.size v ls
  few : ∀ x ∈ ls, x.length ≤ 1000

theorem Kq.put {g : Nat} {a0 : Option Addr} {len cap B : Nat} {w wr w4 w5 : World} {m : Nat} {v v' : Value} {ls : List Bs} {t : Bs} (K : Kq g a0 len cap B w wr m v ls) (ht : t.length ≤ 1000) (ho : Only g wr w4) (hs : Sd w4 g a0 len cap B) (hb : Below w4.heap.size w4 w5) (htx : Txs w5 w.heap.size v' (put ls t)) : Kq g a0 len cap B w w5 (m + 1) v' (put ls t) := by
  refine ⟨?_, drt.Sd.below hs hb, (K.only.trans ho).trans (Only.of_below hb), htx, fun x hx => ?_⟩
  · have := K.le
    have := spt.put_len ls t
    omega
  · unfold Go.Proofs.YtdikjmhnjlalbabGreat.ato.put at hx
    split at hx
    · exact K.few x hx
    · simp only [List.mem_append, List.mem_cons] at hx
      rcases hx with hx | rfl | hx
      · exact K.few x (List.mem_of_mem_take hx)
      · exact ht
      · exact K.few x (List.mem_of_mem_drop hx)

set_option maxHeartbeats 2000000 in
set_option maxRecDepth 100000 in
theorem known_calls (g : Nat) (a0 : Option Addr) (len cap B : Nat) (w : World) (h : Sd w g a0 len cap B) :
    Calls Tryz.prog 31 #[.pointer (some ⟨g, 0, none⟩)] w fun e w' => ∃ v ls, e = .returned v ∧ Kq g a0 len cap B w w' 100 v ls := by
  have H := Lib.hid h
  have hgw := h.lt
  clear h
  go_enter Tryz.func31, Tryz.ntmps31
  go_wp2_with fail
  refine (of_calls g a0 len cap B w H.out).mono ?_
  rintro e w1 ⟨v, ls, rfl, K⟩
  have HK := Lib.hid K
  clear K
  go_wp2_with fail
  refine (n_le g a0 len cap B 15 (by omega) (by omega) w1 HK.out.sd).mono ?_
  rintro e w2 ⟨⟨c, hc, rfl⟩, hd2, ho2⟩
  have HD2 := Lib.hid hd2
  have HO2 := Lib.hid (HK.out.only.trans ho2)
  have HX2 := Lib.hid ho2
  clear hd2 ho2
  by_cases h0 : c = 0
  · subst h0
    go_wp2_with fail
    refine (term_calls g a0 len cap B w2 HD2.out).mono ?_
    rintro e w3 ⟨t, ht, rfl, hs3, ho3⟩
    have HO3 := Lib.hid (HO2.out.trans ho3)
    have HS3 := Lib.hid (HD2.out.only ho3 hs3)
    have HT := Lib.hid ht
    have OW := Lib.hid (Strs.only (Strs.only HK.out.own hgw HX2.out) hgw ho3)
    have hw3 : w.heap.size ≤ w3.heap.size := HO3.out.size
    have hl6 : ls.length ≤ 6 := by have := HK.out.le; omega
    clear hs3 ho3 ht
    go_wp2_with (at_builtin; refine wp_putS (.tmp 11) (.tmp 14) t w.heap.size v ls rfl rfl rfl OW.out rfl (by omega) (by omega) ?_; intro v4 w4 s4 b4; have S4 := Lib.hid s4; have HB4 := Lib.hid b4; clear s4 b4)
    go_ret
    have ho : Only g w w4 := ⟨HB4.out.os.trans HO3.out.os, HB4.out.tape.trans HO3.out.tape, HB4.out.output.trans HO3.out.output, Nat.le_trans HO3.out.size HB4.out.size, fun k h1 h2 => (HB4.out.block k h1).trans (HO3.out.block k h1 h2)⟩
    refine ⟨_, _, rfl, by rw [List.length_append]; show _ + 1 ≤ 100; omega, H.out.only ho (HS3.out.src.below2 (HB4.out.mono hgw)), ho, spt.Strs.txs S4.out (by simp), fun x hx => ?_⟩
    rcases List.mem_append.1 hx with hx | hx
    · exact HK.out.few x hx
    · have := List.mem_singleton.1 hx
      rw [this]; exact HT.out
  · have d0 : ((c : Int) == 0) = false := by simpa using h0
    by_cases h1 : c = 1
    · subst h1
      go_wp2_with fail
      go_loopw [3, 4, 18, 19, 20, 21, 22, 23, 24, 25, 26, 27, 28, 29] (fun v vi _ _ _ _ _ _ _ _ _ _ _ _ wr => ∃ (i : Nat) (ls : List Bs), vi = .int .i64 (i : Nat) ∧ i ≤ 62 ∧ Kq g a0 len cap B w wr (6 + i) v ls) (fun _ vi _ _ _ _ _ _ _ _ _ _ _ _ _ => 62 - (intOf vi).toNat)
      case atStart => exact ⟨0, ls, rfl, by omega, by have := HK.out.le; omega, HD2.out, HO2.out, Txs.only HK.out.txs hgw HX2.out, HK.out.few⟩
      case round =>
        obtain ⟨i, ls, rfl, hi, L⟩ := hrel
        have HL := Lib.hid L
        have hle := L.le
        clear L
        go_wp2_with fail
        refine (n_le g a0 len cap B 3 (by omega) (by omega) _ HL.out.sd).mono ?_
        rintro e w4 ⟨⟨m, hm, rfl⟩, hd4, ho4⟩
        have HD4 := Lib.hid hd4
        have HO4 := Lib.hid ho4
        clear hd4 ho4
        have wm : IntKind.i64.wrap (59 + (m : Int)) = 59 + (m : Int) := by rw [IntKind.wrap_i64]; omega
        by_cases hlt : i < 59 + m
        · have d1 : decide ((i : Int) < 59 + (m : Int)) = true := decide_eq_true (by omega)
          have DC := Lib.hid (fun w => dec_calls i (by omega) w)
          obtain ⟨D, hD⟩ : ∃ D, D = decR i := ⟨_, rfl⟩
          have hDl : D.length ≤ 7 := by rw [hD]; exact decR_len i (by omega)
          rw [← hD] at DC
          have hsz : w.heap.size ≤ w4.heap.size := Nat.le_trans HL.out.only.size HO4.out.size
          clear hD
          go_wp2_with fail
          refine (DC.out _).mono ?_
          rintro e w5 ⟨rfl, hb5⟩
          have HB5 := Lib.hid hb5
          have hz5 := hb5.size
          clear hb5
          go_wp2_with fail
          have ec : Value.string ((⟨#[107]⟩ : ByteArray) ++ ⟨D.toArray⟩) = str (107 :: D) := by
            show Value.string _ = Value.string _
            congr 1
          rw [ec]
          refine (spt.put_calls _ ls (107 :: D) w.heap.size w5 (spt.Txs.below (Txs.only HL.out.txs hgw HO4.out) HB5.out) (by omega) (by omega)).mono ?_
          rintro e w6 ⟨v', rfl, htx, hb6⟩
          have HQ := Lib.hid (HL.out.put (t := 107 :: D) (by simp; omega) (HO4.out.trans (Only.of_below HB5.out)) (drt.Sd.below HD4.out HB5.out) hb6 htx)
          clear htx hb6
          go_wp2_with fail
          go_roundw
          case rel => exact ⟨i + 1, put ls (107 :: D), by go_num, by omega, by have := HQ.out; rw [show 6 + (i + 1) = 6 + i + 1 by omega]; exact this⟩
          case measure => simp [intOf]; omega
        · have d1 : decide ((i : Int) < 59 + (m : Int)) = false := decide_eq_false (by omega)
          go_wp2_with fail
          go_ret
          exact ⟨_, ls, rfl, by omega, HD4.out, HL.out.only.trans HO4.out, Txs.only HL.out.txs hgw HO4.out, HL.out.few⟩
    · have d1 : ((c : Int) == 1) = false := by simp; omega
      go_wp2_with fail
      go_ret
      exact ⟨_, ls, rfl, by have := HK.out.le; omega, HD2.out, HO2.out, Txs.only HK.out.txs hgw HX2.out, HK.out.few⟩

theorem kid_len {T k : Tm} (h : k ∈ T.kids) : k.tx.length ≤ T.tx.length := by
  cases T <;> simp [Tm.kids] at h <;> (try rcases h with rfl | rfl) <;> (try subst h) <;> simp [Tm.tx, say] <;> omega
theorem args_len {T : Tm} {x : Bs} (h : x ∈ nodeArgs T) : x.length ≤ T.tx.length := by
  unfold nodeArgs at h
  split at h
  · rw [List.mem_singleton.1 h]; exact Nat.le_refl _
  · obtain ⟨k, hk, rfl⟩ := List.mem_map.1 h
    exact kid_len hk
theorem args_ne (T : Tm) : nodeArgs T ≠ [] := by
  cases T <;> simp [nodeArgs, Tm.isAtom, Tm.kids]

/-- A text that was drawn. -/
def Nr (g : Nat) (a0 : Option Addr) (len cap B : Nat) (w : World) (e : Ending) (w' : World) : Prop :=
  ∃ s : Bs, s.length ≤ 3000 ∧ e = .returned (str s) ∧ Sd w' g a0 len cap B ∧ Only g w w'

set_option maxHeartbeats 4000000 in
set_option maxRecDepth 100000 in
theorem near_calls (g : Nat) (a0 : Option Addr) (len cap B : Nat) (v : Value) (ls : List Bs) (B2 : Nat) (w : World) (h : Sd w g a0 len cap B) (htx : Txs w B2 v ls) (hg : g < B2) (hl : ls.length ≤ 1000) (hs : ∀ x ∈ ls, x.length ≤ 1000) :
    Calls Tryz.prog 39 #[.pointer (some ⟨g, 0, none⟩), v] w (Nr g a0 len cap B w) := by
  obtain ⟨b, off, c0, rfl, hB2, hb, hcap, hc⟩ := htx
  obtain ⟨n, hn⟩ : ∃ n, n = ls.length := ⟨_, rfl⟩
  have H := Lib.hid h
  have HC := Lib.hid hc
  have HN := Lib.hid hn
  have HL := Lib.hid hs
  rw [← hn] at hcap hl ⊢
  clear h hc hn hs
  by_cases h0 : n = 0
  · subst h0
    go_enter Tryz.func39, Tryz.ntmps39
    go_wp2_with fail
    refine (term_calls g a0 len cap B w H.out).mono ?_
    rintro e w1 ⟨t, ht, rfl, hs1, ho1⟩
    have HS1 := Lib.hid (H.out.only ho1 hs1)
    have HO1 := Lib.hid ho1
    have HT := Lib.hid ht
    clear hs1 ho1 ht
    go_wp2_with fail
    go_ret
    exact ⟨t, by have := HT.out; omega, rfl, HS1.out, HO1.out⟩
  have d0 : ((n : Int) == 0) = false := by simpa using h0
  go_enter Tryz.func39, Tryz.ntmps39
  go_wp2_with fail
  refine (one_le g a0 len cap B 5 (by omega) (by omega) w H.out).mono ?_
  rintro e w1 ⟨⟨y, rfl⟩, hs1, ho1⟩
  have HS1 := Lib.hid hs1
  have HO1 := Lib.hid ho1
  clear hs1 ho1
  cases y with
  | true =>
    go_wp2_with fail
    refine (term_calls g a0 len cap B w1 HS1.out).mono ?_
    rintro e w2 ⟨t, ht, rfl, hs2, ho2⟩
    have HS2 := Lib.hid (HS1.out.only ho2 hs2)
    have HO2 := Lib.hid (HO1.out.trans ho2)
    have HT := Lib.hid ht
    clear hs2 ho2 ht
    go_wp2_with fail
    go_ret
    exact ⟨t, by have := HT.out; omega, rfl, HS2.out, HO2.out⟩
  | false =>
  go_wp2_with fail
  refine (n_le g a0 len cap B n (by omega) (by omega) w1 HS1.out).mono ?_
  rintro e w2 ⟨⟨i, hi, rfl⟩, hs2, ho2⟩
  have HS2 := Lib.hid hs2
  have HO2 := Lib.hid (HO1.out.trans ho2)
  clear hs2 ho2
  obtain ⟨x, hx⟩ : ∃ x, ls[i]? = some x := ⟨_, List.getElem?_eq_getElem (by have := HN.out; omega)⟩
  have hxl : x.length ≤ 1000 := HL.out x (List.mem_of_getElem? hx)
  have c1 : w2.cell? ⟨b, off + i, none⟩ = some (str x) := (World.cell?_of_block (HO2.out.block b hb (by omega))).trans (HC.out i x hx)
  have hin : (i : Int) < n := by omega
  have TR := Lib.hid (fun w => srt.specTermRight_calls ⟨x.toArray⟩ (by unfold maxLen; show x.toArray.size ≤ _; simp; omega) w)
  clear hx
  go_wp2_with fail
  refine (TR.out _).mono ?_
  rintro e w3 ⟨rfl, hb3⟩
  have HS3 := Lib.hid (drt.Sd.below HS2.out hb3)
  have HO3 := Lib.hid (HO2.out.trans (Only.of_below hb3))
  clear hb3 TR c1
  cases hT : term x with
  | none =>
    have e1 : (term (ByteArray.mk x.toArray).data.toList).isSome = false := by show (term x).isSome = false; rw [hT]; rfl
    clear hT
    go_wp2_with fail
    go_ret
    exact ⟨x, by omega, rfl, HS3.out, HO3.out⟩
  | some T =>
    have e1 : (term (ByteArray.mk x.toArray).data.toList).isSome = true := by show (term x).isSome = true; rw [hT]; rfl
    obtain ⟨q1, q2, q3, rfl⟩ := term_some.1 hT
    have ND := Lib.hid (fun w => spt.node_tx T q2 (by omega) w)
    have AL := Lib.hid (fun y (hy : y ∈ nodeArgs T) => args_len hy)
    have hA9 : (nodeArgs T).length ≤ 9 := by cases T <;> simp [nodeArgs, Tm.isAtom, Tm.kids]
    obtain ⟨A, hA⟩ : ∃ A, A = nodeArgs T := ⟨_, rfl⟩
    have hAne : A.length ≠ 0 := by rw [hA]; simpa using args_ne T
    rw [← hA] at AL hA9
    have ND2 := Lib.hid (fun w => (by have := ND.out w; rw [← hA] at this; exact this : Calls Tryz.prog 53 #[str T.tx] w fun e w' => ∃ v, e = .returned (.agg #[str T.op, v]) ∧ Below w.heap.size w w' ∧ Txs w' w.heap.size v A))
    obtain ⟨X, hX⟩ : ∃ X, X = T.tx := ⟨_, rfl⟩
    rw [← hX] at ND2 AL e1 hxl ⊢
    clear hT q1 q2 q3 ND hA hX
    go_wp2_with fail
    refine (ND2.out _).mono ?_
    rintro e w4 ⟨v, rfl, hb4, hv4⟩
    obtain ⟨b4, o4, c4, rfl, hB4, hl4, hcap4, hc4⟩ := hv4
    have HS4 := Lib.hid (drt.Sd.below HS3.out hb4)
    have HO4 := Lib.hid (HO3.out.trans (Only.of_below hb4))
    have HC4 := Lib.hid hc4
    obtain ⟨m, hm⟩ : ∃ m, m = A.length := ⟨_, rfl⟩
    rw [← hm] at hAne hcap4 hA9
    have HM := Lib.hid hm
    have hz3 := HO3.out.size
    clear hb4 hc4 ND2
    have k4 := heap_alloc_new w4 (.cells #[str T.op, .slice (some ⟨b4, o4, none⟩) A.length c4] 72)
    have HO4b := Lib.hid (HO4.out.trans (Only.alloc' w4 (.cells #[str T.op, .slice (some ⟨b4, o4, none⟩) A.length c4] 72) g))
    have hgb4 : g < b4 := by have := HS3.out.lt; omega
    have hg4 : g < w4.heap.size := by omega
    go_wp2_with fail
    refine (n_le g a0 len cap B 4 (by omega) (by omega) _ (HS4.out.alloc _)).mono ?_
    rintro e w5 ⟨⟨c, hc, rfl⟩, hs5, ho5⟩
    have k5 := (ho5.block w4.heap.size (by simp) (by omega)).trans k4
    have p0 : w5.cell? ⟨w4.heap.size, 0, none⟩ = some (str T.op) := by rw [cell_of_row w5 _ 0 _ _ (0, 0) k5]; rfl
    have p1 : w5.cell? ⟨w4.heap.size, 1, none⟩ = some (.slice (some ⟨b4, o4, none⟩) m c4) := by rw [cell_of_row w5 _ 1 _ _ (0, 0) k5, HM.out]; rfl
    have HS5 := Lib.hid hs5
    have HO5 := Lib.hid (HO4b.out.trans ho5)
    have HA5 := Lib.hid (fun j y (hj : A[j]? = some y) => ((World.cell?_of_block ((ho5.block b4 (by simp; omega) (by omega)).trans (Below.heap_alloc _ _ _ hl4))).trans (HC4.out j y hj) : w5.cell? ⟨b4, o4 + j, none⟩ = some (str y)))
    have HL5 := Lib.hid (fun j y (hj : ls[j]? = some y) => ((World.cell?_of_block (HO5.out.block b hb (by omega))).trans (HC.out j y hj) : w5.cell? ⟨b, off + j, none⟩ = some (str y)))
    clear k4 k5 hs5 ho5 hz3
    by_cases h0c : c = 0
    · subst h0c
      have SY := Lib.hid (fun w c0 => ssy.say_one oHash X w5.heap.size 0 1 w c0 (by decide) (by omega))
      unfold oHash at SY
      go_wp2_with fail
      refine (SY.out _ (by simp [go_sem])).mono ?_
      rintro e w6 ⟨rfl, hb6⟩
      have HB6 := Lib.hid (((Below.refl _ w5).alloc (Nat.le_refl _) (.cells #[str X] 9)).trans (hb6.mono (by simp)))
      clear hb6
      go_wp2_with fail
      go_ret
      exact ⟨_, by simp [say]; omega, rfl, drt.Sd.below HS5.out HB6.out, HO5.out.trans (Only.of_below HB6.out)⟩
    have e0c : ((c : Int) == 0) = false := by simpa using h0c
    by_cases h1c : c = 1
    · subst h1c
      have hAl : 0 < A.length := by have := HM.out; omega
      obtain ⟨y, hy⟩ : ∃ y, A[A.length - 1]? = some y := ⟨_, List.getElem?_eq_getElem (by omega)⟩
      have hyl : y.length ≤ 1000 := by have := AL.out y (List.mem_of_getElem? hy); omega
      have c5 := HA5.out (A.length - 1) y hy
      clear hy
      go_wp2_with fail
      go_ret
      exact ⟨y, by omega, rfl, HS5.out, HO5.out⟩
    have e1c : ((c : Int) == 1) = false := by simp; omega
    by_cases h2c : c = 2
    · subst h2c
      obtain ⟨y, hy⟩ : ∃ y, ls[0]? = some y := ⟨_, List.getElem?_eq_getElem (by have := HN.out; omega)⟩
      have hyl : y.length ≤ 1000 := HL.out y (List.mem_of_getElem? hy)
      have c5 := HL5.out 0 y hy
      rw [Nat.add_zero] at c5
      have hn0 : (0 : Int) < n := by omega
      have SY := Lib.hid (fun w c0 c1 => ssy.say_two oPair X y w5.heap.size 0 2 w c0 c1 (by decide) (by omega) (by omega))
      unfold oPair at SY
      clear hy
      go_wp2_with fail
      refine (SY.out _ (by simp [go_sem]) (by simp [go_sem])).mono ?_
      rintro e w6 ⟨rfl, hb6⟩
      have HB6 := Lib.hid (((Below.refl _ w5).alloc (Nat.le_refl _) (.cells #[str X, str y] 9)).trans (hb6.mono (by simp)))
      clear hb6
      go_wp2_with fail
      go_ret
      exact ⟨_, by simp [say]; omega, rfl, drt.Sd.below HS5.out HB6.out, HO5.out.trans (Only.of_below HB6.out)⟩
    have e2c : ((c : Int) == 2) = false := by simp; omega
    obtain ⟨y, hy⟩ : ∃ y, A[0]? = some y := ⟨_, List.getElem?_eq_getElem (by have := HM.out; omega)⟩
    have hyl : y.length ≤ 1000 := by have := AL.out y (List.mem_of_getElem? hy); omega
    have c5 := HA5.out 0 y hy
    rw [Nat.add_zero] at c5
    have hm0 : (0 : Int) < m := by omega
    clear hy
    go_wp2_with fail
    go_ret
    exact ⟨y, by omega, rfl, HS5.out, HO5.out⟩

theorem start {a0 : Option Addr} {len cap : Nat} {w w1 : World} (hr : Rd w w.heap.size a0 len) (hs : Src w1 w.heap.size a0 len cap) (hb : Below w.heap.size w w1) (hz : w.heap.size < w1.heap.size) : Sd w1 w.heap.size a0 len cap w.heap.size :=
  ⟨hs, hr.below hb, Nat.le_refl _, hz⟩
theorem fin {w w1 w2 : World} (hb : Below w.heap.size w w1) (ho : Only w.heap.size w1 w2) : Below w.heap.size w w2 :=
  hb.trans (ho.below (Nat.le_refl _) hb.size)
theorem txs_rds {w : World} {B : Nat} {v : Value} {ls : List Bs} (h : Txs w B v ls) : Rds w v ls := by
  obtain ⟨g, off, cap, e, h1, h2, h3, h4⟩ := h
  exact .inr ⟨g, off, cap, e, h2, h4⟩

/-- A list that was drawn. -/
structure Dl (w : World) (v : Value) (ls : List Bs) : Prop where
  txs : Txs w 0 v ls
  len : ls.length ≤ 100
  each : ∀ x ∈ ls, x.length ≤ 1000
theorem Dl.below {w w' : World} {v : Value} {ls : List Bs} (h : Dl w v ls) (k : Below w.heap.size w w') : Dl w' v ls := ⟨spt.Txs.below h.txs k, h.len, h.each⟩
theorem Dl.rds {w : World} {v : Value} {ls : List Bs} (h : Dl w v ls) : Rds w v ls := txs_rds h.txs
theorem txs_zero {w : World} {B : Nat} {v : Value} {ls : List Bs} (h : Txs w B v ls) : Txs w 0 v ls := by
  obtain ⟨g, off, cap, e, h1, h2⟩ := h
  exact ⟨g, off, cap, e, Nat.zero_le _, h2⟩

set_option maxRecDepth 100000 in
theorem drawBuilds (a0 : Option Addr) (len cap : Nat) (w : World) (hr : Rd w w.heap.size a0 len) :
    Calls Tryz.prog 25 #[.slice a0 len cap] w fun e w' => ∃ v ls t, e = .returned (.tuple #[v, str t]) ∧ t.length ≤ 3000 ∧ Dl w' v ls ∧ Below w.heap.size w w' := by
  go_enter Tryz.func25, Tryz.ntmps25
  go_wp2_with fail
  refine (source_calls a0 len cap w hr).mono ?_
  rintro e w1 ⟨rfl, hs1, hb1, hz1⟩
  have D1 := Lib.hid (start hr hs1 hb1 hz1)
  have B1 := Lib.hid hb1
  clear hs1 hb1 hr
  go_wp2_with fail
  refine (known_calls w.heap.size a0 len cap w.heap.size w1 D1.out).mono ?_
  rintro e w2 ⟨v, ls, rfl, K⟩
  have HK := Lib.hid K
  have NR := Lib.hid (near_calls w.heap.size a0 len cap w.heap.size v ls w1.heap.size w2 K.sd K.txs hz1 (by have := K.le; omega) K.few)
  clear K hz1
  go_wp2_with fail
  refine NR.out.mono ?_
  rintro e w3 ⟨t, ht, rfl, hs3, ho3⟩
  have HT := Lib.hid ht
  have HO := Lib.hid (HK.out.only.trans ho3)
  have TX := Lib.hid (Txs.only HK.out.txs D1.out.lt ho3)
  clear ht hs3 ho3 NR
  go_wp2_with fail
  go_ret2
  exact ⟨v, ls, t, rfl, HT.out, ⟨txs_zero TX.out, HK.out.le, HK.out.few⟩, fin B1.out HO.out⟩

set_option maxRecDepth 100000 in
theorem drawKnows (a0 : Option Addr) (len cap : Nat) (w : World) (hr : Rd w w.heap.size a0 len) :
    Calls Tryz.prog 5 #[.slice a0 len cap] w fun e w' => ∃ v ls t, e = .returned (.tuple #[v, str t]) ∧ t.length ≤ 3000 ∧ Dl w' v ls ∧ Below w.heap.size w w' := by
  have DB := Lib.hid (drawBuilds a0 len cap w hr)
  clear hr
  go_enter Tryz.func5, Tryz.ntmps5
  go_wp2_with fail
  refine DB.out.mono ?_
  rintro e w1 ⟨v, ls, t, rfl, ht, hd, hb⟩
  have HT := Lib.hid ht
  have HD := Lib.hid hd
  have HB := Lib.hid hb
  clear ht hd hb
  go_wp2_with fail
  go_ret2
  exact ⟨v, ls, t, rfl, HT.out, HD.out, HB.out⟩

set_option maxRecDepth 100000 in
theorem drawLearned (a0 : Option Addr) (len cap : Nat) (w : World) (hr : Rd w w.heap.size a0 len) :
    Calls Tryz.prog 7 #[.slice a0 len cap] w fun e w' => ∃ v ls v' ls', e = .returned (.tuple #[v, v']) ∧ Dl w' v ls ∧ Dl w' v' ls' ∧ Below w.heap.size w w' := by
  go_enter Tryz.func7, Tryz.ntmps7
  go_wp2_with fail
  refine (source_calls a0 len cap w hr).mono ?_
  rintro e w1 ⟨rfl, hs1, hb1, hz1⟩
  have D1 := Lib.hid (start hr hs1 hb1 hz1)
  have B1 := Lib.hid hb1
  clear hs1 hb1 hr
  go_wp2_with fail
  refine (known_calls w.heap.size a0 len cap w.heap.size w1 D1.out).mono ?_
  rintro e w2 ⟨v, ls, rfl, K⟩
  have HK := Lib.hid K
  clear K
  go_wp2_with fail
  refine (known_calls w.heap.size a0 len cap w.heap.size w2 HK.out.sd).mono ?_
  rintro e w3 ⟨v', ls', rfl, K⟩
  have HL := Lib.hid K
  have TX := Lib.hid (Txs.only HK.out.txs hz1 K.only)
  clear K hz1
  go_wp2_with fail
  go_ret2
  exact ⟨v, ls, v', ls', rfl, ⟨txs_zero TX.out, HK.out.le, HK.out.few⟩, ⟨txs_zero HL.out.txs, HL.out.le, HL.out.few⟩, fin B1.out (HK.out.only.trans HL.out.only)⟩
end Go.Proofs.YtdikjmhnjlalbabGreat.dkk

/- lwWith of the laws: one more, at its place. The walk is that of l02Put (XSpp), which has the same text. -/
namespace Go.Proofs.YtdikjmhnjlalbabGreat.spt
open Go.RowKit Go.Proofs.YtdikjmhnjlalbabGreat.tm Go.Proofs.YtdikjmhnjlalbabGreat.lib Go.Proofs.YtdikjmhnjlalbabGreat.rdr Go.Proofs.YtdikjmhnjlalbabGreat.bld Go.Proofs.YtdikjmhnjlalbabGreat.app Go.Proofs.YtdikjmhnjlalbabGreat.snd Go.Proofs.YtdikjmhnjlalbabGreat.sop Go.Proofs.YtdikjmhnjlalbabGreat.ato
set_option linter.unusedVariables false

set_option maxHeartbeats 1000000 in
set_option maxRecDepth 100000 in
theorem with_calls (v : Value) (ls : List Bs) (t : Bs) (B : Nat) (w : World) (h : Txs w B v ls) (hB : B ≤ w.heap.size) (hl : ls.length ≤ 100000) :
    Calls Tryz.prog 19 #[v, str t] w fun e w' => ∃ v', e = .returned v' ∧ Txs w' B v' (put ls t) ∧ (Strs w B v ls → Strs w' B v' (put ls t)) ∧ Below w.heap.size w w' := by
  obtain ⟨g, off, cap, rfl, hBg, hg, hcap, hc⟩ := h
  obtain ⟨n, hn⟩ : ∃ n, n = ls.length := ⟨_, rfl⟩
  have HC := Lib.hid hc
  have HN := Lib.hid hn
  rw [← hn] at hcap hl ⊢
  clear hc hn
  go_enter Tryz.func19, Tryz.ntmps19
  go_wp2_with fail
  go_loop [5, 7, 8, 9, 10, 11, 12, 13, 14, 15, 16, 17, 18, 19, 20] (fun vk _ _ _ _ _ _ _ _ _ _ _ _ _ _ => ∃ k : Nat, k ≤ n ∧ vk = .int .i64 k ∧ ∀ j, j < k → ∀ x, ls[j]? = some x → x < t) (fun vk _ _ _ _ _ _ _ _ _ _ _ _ _ _ => n - (intOf vk).toNat)
  case atStart => exact ⟨0, Nat.zero_le _, rfl, fun j hj => by omega⟩
  case round =>
    obtain ⟨k, hk, rfl, hall⟩ := hrel
    have HA := Lib.hid hall
    clear hall
    by_cases hlt : k < n
    · obtain ⟨x, hx⟩ : ∃ x, ls[k]? = some x := ⟨_, List.getElem?_eq_getElem (by have := HN.out; omega)⟩
      have c1 : w.cell? ⟨g, off + k, none⟩ = some (str x) := HC.out k x hx
      have HX := Lib.hid hx
      by_cases hxt : x < t
      · have b1 : Op.bytesLess x t = true := by rw [bytesLess_eq]; simpa using hxt
        have HXT := Lib.hid hxt
        clear hx hxt
        go_wp2_with fail
        go_round
        case rel =>
          refine ⟨k + 1, by omega, by go_num, fun j hj y hy => ?_⟩
          by_cases e : j = k
          · subst e; rw [HX.out] at hy; cases hy; exact HXT.out
          · exact HA.out j (by omega) y hy
        case measure => simp [intOf]; omega
      · have b1 : Op.bytesLess x t = false := by rw [bytesLess_eq]; simpa using hxt
        have hp := put_at ls t k (by have := HN.out; omega) HA.out (fun y hy => by rw [HX.out] at hy; cases hy; exact hxt)
        rw [hx] at hp
        by_cases he : x = t
        · subst he
          rw [if_pos rfl] at hp
          have HP := Lib.hid hp
          have b2 : (x == x) = true := by simp
          clear hx hxt hp
          go_wp2_with fail
          go_ret
          exact ⟨.slice (some ⟨g, off, none⟩) n cap, rfl, by rw [HP.out]; exact ⟨g, off, cap, by rw [← HN.out], hBg, hg, by rw [← HN.out]; exact hcap, HC.out⟩, fun h => by rw [HP.out]; exact h, Below.refl _ _⟩
        · rw [if_neg (fun e => he (Option.some.inj e))] at hp
          have HP := Lib.hid hp
          have b2 : (x == t) = false := by rw [beq_eq_false_iff_ne]; exact he
          clear hx hxt hp he
          have hkc : k ≤ cap := by omega
          have g1 : (ls.take k).length = k := by rw [List.length_take]; have := HN.out; omega
          have g2 : ∀ j l, (ls.take k)[j]? = some l → (w.alloc (.cells #[] 9)).cell? ((⟨g, off, none⟩ : Addr).add j) = some (str l) := fun j l hj => by
            rw [Addr.add_lit, World.cell?_alloc_lt _ _ ⟨g, off + j, none⟩ hg]
            refine HC.out j l ?_
            have hj' : j < k := by rcases Nat.lt_or_ge j k with h | h; exact h; rw [List.getElem?_eq_none (by omega)] at hj; cases hj
            rw [List.getElem?_take_of_lt hj'] at hj
            exact hj
          have g3 : (ls.drop k).length = (n - k) := by rw [List.length_drop]; have := HN.out; omega
          have G1 := Lib.hid g1
          have G2 := Lib.hid g2
          have G3 := Lib.hid g3
          clear g1 g2 g3
          go_wp2_with (first
            | (at_builtin; refine wp_putN (.tmp 34) (.tmp 37) ⟨g, off, none⟩ k cap (ls.take k) w.heap.size _ [] rfl rfl rfl (sar.strs_empty _ _ (Nat.le_refl _)) rfl G1.out G2.out (by simp; omega) (by simp) ?_; intro v1 w1 s1 b1; rw [List.nil_append] at s1; have hz1 := b1.size; simp at hz1; have S1 := Lib.hid s1; have HB1 := Lib.hid (((Below.refl _ _).alloc (Nat.le_refl _) _).trans b1 : Below w.heap.size w w1); clear s1 b1)
            | (at_builtin; refine wp_putS (.tmp 39) (.tmp 41) t w.heap.size _ (ls.take k) rfl rfl rfl S1.out rfl (by rw [G1.out]; omega) (by omega) ?_; intro v2 w2 s2 b2; have hz2 := b2.size; have S2 := Lib.hid s2; have HB2 := Lib.hid (HB1.out.trans b2); clear s2 b2)
            | (at_builtin; refine wp_putN (.tmp 43) (.tmp 46) ⟨g, off + k, none⟩ (n - k) (cap - k) (ls.drop k) w.heap.size _ (ls.take k ++ [t]) rfl rfl rfl S2.out rfl G3.out ?_ (by rw [List.length_append, G1.out]; simp; omega) (by omega) ?_; rotate_left; intro v3 w3 s3 b3; have S3 := Lib.hid s3; have HB3 := Lib.hid (HB2.out.trans b3); clear s3 b3))
          · go_ret
            refine ⟨_, rfl, ?_, fun _ => (by rw [HP.out]; have h9 := S3.out; rw [List.append_assoc] at h9; exact own_base h9 hB), HB3.out⟩
            rw [HP.out]
            have := S3.out
            rw [List.append_assoc] at this
            obtain ⟨g', off', cap', e, h1, h2, h3, h4⟩ := Strs.txs this (by simp)
            exact ⟨g', off', cap', e, by omega, h2, h3, h4⟩
          · intro j l hj
            refine (HB2.out.cell (p := ⟨g, off + k + j, none⟩) hg).trans ?_
            rw [Nat.add_assoc]
            exact HC.out _ l (by simpa [List.getElem?_drop] using hj)
    · obtain rfl : k = n := by omega
      have hnone : ls[k]? = none := List.getElem?_eq_none (by rw [← HN.out]; exact Nat.le_refl _)
      have hp := put_at ls t k (by have := HN.out; omega) HA.out (fun y hy => by rw [hnone] at hy; cases hy)
      rw [hnone, if_neg (by intro e; cases e)] at hp
      have HP := Lib.hid hp
      clear hp hnone
      by_cases hck : cap = k
      · subst hck
        have hkc : cap ≤ cap := by omega
        have g1 : (ls.take cap).length = cap := by rw [List.length_take]; have := HN.out; omega
        have g2 : ∀ j l, (ls.take cap)[j]? = some l → (w.alloc (.cells #[] 9)).cell? ((⟨g, off, none⟩ : Addr).add j) = some (str l) := fun j l hj => by
          rw [Addr.add_lit, World.cell?_alloc_lt _ _ ⟨g, off + j, none⟩ hg]
          refine HC.out j l ?_
          have hj' : j < cap := by rcases Nat.lt_or_ge j cap with h | h; exact h; rw [List.getElem?_eq_none (by omega)] at hj; cases hj
          rw [List.getElem?_take_of_lt hj'] at hj
          exact hj
        have g3 : (ls.drop cap).length = 0 := by rw [List.length_drop]; have := HN.out; omega
        have G1 := Lib.hid g1
        have G2 := Lib.hid g2
        have G3 := Lib.hid g3
        clear g1 g2 g3
        go_wp2_with (first
          | (at_builtin; refine wp_putN (.tmp 34) (.tmp 37) ⟨g, off, none⟩ cap cap (ls.take cap) w.heap.size _ [] rfl rfl rfl (sar.strs_empty _ _ (Nat.le_refl _)) rfl G1.out G2.out (by simp; omega) (by simp) ?_; intro v1 w1 s1 b1; rw [List.nil_append] at s1; have hz1 := b1.size; simp at hz1; have S1 := Lib.hid s1; have HB1 := Lib.hid (((Below.refl _ _).alloc (Nat.le_refl _) _).trans b1 : Below w.heap.size w w1); clear s1 b1)
          | (at_builtin; refine wp_putS (.tmp 39) (.tmp 41) t w.heap.size _ (ls.take cap) rfl rfl rfl S1.out rfl (by rw [G1.out]; omega) (by omega) ?_; intro v2 w2 s2 b2; have hz2 := b2.size; have S2 := Lib.hid s2; have HB2 := Lib.hid (HB1.out.trans b2); clear s2 b2)
          | (at_builtin; refine wp_putN (.tmp 43) (.tmp 46) ⟨g, off, none⟩ 0 0 (ls.drop cap) w.heap.size _ (ls.take cap ++ [t]) rfl rfl rfl S2.out rfl G3.out ?_ (by rw [List.length_append, G1.out]; simp; omega) (by omega) ?_; rotate_left; intro v3 w3 s3 b3; have S3 := Lib.hid s3; have HB3 := Lib.hid (HB2.out.trans b3); clear s3 b3))
        · go_ret
          refine ⟨_, rfl, ?_, fun _ => (by rw [HP.out]; have h9 := S3.out; rw [List.append_assoc] at h9; exact own_base h9 hB), HB3.out⟩
          rw [HP.out]
          have := S3.out
          rw [List.append_assoc] at this
          obtain ⟨g', off', cap', e, h1, h2, h3, h4⟩ := Strs.txs this (by simp)
          exact ⟨g', off', cap', e, by omega, h2, h3, h4⟩
        · intro j l hj
          rw [List.getElem?_eq_none (by have := HN.out; omega)] at hj
          cases hj
      · have hck2 : k < cap := by omega
        have hkc : k ≤ cap := by omega
        have g1 : (ls.take k).length = k := by rw [List.length_take]; have := HN.out; omega
        have g2 : ∀ j l, (ls.take k)[j]? = some l → (w.alloc (.cells #[] 9)).cell? ((⟨g, off, none⟩ : Addr).add j) = some (str l) := fun j l hj => by
          rw [Addr.add_lit, World.cell?_alloc_lt _ _ ⟨g, off + j, none⟩ hg]
          refine HC.out j l ?_
          have hj' : j < k := by rcases Nat.lt_or_ge j k with h | h; exact h; rw [List.getElem?_eq_none (by omega)] at hj; cases hj
          rw [List.getElem?_take_of_lt hj'] at hj
          exact hj
        have g3 : (ls.drop k).length = 0 := by rw [List.length_drop]; have := HN.out; omega
        have G1 := Lib.hid g1
        have G2 := Lib.hid g2
        have G3 := Lib.hid g3
        clear g1 g2 g3
        go_wp2_with (first
          | (at_builtin; refine wp_putN (.tmp 34) (.tmp 37) ⟨g, off, none⟩ k cap (ls.take k) w.heap.size _ [] rfl rfl rfl (sar.strs_empty _ _ (Nat.le_refl _)) rfl G1.out G2.out (by simp; omega) (by simp) ?_; intro v1 w1 s1 b1; rw [List.nil_append] at s1; have hz1 := b1.size; simp at hz1; have S1 := Lib.hid s1; have HB1 := Lib.hid (((Below.refl _ _).alloc (Nat.le_refl _) _).trans b1 : Below w.heap.size w w1); clear s1 b1)
          | (at_builtin; refine wp_putS (.tmp 39) (.tmp 41) t w.heap.size _ (ls.take k) rfl rfl rfl S1.out rfl (by rw [G1.out]; omega) (by omega) ?_; intro v2 w2 s2 b2; have hz2 := b2.size; have S2 := Lib.hid s2; have HB2 := Lib.hid (HB1.out.trans b2); clear s2 b2)
          | (at_builtin; refine wp_putN (.tmp 43) (.tmp 46) ⟨g, off + k, none⟩ 0 (cap - k) (ls.drop k) w.heap.size _ (ls.take k ++ [t]) rfl rfl rfl S2.out rfl G3.out ?_ (by rw [List.length_append, G1.out]; simp; omega) (by omega) ?_; rotate_left; intro v3 w3 s3 b3; have S3 := Lib.hid s3; have HB3 := Lib.hid (HB2.out.trans b3); clear s3 b3))
        · go_ret
          refine ⟨_, rfl, ?_, fun _ => (by rw [HP.out]; have h9 := S3.out; rw [List.append_assoc] at h9; exact own_base h9 hB), HB3.out⟩
          rw [HP.out]
          have := S3.out
          rw [List.append_assoc] at this
          obtain ⟨g', off', cap', e, h1, h2, h3, h4⟩ := Strs.txs this (by simp)
          exact ⟨g', off', cap', e, by omega, h2, h3, h4⟩
        · intro j l hj
          rw [List.getElem?_eq_none (by have := HN.out; omega)] at hj
          cases hj
end Go.Proofs.YtdikjmhnjlalbabGreat.spt
