/- Contract of a gate's limit: its buckets in their order. -/
import Derived.Test.YtdikjmhnjlalbaaGac
import Derived.Test.YtdikjmhnjlalbaaShb
import Derived.Test.YtdikjmhnjlalbaaRds
import Derived.Laws.EntriesVeiled
namespace Go.Proofs.Ytdikjmhnjlalbaa.gli
open Go.RowKit Go.Sort Go.Maps Go.Proofs.Ytdikjmhnjlalbaa.tm Go.Proofs.Ytdikjmhnjlalbaa.lib Go.Proofs.Ytdikjmhnjlalbaa.rdr Go.Proofs.Ytdikjmhnjlalbaa.bld Go.Proofs.Ytdikjmhnjlalbaa.app Go.Proofs.Ytdikjmhnjlalbaa.mrk Go.Proofs.Ytdikjmhnjlalbaa.mrs Go.Proofs.Ytdikjmhnjlalbaa.ato Go.Proofs.Ytdikjmhnjlalbaa.gdp Go.Proofs.Ytdikjmhnjlalbaa.gdm Go.Proofs.Ytdikjmhnjlalbaa.rbk Go.Proofs.Ytdikjmhnjlalbaa.bkr Go.Proofs.Ytdikjmhnjlalbaa.gmp Go.Proofs.Ytdikjmhnjlalbaa.glh Go.Proofs.Ytdikjmhnjlalbaa.gac
set_option linter.unusedVariables false

theorem rise_sort {L Z : List Bs} (hp : Z.Perm L) (hn : L.Nodup) (hs : Z.Pairwise (· ≤ ·)) : Rise Z := by
  have hz : Z.Nodup := hp.nodup_iff.2 hn
  refine (List.Pairwise.and hs hz).imp fun {a b} h => ?_
  rcases lt_or a b with h1 | h1 | h1
  · exact h1
  · exact absurd h1 h.2
  · exact absurd (List.le_antisymm h.1 (Std.le_of_lt h1)) h.2

theorem got_mem {M : List Bk} (hn : (sts M).Nodup) {x : Bs} (hx : x ∈ sts M) : got M x ∈ M ∧ (got M x).st = x := by
  unfold sts at hx
  obtain ⟨c, hc, rfl⟩ := List.mem_map.1 hx
  unfold got
  rw [look_mem hn hc]
  exact ⟨hc, rfl⟩
theorem rows_got {M : List Bk} (hn : (sts M).Nodup) {S : List Bs} (hp : S.Perm (sts M)) : sts (S.map (got M)) = S ∧ ∀ c, c ∈ S.map (got M) ↔ c ∈ M := by
  constructor
  · unfold sts
    rw [List.map_map]
    have : S.map (Bk.st ∘ got M) = S.map id := List.map_congr_left fun x hx => (got_mem hn (hp.mem_iff.1 hx)).2
    rw [this, List.map_id]
  · intro c
    rw [List.mem_map]
    constructor
    · rintro ⟨x, hx, rfl⟩
      exact (got_mem hn (hp.mem_iff.1 hx)).1
    · intro hc
      refine ⟨c.st, hp.mem_iff.2 (List.mem_map.2 ⟨c, hc, rfl⟩), ?_⟩
      unfold got
      rw [look_mem hn hc]
      rfl

/-- The sorted streets of a map, at a call of slices.Sorted(maps.Keys(m)). -/
theorem sorted_streets {w : World} {b n : Nat} {M : List Bk} (h : Kmp w b n M) (hl : M.length ≤ 1000) :
    Calls Try.prog 74 #[.func (.func 85) #[] #[.pointer (some ⟨w.heap.size, 0, none⟩)]] (w.alloc (.cells #[.map (some b)] 76)) fun e w' =>
      ∃ v S, e = .returned v ∧ Below w.heap.size w w' ∧ Rds w' v S ∧ S.Perm (sts M) ∧ Rise S ∧ ∀ g off, (∃ n c, v = .slice (some ⟨g, off, none⟩) n c) → w.heap.size ≤ g ∧ g < w'.heap.size := by
  obtain ⟨D, hD, hv⟩ := h
  have hsz := size_view hD hv
  refine (shb.sorted_keys b n D _ w hD (by rw [hsz]; unfold maxLen; omega) (by rw [hsz]; omega)).mono ?_
  rintro e w' ⟨v, ss, rfl, hperm, hrow, _, hb⟩
  have hk := strKeys_view hD hv
  have pz : (ss.mergeSort (fun x y => decide (x ≤ y))).Perm (sts M) := (List.mergeSort_perm ss _).trans (hperm.trans hk.symm)
  have hs : Strs w' (w.alloc (.cells #[.map (some b)] 76)).heap.size v (ss.mergeSort (fun x y => decide (x ≤ y))) := by
    unfold Strs
    rw [List.length_mergeSort]
    exact hrow
  refine ⟨v, ss.mergeSort (fun x y => decide (x ≤ y)), rfl, (new1 _ _).trans (hb.mono (by simp)), (Strs.wrs hs).rds, pz, rise_sort pz hv.nd (ato.sorted ss), fun g off ⟨n', c', e⟩ => ?_⟩
  subst e
  rcases hs.2 with ⟨h1, _⟩ | ⟨g2, c2, cur, e2, hg2, hh2, _⟩
  · cases h1
  · cases e2
    have := (Array.getElem?_eq_some_iff.1 hh2).1
    simp at hg2
    omega

/-- Behind k streets. -/
structure Lg (M : List Bk) (S : List Bs) (w wr : World) (rate burst : Int) (b n : Nat) (v4 : Value) (o0 o1 : Obj) (B4 : Nat) (k : Nat) (v : Value) : Prop where
  le : k ≤ S.length
  bel : Below w.heap.size w wr
  lo : w.heap.size + 1 + 1 + 1 ≤ B4
  big : B4 ≤ wr.heap.size
  x0 : wr.heap[w.heap.size]? = some o0
  x1 : wr.heap[w.heap.size + 1]? = some o1
  x2 : wr.heap[w.heap.size + 1 + 1]? = some (.cells #[.int .i64 rate, .int .i64 burst, v] 36)
  map : Kmp wr b n M
  rds : Rds wr v4 S
  row : Bks wr B4 v ((S.take k).map (got M))

theorem alloc3 (w : World) (a b c : Obj) : (((w.alloc a).alloc b).alloc c).heap[w.heap.size]? = some a ∧ (((w.alloc a).alloc b).alloc c).heap[w.heap.size + 1]? = some b ∧ (((w.alloc a).alloc b).alloc c).heap[w.heap.size + 1 + 1]? = some c := by
  have h1 : ((w.alloc a).alloc b).heap[w.heap.size]? = some a := (Below.heap_alloc _ _ _ (by simp)).trans (heap_alloc_new w a)
  have h2 := heap_alloc_new (w.alloc a) b
  have h3 := heap_alloc_new ((w.alloc a).alloc b) c
  simp only [World.size_alloc] at h2 h3
  have k3 : ∀ i, i < w.heap.size + 1 + 1 → (((w.alloc a).alloc b).alloc c).heap[i]? = ((w.alloc a).alloc b).heap[i]? := fun i hi => Below.heap_alloc _ _ _ (by simp only [World.size_alloc]; exact hi)
  exact ⟨(k3 _ (by omega)).trans h1, (k3 _ (by omega)).trans h2, h3⟩

set_option maxHeartbeats 4000000 in
set_option maxRecDepth 100000 in
theorem limit_calls (F : FuncId) (rate burst : Int) (b p n : Nat) (M : List Bk) (w : World) (hm : Kmp w b n M) (hl : M.length ≤ 1000) (hs : ∀ c ∈ M, c.st.length ≤ 1000) :
    Calls Try.prog 52 #[.agg (gateA rate burst b F p)] w fun e w' => ∃ v R, e = .returned (.agg (lmA rate burst v)) ∧ Below w.heap.size w w' ∧ Bks w' w.heap.size v R ∧ Rise (sts R) ∧ ∀ c, c ∈ R ↔ c ∈ M := by
  unfold gateA clkV lmA
  have HSS := Lib.hid hs
  have hbw := hm.lt
  obtain ⟨a1, a2, a3⟩ := alloc3 w (.cells #[.int .i64 rate, .int .i64 burst, .map (some b), .func (.func F) #[] #[.pointer (some ⟨p, 0, none⟩)]] 79) (.cells #[.int .i64 0, .int .i64 0, .slice none 0 0] 36) (.cells #[.int .i64 rate, .int .i64 burst, .slice none 0 0] 36)
  have a4 := new3 w (.cells #[.int .i64 rate, .int .i64 burst, .map (some b), .func (.func F) #[] #[.pointer (some ⟨p, 0, none⟩)]] 79) (.cells #[.int .i64 0, .int .i64 0, .slice none 0 0] 36) (.cells #[.int .i64 rate, .int .i64 burst, .slice none 0 0] 36)
  have a5 : (((w.alloc (.cells #[.int .i64 rate, .int .i64 burst, .map (some b), .func (.func F) #[] #[.pointer (some ⟨p, 0, none⟩)]] 79)).alloc (.cells #[.int .i64 0, .int .i64 0, .slice none 0 0] 36)).alloc (.cells #[.int .i64 rate, .int .i64 burst, .slice none 0 0] 36)).heap.size = w.heap.size + 1 + 1 + 1 := by simp
  have Q := And.intro a1 (And.intro a2 (And.intro a3 (And.intro a4 a5)))
  clear a1 a2 a3 a4 a5 hs
  go_enter Try.func52, Try.ntmps52
  go_wp2_with fail
  generalize hW : (((w.alloc (.cells #[.int .i64 rate, .int .i64 burst, .map (some b), .func (.func F) #[] #[.pointer (some ⟨p, 0, none⟩)]] 79)).alloc (.cells #[.int .i64 0, .int .i64 0, .slice none 0 0] 36)).alloc (.cells #[.int .i64 rate, .int .i64 burst, .slice none 0 0] 36)) = W at Q
  obtain ⟨x0, x1, x2, kW, zW⟩ := Q
  have hmW := hm.below kW hbw
  have ss := sorted_streets hmW hl
  rw [zW] at ss
  have SS := Lib.hid ss
  have X0 := Lib.hid x0
  have X1 := Lib.hid x1
  have X2 := Lib.hid x2
  have KW := Lib.hid kW
  have HMW := Lib.hid hmW
  have HND := Lib.hid hm.nd
  clear hW x0 x1 x2 kW hmW hm ss
  refine (shb.keys_calls _ _).mono ?_
  rintro e w3 ⟨rfl, rfl⟩
  go_wp2_with fail
  refine SS.out.mono ?_
  rintro e w4 ⟨v4, S, rfl, hb4, hr4, hp4, hri, hfar⟩
  obtain ⟨ad4, c4, rfl⟩ := (show ∃ a c, v4 = .slice a S.length c from by rcases hr4 with ⟨rfl, a, c, e⟩ | ⟨g, off, cap, e, _⟩; exact ⟨a, c, e⟩; exact ⟨_, _, e⟩)
  have HR4 := Lib.hid hr4
  have HP4 := Lib.hid hp4
  have HRI := Lib.hid hri
  have HB4 := Lib.hid hb4
  have HFAR := Lib.hid hfar
  have hSl : S.length = M.length := by rw [hp4.length_eq]; simp [sts]
  clear hb4 hr4 hp4 hri SS hfar
  obtain ⟨N, hN⟩ : ∃ N, N = S.length := ⟨_, rfl⟩
  rw [← hN]
  have HN := Lib.hid hN
  have hNl : N ≤ 1000 := by omega
  clear hN hSl
  go_wp2_with fail
  go_loopw [5, 16, 17, 18, 19, 20, 21, 22, 23, 24, 25, 26, 27, 28, 29] (fun _ vk _ _ _ _ _ _ _ _ _ _ _ _ _ wr => ∃ (k : Nat) (v : Value), vk = .int .i64 (k : Nat) ∧ Lg M S w wr rate burst b n (.slice ad4 N c4) (.cells #[.int .i64 rate, .int .i64 burst, .map (some b), .func (.func F) #[] #[.pointer (some ⟨p, 0, none⟩)]] 79) (.cells #[.int .i64 0, .int .i64 0, .slice none 0 0] 36) w4.heap.size k v) (fun _ vk _ _ _ _ _ _ _ _ _ _ _ _ _ _ => N - (intOf vk).toNat)
  case atStart =>
    have z := HB4.out.size
    refine ⟨0, _, rfl, Nat.zero_le _, KW.out.trans (HB4.out.mono (by omega)), by omega, Nat.le_refl _, (HB4.out.block _ (by omega)).trans X0.out, (HB4.out.block _ (by omega)).trans X1.out, (HB4.out.block _ (by omega)).trans X2.out, HMW.out.below HB4.out (by have := HMW.out.lt; omega), by rw [HN.out]; exact HR4.out, ?_⟩
    rw [List.take_zero]
    exact Bks.nil _ _
  case round =>
    obtain ⟨k, v, rfl, hL⟩ := hrel
    have hk : k ≤ N := by have := hL.le; have := HN.out; omega
    have HL := Lib.hid hL
    obtain ⟨g0, g1, g2, g3, gz⟩ := four hL.x0
    obtain ⟨q0, q1, q2, qz⟩ := three hL.x2
    have qf : ∀ o, wr.frozen? ⟨w.heap.size + 1 + 1, o, none⟩ = false := fun o => by simp [World.frozen?, hL.x2]
    by_cases hlt : k < N
    · obtain ⟨x, hx⟩ : ∃ x, S[k]? = some x := ⟨_, List.getElem?_eq_getElem (by have := HN.out; omega)⟩
      rcases hL.rds with ⟨h0, _⟩ | ⟨g, off, cap', e, hg, hc⟩
      · rw [h0] at hx; simp at hx
      have s0 := hc k x hx
      have hxm := HP4.out.mem_iff.1 (List.mem_of_getElem? hx)
      obtain ⟨hgm, hgs⟩ := got_mem HND.out hxm
      have hxl : x.length ≤ maxLen := by have := HSS.out _ hgm; rw [hgs] at this; unfold maxLen; omega
      have hbk : bkV (got M x) = .agg #[str (got M x).st, .int .i64 (got M x).left, .int .i64 (got M x).at_] := rfl
      have KM := Lib.hid hL.map
      have KR := Lib.hid hL.row
      have hrl : ((S.take k).map (got M)).length + 1 ≤ 1000000 := by rw [List.length_map, List.length_take]; omega
      have hB : w4.heap.size ≤ wr.heap.size := hL.big
      have hlo := hL.lo
      have HX := Lib.hid hx
      simp only [Value.slice.injEq] at e
      obtain ⟨e1, e2, e3⟩ := e
      subst e1
      clear hL hx hc hgm hgs hxm e2 e3
      go_wp2_with (first
        | (at_lookup; refine wp_look (.tmp 23) (.tmp 24) b n M x rfl rfl rfl rfl KM.out hxl ?_; rw [hbk])
        | (at_builtin; refine wp_putB (.tmp 21) (.tmp 26) (got M x) w4.heap.size v ((S.take k).map (got M)) rfl rfl rfl KR.out rfl hrl hB ?_; intro v' w' hv' hb'; obtain ⟨va, vn, vc, rfl⟩ : ∃ a n c, v' = .slice a n c := ⟨_, _, _, hv'.wbk.rbk.form.choose_spec.choose_spec⟩; have HV' := Lib.hid hv'; have HB' := Lib.hid hb'; have q2' := (hb'.cell (p := ⟨w.heap.size + 1 + 1, 2, none⟩) (by simp; omega)).trans q2; have qf' := (hb'.frozen (p := ⟨w.heap.size + 1 + 1, 2, none⟩) (by simp; omega)).trans (qf 2); clear hv' hb'))
      have X2' := (HB'.out.block _ (by omega)).trans HL.out.x2
      have z' := HB'.out.size
      have O2 : Only (w.heap.size + 1 + 1) w' (w'.setCell ⟨w.heap.size + 1 + 1, 2, none⟩ (.slice va vn vc)) := Only.setCell 2 _
      have hbnd := HL.out.map.lt
      clear g0 g1 g2 g3 q0 q1 q2 q2' qf qf' s0
      go_roundw
      case rel =>
        have X2s := heap_setCell_same w' (w.heap.size + 1 + 1) 2 _ _ (.slice va vn vc) X2'
        have z2 : (w'.setCell ⟨w.heap.size + 1 + 1, 2, none⟩ (.slice va vn vc)).heap.size = w'.heap.size := by simp [World.setCell]
        refine ⟨k + 1, .slice va vn vc, by simp, by have := HN.out; omega, (HL.out.bel.trans (HB'.out.mono (by have := HL.out.bel.size; omega))).setCell (by simp; omega) _, hlo, by rw [z2]; omega, ?_, ?_, X2s, ?_, ?_, ?_⟩
        · rw [O2.block _ (by omega) (by omega)]; exact (HB'.out.block _ (by omega)).trans HL.out.x0
        · rw [O2.block _ (by omega) (by omega)]; exact (HB'.out.block _ (by omega)).trans HL.out.x1
        · exact (HL.out.map.same (HB'.out.block _ (by omega))).same (O2.block _ (by omega) (by omega))
        · obtain ⟨f1, f2⟩ := HFAR.out g off ⟨_, _, rfl⟩
          have hgw : g < w'.heap.size := by omega
          have hq : (w'.setCell ⟨w.heap.size + 1 + 1, 2, none⟩ (.slice va vn vc)).heap[g]? = wr.heap[g]? := by
            rw [O2.block g hgw (by omega)]
            exact HB'.out.block g f2
          rcases HL.out.rds with ⟨h0, h1⟩ | ⟨g', off', cap2, e', hg', hc'⟩
          · exact .inl ⟨h0, h1⟩
          · have eg : g' = g := by
              simp only [Value.slice.injEq, Option.some.injEq, Addr.mk.injEq] at e'
              exact e'.1.1.symm
            subst eg
            exact .inr ⟨g', off', cap2, e', by rw [z2]; exact hgw, fun j y hj => (World.cell?_of_block hq).trans (hc' j y hj)⟩
        · have hr := HV'.out
          have e1 : (S.take (k + 1)).map (got M) = (S.take k).map (got M) ++ [got M x] := by rw [List.take_add_one, HX.out]; simp
          rw [e1]
          refine ⟨hr.1, ?_⟩
          rcases hr.2 with h2 | ⟨gg, cc, cur, e3, hg3, hh3, r3⟩
          · exact .inl h2
          · refine .inr ⟨gg, cc, cur, e3, hg3, ?_, r3⟩
            rw [O2.block _ (Array.getElem?_eq_some_iff.1 hh3).1 (by omega)]
            exact hh3
      case measure => simp [intOf]; omega
    · obtain rfl : k = N := by omega
      obtain ⟨r0, r1, r2, rz⟩ := three hL.x1
      have rf : ∀ o, wr.frozen? ⟨w.heap.size + 1, o, none⟩ = false := fun o => by simp [World.frozen?, hL.x1]
      obtain ⟨va, vn, vc, rfl⟩ : ∃ a n c, v = .slice a n c := ⟨_, _, _, hL.row.wbk.rbk.form.choose_spec.choose_spec⟩
      clear hL
      go_wp2_with fail
      obtain ⟨hst, hmem⟩ := rows_got HND.out HP4.out
      have hrow := HL.out.row
      rw [List.take_of_length_le (by have := HN.out; omega)] at hrow
      refine bodyPost_ret (v := .agg #[.int .i64 rate, .int .i64 burst, .slice va vn vc]) (by simp [results, Try.results52, go_sem, r0, r1, r2]) rfl ⟨_, S.map (got M), rfl, ((HL.out.bel.setCell (by simp) _).setCell (by simp) _).setCell (by simp) _, ?_, by rw [hst]; exact HRI.out, hmem⟩
      have hb1 := HL.out.big
      have hb2 := HL.out.lo
      refine Bks.base (B := w4.heap.size) ⟨hrow.1, ?_⟩ (by omega)
      rcases hrow.2 with h2 | ⟨gg, cc, cur, e3, hg3, hh3, r3⟩
      · exact .inl h2
      · refine .inr ⟨gg, cc, cur, e3, hg3, ?_, r3⟩
        rw [((((Only.setCell (b := w.heap.size + 1) 0 _).trans (Only.setCell 1 _)).trans (Only.setCell 2 _)).block _ (Array.getElem?_eq_some_iff.1 hh3).1 (by omega))]
        exact hh3
#print axioms limit_calls
end Go.Proofs.Ytdikjmhnjlalbaa.gli
