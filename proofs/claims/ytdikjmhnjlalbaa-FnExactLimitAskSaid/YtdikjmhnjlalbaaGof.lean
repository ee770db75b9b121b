/- Contract of gateOf: a limit as a gate, its buckets in a map. -/
import Derived.Test.YtdikjmhnjlalbaaGac
import Derived.Laws.EntriesVeiled
namespace Go.Proofs.Ytdikjmhnjlalbaa.gof
open Go.RowKit Go.Sort Go.Maps Go.Proofs.Ytdikjmhnjlalbaa.tm Go.Proofs.Ytdikjmhnjlalbaa.lib Go.Proofs.Ytdikjmhnjlalbaa.rdr Go.Proofs.Ytdikjmhnjlalbaa.bld Go.Proofs.Ytdikjmhnjlalbaa.app Go.Proofs.Ytdikjmhnjlalbaa.gdp Go.Proofs.Ytdikjmhnjlalbaa.gdm Go.Proofs.Ytdikjmhnjlalbaa.rbk Go.Proofs.Ytdikjmhnjlalbaa.bkr Go.Proofs.Ytdikjmhnjlalbaa.gmp Go.Proofs.Ytdikjmhnjlalbaa.glh Go.Proofs.Ytdikjmhnjlalbaa.gac
set_option linter.unusedVariables false

theorem clone_at (x : Bs) (hx : x.length ≤ 1000000) (w : World) : Calls Try.prog 51 #[str x] w fun e w' => e = .returned (str x) ∧ Below w.heap.size w w' :=
  clo.clone_calls ⟨x.toArray⟩ (by show x.toArray.size ≤ _; simpa using hx) w

theorem set_take {l : List Bk} {k : Nat} {x : Bk} (hn : (sts l).Nodup) (hx : l[k]? = some x) : gdm.set (l.take k) x = l.take (k + 1) := by
  have hk : k < l.length := (List.getElem?_eq_some_iff.1 hx).1
  unfold gdm.set del
  rw [List.filter_eq_self.2, List.take_add_one, hx]
  · rfl
  · intro b hb
    simp only [decide_eq_true_eq]
    intro e
    obtain ⟨j, hj, e2⟩ := List.getElem_of_mem hb
    have hj' : j < k := by simp at hj; omega
    rw [List.getElem_take] at e2
    have h1 : (sts l)[j]? = (sts l)[k]? := by
      simp only [sts, List.getElem?_map, hx, List.getElem?_eq_getElem (show j < l.length by omega), e2, Option.map_some, e]
    have := (List.getElem?_inj (by simpa [sts] using (show j < l.length by omega)) hn).1 h1
    omega

structure Gk (l : List Bk) (w wr : World) (k : Nat) (o0 o1 o3 : Obj) : Prop where
  le : k ≤ l.length
  bel : Below w.heap.size w wr
  x0 : wr.heap[w.heap.size]? = some o0
  x1 : wr.heap[w.heap.size + 1]? = some o1
  x3 : wr.heap[w.heap.size + 1 + 1 + 1]? = some o3
  map : Kmp wr (w.heap.size + 1 + 1) k (l.take k)

theorem alloc4 (w : World) (a b c d : Obj) : ((((w.alloc a).alloc b).alloc c).alloc d).heap[w.heap.size]? = some a ∧ ((((w.alloc a).alloc b).alloc c).alloc d).heap[w.heap.size + 1]? = some b ∧ ((((w.alloc a).alloc b).alloc c).alloc d).heap[w.heap.size + 1 + 1]? = some c ∧ ((((w.alloc a).alloc b).alloc c).alloc d).heap[w.heap.size + 1 + 1 + 1]? = some d := by
  have h1 : ((w.alloc a).alloc b).heap[w.heap.size]? = some a := (Below.heap_alloc _ _ _ (by simp)).trans (heap_alloc_new w a)
  have h2 := heap_alloc_new (w.alloc a) b
  have h3 := heap_alloc_new ((w.alloc a).alloc b) c
  have h4 := heap_alloc_new (((w.alloc a).alloc b).alloc c) d
  simp only [World.size_alloc] at h2 h3 h4
  have z : ∀ W : World, ∀ o : Obj, (W.alloc o).heap.size = W.heap.size + 1 := fun W o => World.size_alloc W o
  have k4 : ∀ i, i < w.heap.size + 1 + 1 + 1 → ((((w.alloc a).alloc b).alloc c).alloc d).heap[i]? = (((w.alloc a).alloc b).alloc c).heap[i]? := fun i hi => Below.heap_alloc _ _ _ (by simp only [z]; exact hi)
  have k3 : ∀ i, i < w.heap.size + 1 + 1 → (((w.alloc a).alloc b).alloc c).heap[i]? = ((w.alloc a).alloc b).heap[i]? := fun i hi => Below.heap_alloc _ _ _ (by simp only [z]; exact hi)
  refine ⟨?_, ?_, ?_, h4⟩
  · rw [k4 _ (by omega), k3 _ (by omega)]; exact h1
  · rw [k4 _ (by omega), k3 _ (by omega)]; exact h2
  · rw [k4 _ (by omega)]; exact h3

set_option maxHeartbeats 4000000 in
set_option maxRecDepth 100000 in
theorem gateOf_calls (F : FuncId) (p : Nat) (rate burst : Int) (v : Value) (l : List Bk) (w : World) (h : Rbk w v l) (hl : l.length ≤ 1000) (hs : ∀ b ∈ l, b.st.length ≤ 1000000) (hnd : (sts l).Nodup) :
    Calls Try.prog 48 #[.agg (lmA rate burst v), clkV F p] w fun e w' => e = .returned (.agg (gateA rate burst (w.heap.size + 1 + 1) F p)) ∧ Below w.heap.size w w' ∧ Kmp w' (w.heap.size + 1 + 1) l.length l := by
  obtain ⟨ad, cap, rfl⟩ := h.form
  have hmm := @run_makeMap Try.prog
  obtain ⟨n, hn⟩ : ∃ n, n = l.length := ⟨_, rfl⟩
  have H := Lib.hid h
  have HS := Lib.hid hs
  have HD := Lib.hid hnd
  rw [← hn] at H hl ⊢
  have HN := Lib.hid hn
  unfold lmA clkV gateA clkV
  clear h hs hn hnd
  go_enter Try.func48, Try.ntmps48
  go_wp2_with fail
  go_loopw [7, 18, 19, 20, 21, 22, 23, 24, 25, 26, 27, 28, 29, 30, 31] (fun _ vk _ _ _ _ _ _ _ _ _ _ _ _ _ wr => ∃ k, vk = .int .i64 (k : Nat) ∧ Gk l w wr k (.cells #[.int .i64 rate, .int .i64 burst, .slice ad n cap] 36) (.cells #[.int .i64 0, .int .i64 0, .map none, .nilFunc] 79) (.cells #[.int .i64 rate, .int .i64 burst, .map (some (w.heap.size + 1 + 1)), .func (.func F) #[] #[.pointer (some ⟨p, 0, none⟩)]] 79)) (fun _ vk _ _ _ _ _ _ _ _ _ _ _ _ _ _ => n - (intOf vk).toNat)
  case atStart =>
    obtain ⟨a1, a2, a3, a4⟩ := alloc4 w (.cells #[.int .i64 rate, .int .i64 burst, .slice ad n cap] 36) (.cells #[.int .i64 0, .int .i64 0, .map none, .nilFunc] 79) (.map #[] 0) (.cells #[.int .i64 rate, .int .i64 burst, .map (some (w.heap.size + 1 + 1)), .func (.func F) #[] #[.pointer (some ⟨p, 0, none⟩)]] 79)
    have hk := Kmp.made ((w.alloc (.cells #[.int .i64 rate, .int .i64 burst, .slice ad n cap] 36)).alloc (.cells #[.int .i64 0, .int .i64 0, .map none, .nilFunc] 79))
    simp only [World.size_alloc] at hk
    refine ⟨0, rfl, Nat.zero_le _, (new3 w _ _ _).alloc (by simp; omega) _, a1, a2, a4, ?_⟩
    rw [List.take_zero]
    exact hk.below (new1 _ _) (by simp)
  case round =>
    obtain ⟨k, rfl, hG⟩ := hrel
    have hk : k ≤ n := by have := hG.le; have := HN.out; omega
    have HG := Lib.hid hG
    obtain ⟨g0, g1, g2, g3, gz⟩ := four hG.x3
    clear hG
    by_cases hlt : k < n
    · have hk' : k < l.length := by have := HN.out; omega
      obtain ⟨x, hx⟩ : ∃ x, l[k]? = some x := ⟨_, List.getElem?_eq_getElem hk'⟩
      rcases H.out with ⟨h0, _⟩ | ⟨g, off, cap', e, hg, hc⟩
      · rw [h0] at hx; simp at hx
      cases e
      obtain ⟨q0, q1, q2⟩ := (hc k x hx).same (HG.out.bel.block g hg)
      have hxl := HS.out x (List.mem_of_getElem? hx)
      have CL := Lib.hid (clone_at x.st hxl)
      have HX := Lib.hid hx
      clear hc hx
      go_wp2_with fail
      refine (CL.out _).mono ?_
      rintro e w1 ⟨rfl, hb⟩
      have HB := Lib.hid hb
      have B1 := keptB (heap_alloc_new wr (.cells #[str x.st, .int .i64 x.left, .int .i64 x.at_] 71)) hb
      obtain ⟨b0, b1, b2, bz⟩ := three B1
      have bf : ∀ o, w1.frozen? ⟨wr.heap.size, o, none⟩ = false := fun o => by simp [World.frozen?, B1]
      have K1 : Below wr.heap.size wr w1 := (new1 _ _).trans (hb.mono (by simp))
      have G1 := keptB HG.out.x3 K1
      obtain ⟨g0', g1', g2', g3', gz'⟩ := four G1
      have K2 : Below wr.heap.size wr (w1.setCell ⟨wr.heap.size, 0, none⟩ (str x.st)) := K1.setCell (Nat.le_refl _) _
      have HK2 := Lib.hid K2
      have KS := Lib.hid (HG.out.map.below K2 HG.out.map.lt)
      have hxl2 : x.st.length ≤ maxLen := by unfold maxLen; omega
      have hkm : k < maxLen := by unfold maxLen; omega
      clear hb B1 K1 K2 G1 g0 g1 g2 g3 q0 q1 q2
      go_wp2_with (at_mapUpdate; refine wp_put (.tmp 27) (.tmp 29) (.tmp 30) (w.heap.size + 1 + 1) k (l.take k) x rfl rfl rfl rfl rfl KS.out hxl2 hkm ?_; intro w3 hs3 hg3)
      have HS3 := Lib.hid hs3
      have HX3 := Lib.hid (show ∀ i, i < wr.heap.size → i ≠ w.heap.size + 1 + 1 → w3.heap[i]? = wr.heap[i]? from fun i hi hne => (hg3.block i (Nat.lt_of_lt_of_le hi HK2.out.size) (fun e => hne (by cases e; rfl))).trans (HK2.out.block i hi))
      have HB3 := Lib.hid ((HG.out.bel.trans (HK2.out.mono HG.out.bel.size)).trans (⟨hg3.os, hg3.tape, hg3.output, hg3.size, fun j hj => hg3.block j (Nat.lt_of_lt_of_le hj (HG.out.bel.trans (HK2.out.mono HG.out.bel.size)).size) (by simp; omega)⟩ : Below w.heap.size _ w3))
      clear hs3 hg3 b0 b1 b2 bf g0' g1' g2' g3'
      go_wp2_with fail
      go_roundw
      case rel =>
        have z := HG.out.bel.size
        refine ⟨k + 1, by simp, by omega, HB3.out, ?_, ?_, ?_, ?_⟩
        · rw [HX3.out _ (by omega) (by omega)]; exact HG.out.x0
        · rw [HX3.out _ (by omega) (by omega)]; exact HG.out.x1
        · rw [HX3.out _ (by omega) (by omega)]; exact HG.out.x3
        · rw [← set_take HD.out HX.out]; exact HS3.out
      case measure => simp [intOf]; omega
    · obtain rfl : k = n := by omega
      obtain ⟨r0, r1, r2, r3, rz⟩ := four HG.out.x1
      have rf : ∀ o, wr.frozen? ⟨w.heap.size + 1, o, none⟩ = false := fun o => by simp [World.frozen?, HG.out.x1]
      go_wp2_with fail
      refine bodyPost_ret (v := .agg #[.int .i64 rate, .int .i64 burst, .map (some (w.heap.size + 1 + 1)), .func (.func F) #[] #[.pointer (some ⟨p, 0, none⟩)]]) (by simp [results, Try.results48, go_sem, r0, r1, r2, r3]) rfl ⟨rfl, ?_, ?_⟩
      · exact (((HG.out.bel.setCell (by simp) _).setCell (by simp) _).setCell (by simp) _).setCell (by simp) _
      · have hm := HG.out.map
        rw [List.take_of_length_le (by have := HN.out; omega)] at hm
        exact hm.same (((((Only.setCell (b := w.heap.size + 1) 0 _).trans (Only.setCell 1 _)).trans (Only.setCell 2 _)).trans (Only.setCell 3 _)).block _ hm.lt (by omega))
end Go.Proofs.Ytdikjmhnjlalbaa.gof
