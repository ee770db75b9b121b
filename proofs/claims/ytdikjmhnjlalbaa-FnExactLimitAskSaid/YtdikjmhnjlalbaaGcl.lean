/- Contract of a gate's clean: what is full again is taken out. -/
import Derived.Test.YtdikjmhnjlalbaaGac
import Derived.Laws.EntriesVeiled
namespace Go.Proofs.Ytdikjmhnjlalbaa.gcl
open Go.RowKit Go.Sort Go.Maps Go.Proofs.Ytdikjmhnjlalbaa.tm Go.Proofs.Ytdikjmhnjlalbaa.lib Go.Proofs.Ytdikjmhnjlalbaa.rdr Go.Proofs.Ytdikjmhnjlalbaa.bld Go.Proofs.Ytdikjmhnjlalbaa.app Go.Proofs.Ytdikjmhnjlalbaa.gdp Go.Proofs.Ytdikjmhnjlalbaa.gdm Go.Proofs.Ytdikjmhnjlalbaa.rbk Go.Proofs.Ytdikjmhnjlalbaa.bkr Go.Proofs.Ytdikjmhnjlalbaa.gmp Go.Proofs.Ytdikjmhnjlalbaa.glh Go.Proofs.Ytdikjmhnjlalbaa.gac
set_option linter.unusedVariables false

/-- Buckets of right numbers. -/
def Nums (burst : Int) (M : List Bk) : Prop := ∀ b ∈ M, b.st.length ≤ 1000 ∧ 0 ≤ b.left ∧ b.left ≤ burst ∧ 0 ≤ b.at_ ∧ b.at_ ≤ 1000000

/-- What holds while it is cleaned: what is there stays, or is still to come; what is not there came, and does not stay. -/
structure Cl (rate burst now : Int) (l M : List Bk) (left : Lit → Bool) : Prop where
  sub : ∀ b ∈ M, b ∈ l
  ok : ∀ b ∈ M, stays rate burst now b = true ∨ left (.string b.st) = true
  out : ∀ b ∈ l, b ∈ M ∨ stays rate burst now b = false

theorem Cl.keep {rate burst now : Int} {l M : List Bk} {left : Lit → Bool} (h : Cl rate burst now l M left) (c : Bk) (hs : stays rate burst now c = true) (hc : c ∈ M) (hn : (sts M).Nodup) :
    Cl rate burst now l M (fun z => left z && !z.sameKey (.string c.st)) := by
  refine ⟨h.sub, fun b hb => ?_, h.out⟩
  rcases h.ok b hb with h1 | h1
  · exact .inl h1
  · by_cases e : b.st = c.st
    · rw [one_of hn hb hc e]; exact .inl hs
    · right
      rw [h1]
      simp [Lit.sameKey, e]
theorem Cl.strike {rate burst now : Int} {l M : List Bk} {left : Lit → Bool} (h : Cl rate burst now l M left) (c : Bk) (hs : stays rate burst now c = false) (hc : c ∈ M) (hn : (sts l).Nodup) :
    Cl rate burst now l (del M c.st) (fun z => left z && !z.sameKey (.string c.st)) := by
  refine ⟨fun b hb => h.sub b (mem_del.1 hb).1, fun b hb => ?_, fun b hb => ?_⟩
  · obtain ⟨h1, h2⟩ := mem_del.1 hb
    rcases h.ok b h1 with h3 | h3
    · exact .inl h3
    · right
      rw [h3]
      simp [Lit.sameKey, h2]
  · rcases h.out b hb with h1 | h1
    · by_cases e : b.st = c.st
      · rw [one_of hn hb (h.sub c hc) e]; exact .inr hs
      · exact .inl (mem_del.2 ⟨h1, e⟩)
    · exact .inr h1
theorem Cl.done {rate burst now : Int} {l M : List Bk} {left : Lit → Bool} (h : Cl rate burst now l M left) (hl : ∀ z, left z = false) (x : Bk) : x ∈ M ↔ x ∈ l ∧ stays rate burst now x = true := by
  constructor
  · intro hx
    rcases h.ok x hx with h1 | h1
    · exact ⟨h.sub x hx, h1⟩
    · rw [hl] at h1; cases h1
  · rintro ⟨h1, h2⟩
    rcases h.out x h1 with h3 | h3
    · exact h3
    · rw [h2] at h3; cases h3

structure Ck (rate burst now : Int) (l : List Bk) (w wr : World) (b r n : Nat) (o0 : Obj) : Prop where
  only : Only b w wr
  x0 : wr.heap[w.heap.size]? = some o0
  run : ∃ M left cnt, Krg wr b r n M left cnt ∧ Cl rate burst now l M left

set_option maxHeartbeats 4000000 in
set_option maxRecDepth 100000 in
theorem clean_calls (F : FuncId) (hF : Clk F) (rate burst : Int) (b p n : Nat) (now : Int) (l : List Bk) (w : World) (c : w.cell? ⟨p, 0, none⟩ = some (.int .i64 now)) (hm : Kmp w b n l) (hpb : p ≠ b) (hN : Nums burst l)
    (r1 : 0 ≤ rate) (r2 : rate ≤ 10) (b1 : 0 ≤ burst) (b2 : burst ≤ 100) (t0 : 0 ≤ now) (t3 : now ≤ 1000000) :
    Calls Try.prog 57 #[.agg (gateA rate burst b F p)] w fun e w' => e = .returned (.tuple #[]) ∧ Only b w w' ∧ ∃ M, Kmp w' b n M ∧ ∀ x, x ∈ M ↔ x ∈ l ∧ stays rate burst now x = true := by
  have hent := hF.ent
  have TL := Lib.hid hF.tell
  have hb := hm.lt
  have hp : p < w.heap.size := block_lt_of_cell (a := ⟨p, 0, none⟩) c
  have C := Lib.hid c
  have HN := Lib.hid hN
  have HM := Lib.hid (hm.below (new1 w (.cells #[.int .i64 rate, .int .i64 burst, .map (some b), .func (.func F) #[] #[.pointer (some ⟨p, 0, none⟩)]] 79)) hb)
  unfold gateA clkV
  clear c hN
  go_enter Try.func57, Try.ntmps57
  go_wp2_with (at_range; refine wp_range (.tmp 5) b n l rfl rfl rfl HM.out ?_; intro w0 left0 hrg0 hl0 hg0 hs0)
  go_frame
  simp only [World.size_alloc] at hrg0 ⊢
  go_loopw [2, 3, 7, 8, 9, 10, 11, 12, 13, 14, 15, 16, 17, 18, 19, 20, 21, 22, 23, 24, 25, 26, 27, 28] (fun _ _ _ _ _ _ _ _ _ _ _ _ _ _ _ _ _ _ _ _ _ _ _ _ wr => Ck rate burst now l w wr b (w.heap.size + 1) n (.cells #[.int .i64 rate, .int .i64 burst, .map (some b), .func (.func F) #[] #[.pointer (some ⟨p, 0, none⟩)]] 79)) (fun _ _ _ _ _ _ _ _ _ _ _ _ _ _ _ _ _ _ _ _ _ _ _ _ wr => wr.rangeLeft b (w.heap.size + 1))
  case atStart =>
    refine ⟨⟨hg0.os, hg0.tape, hg0.output, by have := hg0.size; simp at this; omega, fun i hi _ => ?_⟩, ?_, l, left0, _, hrg0, fun x hx => hx, fun x hx => .inr ?_, fun x hx => .inl hx⟩
    · rw [hg0.block i (by simp; omega) (by simp)]; exact Below.heap_alloc _ _ _ hi
    · rw [hg0.block _ (by simp) (by simp)]; exact heap_alloc_new w _
    · rw [hl0, look_mem hm.nd hx]; rfl
  case round =>
    obtain ⟨hon, hx0, M, left, cnt, hrg, hcl⟩ := hrel
    have HON := Lib.hid hon
    have HX0 := Lib.hid hx0
    have HRG := Lib.hid hrg
    have HCL := Lib.hid hcl
    clear hon hx0 hcl hrg0 hl0 hg0 hs0
    go_wp2_with (at_next; refine wp_next (.tmp 6) b (w.heap.size + 1) n M left cnt rfl rfl rfl hrg ?_ ?_)
    · intro hc0 hl0
      go_wp2_with fail
      refine bodyPost_end (v := .tuple #[]) (by simp [results, Try.results57, go_sem]) rfl ⟨rfl, HON.out, M, HRG.out.kmp, HCL.out.done hl0⟩
    · intro k w1 cnt1 hlk hkM hrg1 hlt hg1 hs1 hen
      have hkl := HCL.out.sub k hkM
      obtain ⟨n1, n2, n3, n4, n5⟩ := HN.out k hkl
      have hz := hrg.lt
      have hsz := HON.out.size
      -- the world behind the step
      have V1 : ∀ i, i < wr.heap.size → i ≠ w.heap.size + 1 → w1.heap[i]? = wr.heap[i]? := fun i hi hne => hg1.block i hi (by intro e; cases e; exact hne rfl)
      have X1 : w1.heap[w.heap.size]? = _ := (V1 _ (by omega) (by omega)).trans HX0.out
      have C1 : w1.heap[p]? = w.heap[p]? := (V1 _ (by omega) (by omega)).trans (HON.out.block p hp hpb)
      have HV1 := Lib.hid (⟨hg1.os.trans HON.out.os, hg1.tape.trans HON.out.tape, hg1.output.trans HON.out.output, Nat.le_trans HON.out.size hg1.size, fun i hi hne => (V1 i (by omega) (by omega)).trans (HON.out.block i hi hne)⟩ : Only b w w1)
      have Q : (w1.alloc (.cells #[str k.st, .int .i64 k.left, .int .i64 k.at_] 71)).heap[w1.heap.size]? = some (.cells #[str k.st, .int .i64 k.left, .int .i64 k.at_] 71) ∧ (w1.alloc (.cells #[str k.st, .int .i64 k.left, .int .i64 k.at_] 71)).heap[w.heap.size]? = w1.heap[w.heap.size]? ∧ (w1.alloc (.cells #[str k.st, .int .i64 k.left, .int .i64 k.at_] 71)).heap[p]? = w1.heap[p]? ∧ Below w1.heap.size w1 (w1.alloc (.cells #[str k.st, .int .i64 k.left, .int .i64 k.at_] 71)) :=
        ⟨heap_alloc_new w1 _, Below.heap_alloc _ _ _ (by omega), Below.heap_alloc _ _ _ (by omega), new1 _ _⟩
      have HRG1 := Lib.hid hrg1
      have HS1 := Lib.hid hs1
      have hbk : bkV k = .agg #[str k.st, .int .i64 k.left, .int .i64 k.at_] := rfl
      rw [hbk] at hen ⊢
      clear hg1 V1 hrg hs1 hbk
      by_cases ht : k.at_ ≤ now
      · have dt : decide (k.at_ ≤ now) = true := decide_eq_true ht
        have HH := fun W' c' => has_calls F hF rate burst b p now k W' c' r1 r2 b1 b2 n2 (by omega) n4 ht t3
        obtain ⟨v, hv⟩ : ∃ v, v = nowR rate burst k now := ⟨_, rfl⟩
        simp only [← hv] at HH
        unfold gateA clkV bkA at HH
        have HH := Lib.hid HH
        by_cases he : v = burst
        · have HST := Lib.hid (show stays rate burst now k = false by unfold stays; rw [← hv]; simp; omega)
          subst he
          have dv : (v == v) = true := by simp
          clear hv
          go_wp2_with fail
          generalize hW : (w1.alloc (.cells #[str k.st, .int .i64 k.left, .int .i64 k.at_] 71)) = W at Q
          obtain ⟨k0, x1, c1, kW⟩ := Q
          obtain ⟨e0, e1, e2, ez⟩ := three k0
          obtain ⟨a0, a1, a2, a3, az⟩ := four (x1.trans X1)
          have cp : W.cell? ⟨p, 0, none⟩ = some (.int .i64 now) := (World.cell?_of_block (c1.trans C1)).trans C.out
          have CP := fun (d : Nat) (os : Array Obj) => cell_regrown (d := d) (os := os) cp
          have A0 := fun (d : Nat) (os : Array Obj) => cell_regrown (d := d) (os := os) a0
          have A1 := fun (d : Nat) (os : Array Obj) => cell_regrown (d := d) (os := os) a1
          have A2 := fun (d : Nat) (os : Array Obj) => cell_regrown (d := d) (os := os) a2
          have A3 := fun (d : Nat) (os : Array Obj) => cell_regrown (d := d) (os := os) a3
          have E0 := fun (d : Nat) (os : Array Obj) => cell_regrown (d := d) (os := os) e0
          have E1 := fun (d : Nat) (os : Array Obj) => cell_regrown (d := d) (os := os) e1
          have E2 := fun (d : Nat) (os : Array Obj) => cell_regrown (d := d) (os := os) e2
          refine wp_region_quiet_below (by kernel_rfl) (by kernel_rfl) ?_
          iterate 5 (quiet_step (exact Calls.regrown_of (TL.out _ _ _ (CP _ _))))
          iterate 2 (with_reducible refine wpQuiet_step (fun K hK => ?_); go_simp; (try rw [if_neg (by decide)]); with_reducible refine hK _ ?_; clear hK K)
          iterate 2 (with_reducible refine wpQuiet_step (fun K hK => ?_); go_simp; (try rw [if_neg (by decide)]); with_reducible refine hK _ ?_; clear hK K)
          quiet_step (exact Calls.regrown_of (HH.out _ (CP _ _)))
          iterate 4 (with_reducible refine wpQuiet_step (fun K hK => ?_); go_simp; (try rw [if_neg (by decide)]); with_reducible refine hK _ ?_; clear hK K)
          with_reducible refine wpQuiet_nil ?_
          rintro w2 ⟨⟨dq, osq⟩, hw2⟩
          have hb2 : Below W.heap.size W w2 := by rw [hw2]; exact below_regrown _ _ _
          have k2 := kW.trans (hb2.mono kW.size)
          have HB2 := Lib.hid k2
          have X2 := (k2.block _ (by have := HS1.out; omega)).trans X1
          obtain ⟨f0, f1, f2, f3, fz⟩ := four X2
          have KR2 := Lib.hid (HRG1.out.same (k2.block _ HRG1.out.lt.2) (k2.block _ HRG1.out.lt.1))
          have HX2 := Lib.hid X2
          clear hw2 hW hb2 k2 X2 k0 x1 c1 kW e0 e1 e2 a0 a1 a2 a3 cp CP A0 A1 A2 A3 E0 E1 E2 hen
          have hkl2 : k.st.length ≤ maxLen := by unfold maxLen; omega
          go_wp2_with (at_delete; refine wp_delete (.tmp 27) (.tmp 28) b (w.heap.size + 1) n M (fun z => left z && !z.sameKey (.string k.st)) cnt1 k.st rfl rfl rfl rfl hkl2 KR2.out ?_; intro w3 cnt3 hrg3 hle hturn)
          rw [Maps.strike_twice] at hrg3
          have HRG3 := Lib.hid hrg3
          have hg3 := hturn.grown
          have T3 : Only b w2 w3 := ⟨hg3.os, hg3.tape, hg3.output, hg3.size, fun i hi hne => hg3.block i hi (by intro e; cases e; exact hne rfl)⟩
          have hw2s := HB2.out.size
          have HX3 := Lib.hid ((T3.block w.heap.size (by have := HS1.out; omega) (by omega)).trans HX2.out)
          have HT3 := Lib.hid T3
          clear hrg3 hturn hg3 T3 f0 f1 f2 f3
          go_frame
          go_roundw
          case rel => exact ⟨(HV1.out.trans (Only.of_below HB2.out)).trans HT3.out, HX3.out, del M k.st, _, _, HRG3.out, HCL.out.strike k HST.out hkM hm.nd⟩
          case measure => rw [HRG3.out.left_eq, HRG.out.left_eq]; omega
        · have HST := Lib.hid (show stays rate burst now k = true by unfold stays; rw [← hv]; have h7 : v ≤ burst := by (rw [hv]; unfold nowR; omega)
                                                                     simp; omega)
          have dv : (v == burst) = false := by simp [he]
          clear hv
          go_wp2_with fail
          generalize hW : (w1.alloc (.cells #[str k.st, .int .i64 k.left, .int .i64 k.at_] 71)) = W at Q
          obtain ⟨k0, x1, c1, kW⟩ := Q
          obtain ⟨e0, e1, e2, ez⟩ := three k0
          obtain ⟨a0, a1, a2, a3, az⟩ := four (x1.trans X1)
          have cp : W.cell? ⟨p, 0, none⟩ = some (.int .i64 now) := (World.cell?_of_block (c1.trans C1)).trans C.out
          have CP := fun (d : Nat) (os : Array Obj) => cell_regrown (d := d) (os := os) cp
          have A0 := fun (d : Nat) (os : Array Obj) => cell_regrown (d := d) (os := os) a0
          have A1 := fun (d : Nat) (os : Array Obj) => cell_regrown (d := d) (os := os) a1
          have A2 := fun (d : Nat) (os : Array Obj) => cell_regrown (d := d) (os := os) a2
          have A3 := fun (d : Nat) (os : Array Obj) => cell_regrown (d := d) (os := os) a3
          have E0 := fun (d : Nat) (os : Array Obj) => cell_regrown (d := d) (os := os) e0
          have E1 := fun (d : Nat) (os : Array Obj) => cell_regrown (d := d) (os := os) e1
          have E2 := fun (d : Nat) (os : Array Obj) => cell_regrown (d := d) (os := os) e2
          refine wp_region_quiet_below (by kernel_rfl) (by kernel_rfl) ?_
          iterate 5 (quiet_step (exact Calls.regrown_of (TL.out _ _ _ (CP _ _))))
          iterate 2 (with_reducible refine wpQuiet_step (fun K hK => ?_); go_simp; (try rw [if_neg (by decide)]); with_reducible refine hK _ ?_; clear hK K)
          iterate 2 (with_reducible refine wpQuiet_step (fun K hK => ?_); go_simp; (try rw [if_neg (by decide)]); with_reducible refine hK _ ?_; clear hK K)
          quiet_step (exact Calls.regrown_of (HH.out _ (CP _ _)))
          iterate 4 (with_reducible refine wpQuiet_step (fun K hK => ?_); go_simp; (try rw [if_neg (by decide)]); with_reducible refine hK _ ?_; clear hK K)
          with_reducible refine wpQuiet_nil ?_
          rintro w2 ⟨⟨dq, osq⟩, hw2⟩
          have hb2 : Below W.heap.size W w2 := by rw [hw2]; exact below_regrown _ _ _
          have k2 := kW.trans (hb2.mono kW.size)
          have HB2 := Lib.hid k2
          have X2 := (k2.block _ (by have := HS1.out; omega)).trans X1
          obtain ⟨f0, f1, f2, f3, fz⟩ := four X2
          have KR2 := Lib.hid (HRG1.out.same (k2.block _ HRG1.out.lt.2) (k2.block _ HRG1.out.lt.1))
          have HX2 := Lib.hid X2
          clear hw2 hW hb2 k2 X2 k0 x1 c1 kW e0 e1 e2 a0 a1 a2 a3 cp CP A0 A1 A2 A3 E0 E1 E2 hen
          go_wp2_with fail
          go_roundw
          case rel => exact ⟨HV1.out.trans (Only.of_below HB2.out), HX2.out, M, _, _, KR2.out, HCL.out.keep k HST.out hkM HRG.out.kmp.nd⟩
          case measure => rw [KR2.out.left_eq, HRG.out.left_eq]; exact hlt
      · have dt : decide (k.at_ ≤ now) = false := decide_eq_false ht
        have HST := Lib.hid (show stays rate burst now k = true by unfold stays; simp; omega)
        go_wp2_with fail
        generalize hW : (w1.alloc (.cells #[str k.st, .int .i64 k.left, .int .i64 k.at_] 71)) = W at Q
        obtain ⟨k0, x1, c1, kW⟩ := Q
        obtain ⟨e0, e1, e2, ez⟩ := three k0
        obtain ⟨a0, a1, a2, a3, az⟩ := four (x1.trans X1)
        have cp : W.cell? ⟨p, 0, none⟩ = some (.int .i64 now) := (World.cell?_of_block (c1.trans C1)).trans C.out
        have CP := fun (d : Nat) (os : Array Obj) => cell_regrown (d := d) (os := os) cp
        have A0 := fun (d : Nat) (os : Array Obj) => cell_regrown (d := d) (os := os) a0
        have A1 := fun (d : Nat) (os : Array Obj) => cell_regrown (d := d) (os := os) a1
        have A2 := fun (d : Nat) (os : Array Obj) => cell_regrown (d := d) (os := os) a2
        have A3 := fun (d : Nat) (os : Array Obj) => cell_regrown (d := d) (os := os) a3
        have E0 := fun (d : Nat) (os : Array Obj) => cell_regrown (d := d) (os := os) e0
        have E1 := fun (d : Nat) (os : Array Obj) => cell_regrown (d := d) (os := os) e1
        have E2 := fun (d : Nat) (os : Array Obj) => cell_regrown (d := d) (os := os) e2
        refine wp_region_quiet_below (by kernel_rfl) (by kernel_rfl) ?_
        iterate 5 (quiet_step (exact Calls.regrown_of (TL.out _ _ _ (CP _ _))))
        iterate 9 (with_reducible refine wpQuiet_step (fun K hK => ?_); go_simp; (try rw [if_neg (by decide)]); with_reducible refine hK _ ?_; clear hK K)
        with_reducible refine wpQuiet_nil ?_
        rintro w2 ⟨⟨dq, osq⟩, hw2⟩
        have hb2 : Below W.heap.size W w2 := by rw [hw2]; exact below_regrown _ _ _
        have k2 := kW.trans (hb2.mono kW.size)
        have HB2 := Lib.hid k2
        have X2 := (k2.block _ (by have := HS1.out; omega)).trans X1
        obtain ⟨f0, f1, f2, f3, fz⟩ := four X2
        have KR2 := Lib.hid (HRG1.out.same (k2.block _ HRG1.out.lt.2) (k2.block _ HRG1.out.lt.1))
        have HX2 := Lib.hid X2
        clear hw2 hW hb2 k2 X2 k0 x1 c1 kW e0 e1 e2 a0 a1 a2 a3 cp CP A0 A1 A2 A3 E0 E1 E2 hen
        go_wp2_with fail
        go_roundw
        case rel => exact ⟨HV1.out.trans (Only.of_below HB2.out), HX2.out, M, _, _, KR2.out, HCL.out.keep k HST.out hkM HRG.out.kmp.nd⟩
        case measure => rw [KR2.out.left_eq, HRG.out.left_eq]; exact hlt
end Go.Proofs.Ytdikjmhnjlalbaa.gcl
