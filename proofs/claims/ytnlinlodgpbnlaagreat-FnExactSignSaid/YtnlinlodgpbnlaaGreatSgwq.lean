/- Sign and Mac1Fits of the model. -/
import Derived.Test.YtnlinlodgpbnlaaGreatSgsq
import Derived.Test.YtnlinlodgpbnlaaGreatQi
import Derived.Test.YtnlinlodgpbnlaaGreatQf
namespace Go.Proofs.YtnlinlodgpbnlaaGreat.sgw
open Go.RowKit Go.Proofs.YtnlinlodgpbnlaaGreat.tm Go.Proofs.YtnlinlodgpbnlaaGreat.lib Go.Proofs.YtnlinlodgpbnlaaGreat.rdr Go.Proofs.YtnlinlodgpbnlaaGreat.bld Go.Proofs.YtnlinlodgpbnlaaGreat.app Go.Proofs.YtnlinlodgpbnlaaGreat.mrk Go.Proofs.YtnlinlodgpbnlaaGreat.mrs Go.Proofs.YtnlinlodgpbnlaaGreat.ltq Go.Proofs.YtnlinlodgpbnlaaGreat.ltv Go.Proofs.YtnlinlodgpbnlaaGreat.ltp Go.Proofs.YtnlinlodgpbnlaaGreat.lsm Go.Proofs.YtnlinlodgpbnlaaGreat.sgs Go.Proofs.YtnlinlodgpbnlaaGreat.sgv
set_option linter.unusedVariables false

set_option maxHeartbeats 1000000 in
set_option maxRecDepth 100000 in
theorem copy_calls (m : Lt) (v : Value) (w : World) (h : Rds w v m.ps) (hne : m.ps ≠ []) (hl : m.ps.length ≤ 900000) :
    Calls Tryz.prog 104 #[.agg (letA m v)] w fun e w' => ∃ u, e = .returned (.agg (letA m u)) ∧ Below w.heap.size w w' ∧ Wrs w' w.heap.size u m.ps := by
  obtain ⟨g, off, cap, rfl, hg, hc⟩ := bdm.rds_cell h hne
  obtain ⟨k, f, t, c, ps, a, b⟩ := m
  unfold letA
  simp only at hc hl ⊢
  obtain ⟨n, hn⟩ : ∃ n, n = ps.length := ⟨_, rfl⟩
  rw [← hn] at hl ⊢
  have HN := Lib.hid hn
  have HC := Lib.hid (fun (w' : World) (k : Below w.heap.size w w') j l (hj : ps[j]? = some l) => (k.cell (p := ⟨g, off + j, none⟩) hg).trans (hc j l hj))
  clear h hc hn hne
  have E := Lib.hid (by simpa using sar.strs_empty ((w.alloc (.cells #[.int .i64 k, .int .i64 f, .int .i64 t, .int .i64 c, .slice (some ⟨g, off, none⟩) n cap, str a, str b] 53)).alloc (.cells #[.int .i64 0, .int .i64 0, .int .i64 0, .int .i64 0, .slice none 0 0, .string ⟨#[]⟩, .string ⟨#[]⟩] 53)) (w.heap.size + 1 + 1) (by simp) : Strs (((w.alloc (.cells #[.int .i64 k, .int .i64 f, .int .i64 t, .int .i64 c, .slice (some ⟨g, off, none⟩) n cap, str a, str b] 53)).alloc (.cells #[.int .i64 0, .int .i64 0, .int .i64 0, .int .i64 0, .slice none 0 0, .string ⟨#[]⟩, .string ⟨#[]⟩] 53)).alloc (.cells #[] 9)) (w.heap.size + 1 + 1) (.slice (some ⟨w.heap.size + 1 + 1, 0, none⟩) 0 0) [])
  have A3 := alloc2 w (.cells #[.int .i64 k, .int .i64 f, .int .i64 t, .int .i64 c, .slice (some ⟨g, off, none⟩) n cap, str a, str b] 53) (.cells #[.int .i64 0, .int .i64 0, .int .i64 0, .int .i64 0, .slice none 0 0, .string ⟨#[]⟩, .string ⟨#[]⟩] 53)
  have X0 := Lib.hid ((Below.heap_alloc _ (.cells #[] 9) _ (by simp; omega)).trans A3.1)
  have Y0 := Lib.hid ((Below.heap_alloc _ (.cells #[] 9) _ (by simp)).trans A3.2)
  have HB0 := Lib.hid (((new1 w (.cells #[.int .i64 k, .int .i64 f, .int .i64 t, .int .i64 c, .slice (some ⟨g, off, none⟩) n cap, str a, str b] 53)).alloc (by simp) (.cells #[.int .i64 0, .int .i64 0, .int .i64 0, .int .i64 0, .slice none 0 0, .string ⟨#[]⟩, .string ⟨#[]⟩] 53)).alloc (by simp; omega) (.cells #[] 9))
  clear A3
  go_enter Tryz.func104, Tryz.ntmps104
  go_wp2_with (at_builtin; refine spt.wp_putN (.tmp 3) (.tmp 5) ⟨g, off, none⟩ n cap ps (w.heap.size + 1 + 1) _ [] rfl rfl rfl E.out rfl HN.out.symm (fun j l hj => by rw [Addr.add_lit]; exact HC.out _ HB0.out j l hj) (by show 0 + n ≤ 1000000; omega) (by simp) ?_; intro v1 w1 s1 b1; rw [List.nil_append] at s1; have X1 := (b1.block w.heap.size (by omega)).trans X0.out; have Y1 := (b1.block (w.heap.size + 1) (by omega)).trans Y0.out; have HB1 := Lib.hid (HB0.out.trans (b1.mono (by omega))); have W1 := Strs.wrs s1; obtain ⟨ua, uc, hu⟩ := lsa.rds_form W1.rds; rw [← HN.out] at hu; subst hu; have HW := Lib.hid W1; obtain ⟨p0, p1, p2, p3, p4, p5, p6, pz⟩ := seven X1; obtain ⟨q0, q1, q2, q3, q4, q5, q6, qz⟩ := seven Y1; have pf : ∀ o, w1.frozen? ⟨w.heap.size, o, none⟩ = false := (fun o => by simp [World.frozen?, X1]); have qf : ∀ o, w1.frozen? ⟨w.heap.size + 1, o, none⟩ = false := (fun o => by simp [World.frozen?, Y1]); clear s1 b1 W1 X1 Y1)
  refine bodyPost_ret (v := .agg #[.int .i64 k, .int .i64 f, .int .i64 t, .int .i64 c, .slice ua n uc, str a, str b]) (by simp [results, Tryz.results104, go_sem, q0, q1, q2, q3, q4, q5, q6]) rfl ⟨_, rfl, ?_, ?_⟩
  · exact (((((((HB1.out.setCell (by simp) _).setCell (by simp) _).setCell (by simp) _).setCell (by simp) _).setCell (by simp) _).setCell (by simp) _).setCell (by simp) _).setCell (by simp) _
  · exact Wrs.base (Wrs.set (Wrs.set (Wrs.set (Wrs.set (Wrs.set (Wrs.set (Wrs.set (Wrs.set HW.out (by simp; omega) _) (by simp) _) (by simp) _) (by simp) _) (by simp) _) (by simp) _) (by simp) _) (by simp) _) (by omega)
end Go.Proofs.YtnlinlodgpbnlaaGreat.sgw
