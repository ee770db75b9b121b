/- kinds and kindOf of the program. -/
import Derived.Test.YtnlinlodgpbnlaaGreatQe
import Derived.Laws.EntriesVeiled
namespace Go.Proofs.YtnlinlodgpbnlaaGreat.kin
open Go.RowKit Go.Proofs.YtnlinlodgpbnlaaGreat.tm Go.Proofs.YtnlinlodgpbnlaaGreat.lib Go.Proofs.YtnlinlodgpbnlaaGreat.rdr Go.Proofs.YtnlinlodgpbnlaaGreat.bld Go.Proofs.YtnlinlodgpbnlaaGreat.app Go.Proofs.YtnlinlodgpbnlaaGreat.mrk Go.Proofs.YtnlinlodgpbnlaaGreat.plf Go.Proofs.YtnlinlodgpbnlaaGreat.ltq Go.Proofs.YtnlinlodgpbnlaaGreat.prr
set_option linter.unusedVariables false

def fv (n : Nat) : Value := .func (.func n) #[] #[]
def kV (k : Int) : Array Value :=
  if k = 1 then kindV [105, 110, 105, 116] 3 true (fv 190) (fv 191) (fv 192)
  else if k = 2 then kindV [114, 101, 115, 112] 2 true (fv 190) (fv 193) (fv 192)
  else if k = 3 then kindV [99, 111, 111, 107, 105, 101] 1 false (fv 194) (fv 193) (fv 192)
  else if k = 4 then kindV [100, 97, 116, 97] 1 false (fv 194) (fv 193) (fv 195)
  else kindV [] 0 false .nilFunc .nilFunc .nilFunc

def isK (k : Int) : Bool := decide (1 ≤ k) && decide (k ≤ 4)

def rows : Array Value := kV 0 ++ kV 1 ++ kV 2 ++ kV 3 ++ kV 4

set_option maxRecDepth 100000 in
theorem kinds_calls (w : World) : Calls Tryz.prog 174 #[] w fun e w' => e = .returned (.slice (some ⟨w.heap.size, 0, none⟩) 5 5) ∧ w' = w.alloc (.cells rows 162) := by
  go_enter Tryz.func174, Tryz.ntmps174
  go_wp2_with fail
  go_ret
  exact ⟨rfl, rfl⟩

set_option maxHeartbeats 1000000 in
set_option maxRecDepth 100000 in
theorem kindOf_no (n : Int) (h : isK n = false) (w : World) :
    Calls Tryz.prog 148 #[.int .i64 n] w fun e w' => e = .returned (.tuple #[.agg (kV 0), .bool false]) ∧ Below w.heap.size w w' := by
  by_cases h1 : n < 1
  · clear h
    go_enter Tryz.func148, Tryz.ntmps148
    go_wp2_with fail
    refine (kinds_calls _).mono ?_
    rintro e w1 ⟨rfl, rfl⟩
    go_wp2_with fail
    refine bodyPost_ret (v := .tuple #[.agg (kV 0), .bool false]) (by simp [results, Tryz.results148, go_sem, kV, kindV]) rfl ⟨rfl, ?_⟩
    exact ((Below.refl _ _).alloc (Nat.le_refl _) _).alloc (by simp) _
  · have h2 : 5 ≤ n := by unfold isK at h; simp at h; omega
    have d1 : decide (5 ≤ n) = true := by simpa using h2
    clear h
    go_enter Tryz.func148, Tryz.ntmps148
    go_wp2_with fail
    refine (kinds_calls _).mono ?_
    rintro e w1 ⟨rfl, rfl⟩
    go_wp2_with fail
    refine bodyPost_ret (v := .tuple #[.agg (kV 0), .bool false]) (by simp [results, Tryz.results148, go_sem, kV, kindV]) rfl ⟨rfl, ?_⟩
    exact ((Below.refl _ _).alloc (Nat.le_refl _) _).alloc (by simp) _

theorem rows_eq : rows = #[str [], .int .i64 0, .bool false, Value.nilFunc, Value.nilFunc, Value.nilFunc, str [105, 110, 105, 116], .int .i64 3, .bool true, .func (.func 190) #[] #[], .func (.func 191) #[] #[], .func (.func 192) #[] #[], str [114, 101, 115, 112], .int .i64 2, .bool true, .func (.func 190) #[] #[], .func (.func 193) #[] #[], .func (.func 192) #[] #[], str [99, 111, 111, 107, 105, 101], .int .i64 1, .bool false, .func (.func 194) #[] #[], .func (.func 193) #[] #[], .func (.func 192) #[] #[], str [100, 97, 116, 97], .int .i64 1, .bool false, .func (.func 194) #[] #[], .func (.func 193) #[] #[], .func (.func 195) #[] #[]] := rfl

set_option maxHeartbeats 1000000 in
set_option maxRecDepth 100000 in
theorem kindOf_yes (n : Int) (h : isK n = true) (w : World) :
    Calls Tryz.prog 148 #[.int .i64 n] w fun e w' => e = .returned (.tuple #[.agg (kV n), .bool true]) ∧ Below w.heap.size w w' := by
  have hn : n = 1 ∨ n = 2 ∨ n = 3 ∨ n = 4 := by unfold isK at h; simp at h; omega
  clear h
  rcases hn with rfl | rfl | rfl | rfl
  · have kc := fun w => kinds_calls w
    rw [rows_eq] at kc
    have KC := Lib.hid kc
    clear kc
    go_enter Tryz.func148, Tryz.ntmps148
    go_wp2_with fail
    refine (KC.out _).mono ?_
    rintro e w1 ⟨rfl, rfl⟩
    go_wp2_with fail
    refine bodyPost_ret (v := .tuple #[.agg (kV 1), .bool true]) (by simp [results, Tryz.results148, go_sem, kV, kindV, fv]) rfl ⟨rfl, ?_⟩
    exact ((Below.refl _ _).alloc (Nat.le_refl _) _).alloc (by simp) _
  · have kc := fun w => kinds_calls w
    rw [rows_eq] at kc
    have KC := Lib.hid kc
    clear kc
    go_enter Tryz.func148, Tryz.ntmps148
    go_wp2_with fail
    refine (KC.out _).mono ?_
    rintro e w1 ⟨rfl, rfl⟩
    go_wp2_with fail
    refine bodyPost_ret (v := .tuple #[.agg (kV 2), .bool true]) (by simp [results, Tryz.results148, go_sem, kV, kindV, fv]) rfl ⟨rfl, ?_⟩
    exact ((Below.refl _ _).alloc (Nat.le_refl _) _).alloc (by simp) _
  · have kc := fun w => kinds_calls w
    rw [rows_eq] at kc
    have KC := Lib.hid kc
    clear kc
    go_enter Tryz.func148, Tryz.ntmps148
    go_wp2_with fail
    refine (KC.out _).mono ?_
    rintro e w1 ⟨rfl, rfl⟩
    go_wp2_with fail
    refine bodyPost_ret (v := .tuple #[.agg (kV 3), .bool true]) (by simp [results, Tryz.results148, go_sem, kV, kindV, fv]) rfl ⟨rfl, ?_⟩
    exact ((Below.refl _ _).alloc (Nat.le_refl _) _).alloc (by simp) _
  · have kc := fun w => kinds_calls w
    rw [rows_eq] at kc
    have KC := Lib.hid kc
    clear kc
    go_enter Tryz.func148, Tryz.ntmps148
    go_wp2_with fail
    refine (KC.out _).mono ?_
    rintro e w1 ⟨rfl, rfl⟩
    go_wp2_with fail
    refine bodyPost_ret (v := .tuple #[.agg (kV 4), .bool true]) (by simp [results, Tryz.results148, go_sem, kV, kindV, fv]) rfl ⟨rfl, ?_⟩
    exact ((Below.refl _ _).alloc (Nat.le_refl _) _).alloc (by simp) _
end Go.Proofs.YtnlinlodgpbnlaaGreat.kin
