/-
  The program's small.
-/
import Derived.Test.YtpggbpbibbhepaaDoorDb
namespace Go.Proofs.YtpggbpbibbhepaaDoor
open Go.ChangeShapes Go.WideShapes Go.ChangeAt Go.RowKit
set_option linter.unusedVariables false
set_option linter.unusedSimpArgs false

theorem within_walk (r a b : Int) (w : World) : Calls Tryd.prog 14 #[.int .i32 r, .int .i32 a, .int .i32 b] w fun e w' => e = .returned (.bool (decide (a ≤ r ∧ r ≤ b))) ∧ w' = w := by
  by_cases h0 : a ≤ r
  · by_cases h1 : r ≤ b
    · have e : decide (a ≤ r ∧ r ≤ b) = true := decide_eq_true ⟨h0, h1⟩
      rw [e]
      go_enter Tryd.func14, Tryd.ntmps14
      go_wp2
      go_ret
      exact ⟨by simp [h1], rfl⟩
    · have e : decide (a ≤ r ∧ r ≤ b) = false := decide_eq_false (fun h => h1 h.2)
      rw [e]
      go_enter Tryd.func14, Tryd.ntmps14
      go_wp2
      go_ret
      exact ⟨by simp [h1], rfl⟩
  · have e : decide (a ≤ r ∧ r ≤ b) = false := decide_eq_false (fun h => h0 h.1)
    rw [e]
    go_enter Tryd.func14, Tryd.ntmps14
    go_wp2
    go_ret
    exact ⟨by simp, rfl⟩

set_option maxRecDepth 1000000 in
theorem small_0 (r : Int) (w : World) (h : r < 65) (hb0 : 0 ≤ r) (hb1 : r ≤ 1114111) : Calls Tryd.prog 8 #[.int .i32 r] w fun e w' => e = .returned (.int .i32 (lowZ r)) ∧ w' = w := by
  have w65 : decide ((65 : Int) ≤ r ∧ r ≤ (90 : Int)) = false := decide_eq_false (by omega)
  have w192 : decide ((192 : Int) ≤ r ∧ r ≤ (222 : Int)) = false := decide_eq_false (by omega)
  have w913 : decide ((913 : Int) ≤ r ∧ r ≤ (939 : Int)) = false := decide_eq_false (by omega)
  have w1040 : decide ((1040 : Int) ≤ r ∧ r ≤ (1071 : Int)) = false := decide_eq_false (by omega)
  have w1024 : decide ((1024 : Int) ≤ r ∧ r ≤ (1039 : Int)) = false := decide_eq_false (by omega)
  have e215 : (r == (215 : Int)) = false := by rw [beq_eq_false_iff_ne]; omega
  have e930 : (r == (930 : Int)) = false := by rw [beq_eq_false_iff_ne]; omega
  have e962 : (r == (962 : Int)) = false := by rw [beq_eq_false_iff_ne]; omega
  have hlow : lowZ r = r := by
    unfold lowZ
    repeat' split
    all_goals omega
  clear h
  rw [hlow]
  go_enter Tryd.func8, Tryd.ntmps8
  go_wp2_with (go_at_call 14; refine (within_walk _ _ _ _).mono ?_; rintro e w' ⟨rfl, rfl⟩; simp only [w65, w192, w913, w1040, w1024])
  go_ret
  exact ⟨ret_int (by first | rfl | go_num), rfl⟩

set_option maxRecDepth 1000000 in
theorem small_1 (r : Int) (w : World) (h : 65 ≤ r ∧ r ≤ 90) (hb0 : 0 ≤ r) (hb1 : r ≤ 1114111) : Calls Tryd.prog 8 #[.int .i32 r] w fun e w' => e = .returned (.int .i32 (lowZ r)) ∧ w' = w := by
  have w65 : decide ((65 : Int) ≤ r ∧ r ≤ (90 : Int)) = true := decide_eq_true (by omega)
  have w192 : decide ((192 : Int) ≤ r ∧ r ≤ (222 : Int)) = false := decide_eq_false (by omega)
  have w913 : decide ((913 : Int) ≤ r ∧ r ≤ (939 : Int)) = false := decide_eq_false (by omega)
  have w1040 : decide ((1040 : Int) ≤ r ∧ r ≤ (1071 : Int)) = false := decide_eq_false (by omega)
  have w1024 : decide ((1024 : Int) ≤ r ∧ r ≤ (1039 : Int)) = false := decide_eq_false (by omega)
  have e215 : (r == (215 : Int)) = false := by rw [beq_eq_false_iff_ne]; omega
  have e930 : (r == (930 : Int)) = false := by rw [beq_eq_false_iff_ne]; omega
  have e962 : (r == (962 : Int)) = false := by rw [beq_eq_false_iff_ne]; omega
  have hlow : lowZ r = r + 32 := by
    unfold lowZ
    repeat' split
    all_goals omega
  clear h
  rw [hlow]
  go_enter Tryd.func8, Tryd.ntmps8
  go_wp2_with (go_at_call 14; refine (within_walk _ _ _ _).mono ?_; rintro e w' ⟨rfl, rfl⟩; simp only [w65, w192, w913, w1040, w1024])
  go_ret
  exact ⟨ret_int (by first | rfl | go_num), rfl⟩

set_option maxRecDepth 1000000 in
theorem small_2 (r : Int) (w : World) (h : 91 ≤ r ∧ r ≤ 191) (hb0 : 0 ≤ r) (hb1 : r ≤ 1114111) : Calls Tryd.prog 8 #[.int .i32 r] w fun e w' => e = .returned (.int .i32 (lowZ r)) ∧ w' = w := by
  have w65 : decide ((65 : Int) ≤ r ∧ r ≤ (90 : Int)) = false := decide_eq_false (by omega)
  have w192 : decide ((192 : Int) ≤ r ∧ r ≤ (222 : Int)) = false := decide_eq_false (by omega)
  have w913 : decide ((913 : Int) ≤ r ∧ r ≤ (939 : Int)) = false := decide_eq_false (by omega)
  have w1040 : decide ((1040 : Int) ≤ r ∧ r ≤ (1071 : Int)) = false := decide_eq_false (by omega)
  have w1024 : decide ((1024 : Int) ≤ r ∧ r ≤ (1039 : Int)) = false := decide_eq_false (by omega)
  have e215 : (r == (215 : Int)) = false := by rw [beq_eq_false_iff_ne]; omega
  have e930 : (r == (930 : Int)) = false := by rw [beq_eq_false_iff_ne]; omega
  have e962 : (r == (962 : Int)) = false := by rw [beq_eq_false_iff_ne]; omega
  have hlow : lowZ r = r := by
    unfold lowZ
    repeat' split
    all_goals omega
  clear h
  rw [hlow]
  go_enter Tryd.func8, Tryd.ntmps8
  go_wp2_with (go_at_call 14; refine (within_walk _ _ _ _).mono ?_; rintro e w' ⟨rfl, rfl⟩; simp only [w65, w192, w913, w1040, w1024])
  go_ret
  exact ⟨ret_int (by first | rfl | go_num), rfl⟩

set_option maxRecDepth 1000000 in
theorem small_3 (r : Int) (w : World) (h : 192 ≤ r ∧ r ≤ 222 ∧ r ≠ 215) (hb0 : 0 ≤ r) (hb1 : r ≤ 1114111) : Calls Tryd.prog 8 #[.int .i32 r] w fun e w' => e = .returned (.int .i32 (lowZ r)) ∧ w' = w := by
  have w65 : decide ((65 : Int) ≤ r ∧ r ≤ (90 : Int)) = false := decide_eq_false (by omega)
  have w192 : decide ((192 : Int) ≤ r ∧ r ≤ (222 : Int)) = true := decide_eq_true (by omega)
  have w913 : decide ((913 : Int) ≤ r ∧ r ≤ (939 : Int)) = false := decide_eq_false (by omega)
  have w1040 : decide ((1040 : Int) ≤ r ∧ r ≤ (1071 : Int)) = false := decide_eq_false (by omega)
  have w1024 : decide ((1024 : Int) ≤ r ∧ r ≤ (1039 : Int)) = false := decide_eq_false (by omega)
  have e215 : (r == (215 : Int)) = false := by rw [beq_eq_false_iff_ne]; omega
  have e930 : (r == (930 : Int)) = false := by rw [beq_eq_false_iff_ne]; omega
  have e962 : (r == (962 : Int)) = false := by rw [beq_eq_false_iff_ne]; omega
  have hlow : lowZ r = r + 32 := by
    unfold lowZ
    repeat' split
    all_goals omega
  clear h
  rw [hlow]
  go_enter Tryd.func8, Tryd.ntmps8
  go_wp2_with (go_at_call 14; refine (within_walk _ _ _ _).mono ?_; rintro e w' ⟨rfl, rfl⟩; simp only [w65, w192, w913, w1040, w1024])
  go_ret
  exact ⟨ret_int (by first | rfl | go_num), rfl⟩

set_option maxRecDepth 1000000 in
theorem small_4 (r : Int) (w : World) (h : r = 215) (hb0 : 0 ≤ r) (hb1 : r ≤ 1114111) : Calls Tryd.prog 8 #[.int .i32 r] w fun e w' => e = .returned (.int .i32 (lowZ r)) ∧ w' = w := by
  have w65 : decide ((65 : Int) ≤ r ∧ r ≤ (90 : Int)) = false := decide_eq_false (by omega)
  have w192 : decide ((192 : Int) ≤ r ∧ r ≤ (222 : Int)) = true := decide_eq_true (by omega)
  have w913 : decide ((913 : Int) ≤ r ∧ r ≤ (939 : Int)) = false := decide_eq_false (by omega)
  have w1040 : decide ((1040 : Int) ≤ r ∧ r ≤ (1071 : Int)) = false := decide_eq_false (by omega)
  have w1024 : decide ((1024 : Int) ≤ r ∧ r ≤ (1039 : Int)) = false := decide_eq_false (by omega)
  have e215 : (r == (215 : Int)) = true := by rw [beq_iff_eq]; omega
  have e930 : (r == (930 : Int)) = false := by rw [beq_eq_false_iff_ne]; omega
  have e962 : (r == (962 : Int)) = false := by rw [beq_eq_false_iff_ne]; omega
  have hlow : lowZ r = r := by
    unfold lowZ
    repeat' split
    all_goals omega
  clear h
  rw [hlow]
  go_enter Tryd.func8, Tryd.ntmps8
  go_wp2_with (go_at_call 14; refine (within_walk _ _ _ _).mono ?_; rintro e w' ⟨rfl, rfl⟩; simp only [w65, w192, w913, w1040, w1024])
  go_ret
  exact ⟨ret_int (by first | rfl | go_num), rfl⟩

set_option maxRecDepth 1000000 in
theorem small_5 (r : Int) (w : World) (h : 223 ≤ r ∧ r ≤ 912) (hb0 : 0 ≤ r) (hb1 : r ≤ 1114111) : Calls Tryd.prog 8 #[.int .i32 r] w fun e w' => e = .returned (.int .i32 (lowZ r)) ∧ w' = w := by
  have w65 : decide ((65 : Int) ≤ r ∧ r ≤ (90 : Int)) = false := decide_eq_false (by omega)
  have w192 : decide ((192 : Int) ≤ r ∧ r ≤ (222 : Int)) = false := decide_eq_false (by omega)
  have w913 : decide ((913 : Int) ≤ r ∧ r ≤ (939 : Int)) = false := decide_eq_false (by omega)
  have w1040 : decide ((1040 : Int) ≤ r ∧ r ≤ (1071 : Int)) = false := decide_eq_false (by omega)
  have w1024 : decide ((1024 : Int) ≤ r ∧ r ≤ (1039 : Int)) = false := decide_eq_false (by omega)
  have e215 : (r == (215 : Int)) = false := by rw [beq_eq_false_iff_ne]; omega
  have e930 : (r == (930 : Int)) = false := by rw [beq_eq_false_iff_ne]; omega
  have e962 : (r == (962 : Int)) = false := by rw [beq_eq_false_iff_ne]; omega
  have hlow : lowZ r = r := by
    unfold lowZ
    repeat' split
    all_goals omega
  clear h
  rw [hlow]
  go_enter Tryd.func8, Tryd.ntmps8
  go_wp2_with (go_at_call 14; refine (within_walk _ _ _ _).mono ?_; rintro e w' ⟨rfl, rfl⟩; simp only [w65, w192, w913, w1040, w1024])
  go_ret
  exact ⟨ret_int (by first | rfl | go_num), rfl⟩

set_option maxRecDepth 1000000 in
theorem small_6 (r : Int) (w : World) (h : 913 ≤ r ∧ r ≤ 939 ∧ r ≠ 930) (hb0 : 0 ≤ r) (hb1 : r ≤ 1114111) : Calls Tryd.prog 8 #[.int .i32 r] w fun e w' => e = .returned (.int .i32 (lowZ r)) ∧ w' = w := by
  have w65 : decide ((65 : Int) ≤ r ∧ r ≤ (90 : Int)) = false := decide_eq_false (by omega)
  have w192 : decide ((192 : Int) ≤ r ∧ r ≤ (222 : Int)) = false := decide_eq_false (by omega)
  have w913 : decide ((913 : Int) ≤ r ∧ r ≤ (939 : Int)) = true := decide_eq_true (by omega)
  have w1040 : decide ((1040 : Int) ≤ r ∧ r ≤ (1071 : Int)) = false := decide_eq_false (by omega)
  have w1024 : decide ((1024 : Int) ≤ r ∧ r ≤ (1039 : Int)) = false := decide_eq_false (by omega)
  have e215 : (r == (215 : Int)) = false := by rw [beq_eq_false_iff_ne]; omega
  have e930 : (r == (930 : Int)) = false := by rw [beq_eq_false_iff_ne]; omega
  have e962 : (r == (962 : Int)) = false := by rw [beq_eq_false_iff_ne]; omega
  have hlow : lowZ r = r + 32 := by
    unfold lowZ
    repeat' split
    all_goals omega
  clear h
  rw [hlow]
  go_enter Tryd.func8, Tryd.ntmps8
  go_wp2_with (go_at_call 14; refine (within_walk _ _ _ _).mono ?_; rintro e w' ⟨rfl, rfl⟩; simp only [w65, w192, w913, w1040, w1024])
  go_ret
  exact ⟨ret_int (by first | rfl | go_num), rfl⟩

set_option maxRecDepth 1000000 in
theorem small_7 (r : Int) (w : World) (h : r = 930) (hb0 : 0 ≤ r) (hb1 : r ≤ 1114111) : Calls Tryd.prog 8 #[.int .i32 r] w fun e w' => e = .returned (.int .i32 (lowZ r)) ∧ w' = w := by
  have w65 : decide ((65 : Int) ≤ r ∧ r ≤ (90 : Int)) = false := decide_eq_false (by omega)
  have w192 : decide ((192 : Int) ≤ r ∧ r ≤ (222 : Int)) = false := decide_eq_false (by omega)
  have w913 : decide ((913 : Int) ≤ r ∧ r ≤ (939 : Int)) = true := decide_eq_true (by omega)
  have w1040 : decide ((1040 : Int) ≤ r ∧ r ≤ (1071 : Int)) = false := decide_eq_false (by omega)
  have w1024 : decide ((1024 : Int) ≤ r ∧ r ≤ (1039 : Int)) = false := decide_eq_false (by omega)
  have e215 : (r == (215 : Int)) = false := by rw [beq_eq_false_iff_ne]; omega
  have e930 : (r == (930 : Int)) = true := by rw [beq_iff_eq]; omega
  have e962 : (r == (962 : Int)) = false := by rw [beq_eq_false_iff_ne]; omega
  have hlow : lowZ r = r := by
    unfold lowZ
    repeat' split
    all_goals omega
  clear h
  rw [hlow]
  go_enter Tryd.func8, Tryd.ntmps8
  go_wp2_with (go_at_call 14; refine (within_walk _ _ _ _).mono ?_; rintro e w' ⟨rfl, rfl⟩; simp only [w65, w192, w913, w1040, w1024])
  go_ret
  exact ⟨ret_int (by first | rfl | go_num), rfl⟩

set_option maxRecDepth 1000000 in
theorem small_8 (r : Int) (w : World) (h : 940 ≤ r ∧ r ≤ 1023 ∧ r ≠ 962) (hb0 : 0 ≤ r) (hb1 : r ≤ 1114111) : Calls Tryd.prog 8 #[.int .i32 r] w fun e w' => e = .returned (.int .i32 (lowZ r)) ∧ w' = w := by
  have w65 : decide ((65 : Int) ≤ r ∧ r ≤ (90 : Int)) = false := decide_eq_false (by omega)
  have w192 : decide ((192 : Int) ≤ r ∧ r ≤ (222 : Int)) = false := decide_eq_false (by omega)
  have w913 : decide ((913 : Int) ≤ r ∧ r ≤ (939 : Int)) = false := decide_eq_false (by omega)
  have w1040 : decide ((1040 : Int) ≤ r ∧ r ≤ (1071 : Int)) = false := decide_eq_false (by omega)
  have w1024 : decide ((1024 : Int) ≤ r ∧ r ≤ (1039 : Int)) = false := decide_eq_false (by omega)
  have e215 : (r == (215 : Int)) = false := by rw [beq_eq_false_iff_ne]; omega
  have e930 : (r == (930 : Int)) = false := by rw [beq_eq_false_iff_ne]; omega
  have e962 : (r == (962 : Int)) = false := by rw [beq_eq_false_iff_ne]; omega
  have hlow : lowZ r = r := by
    unfold lowZ
    repeat' split
    all_goals omega
  clear h
  rw [hlow]
  go_enter Tryd.func8, Tryd.ntmps8
  go_wp2_with (go_at_call 14; refine (within_walk _ _ _ _).mono ?_; rintro e w' ⟨rfl, rfl⟩; simp only [w65, w192, w913, w1040, w1024])
  go_ret
  exact ⟨ret_int (by first | rfl | go_num), rfl⟩

set_option maxRecDepth 1000000 in
theorem small_9 (r : Int) (w : World) (h : r = 962) (hb0 : 0 ≤ r) (hb1 : r ≤ 1114111) : Calls Tryd.prog 8 #[.int .i32 r] w fun e w' => e = .returned (.int .i32 (lowZ r)) ∧ w' = w := by
  have w65 : decide ((65 : Int) ≤ r ∧ r ≤ (90 : Int)) = false := decide_eq_false (by omega)
  have w192 : decide ((192 : Int) ≤ r ∧ r ≤ (222 : Int)) = false := decide_eq_false (by omega)
  have w913 : decide ((913 : Int) ≤ r ∧ r ≤ (939 : Int)) = false := decide_eq_false (by omega)
  have w1040 : decide ((1040 : Int) ≤ r ∧ r ≤ (1071 : Int)) = false := decide_eq_false (by omega)
  have w1024 : decide ((1024 : Int) ≤ r ∧ r ≤ (1039 : Int)) = false := decide_eq_false (by omega)
  have e215 : (r == (215 : Int)) = false := by rw [beq_eq_false_iff_ne]; omega
  have e930 : (r == (930 : Int)) = false := by rw [beq_eq_false_iff_ne]; omega
  have e962 : (r == (962 : Int)) = true := by rw [beq_iff_eq]; omega
  have hlow : lowZ r = 963 := by
    unfold lowZ
    repeat' split
    all_goals omega
  clear h
  rw [hlow]
  go_enter Tryd.func8, Tryd.ntmps8
  go_wp2_with (go_at_call 14; refine (within_walk _ _ _ _).mono ?_; rintro e w' ⟨rfl, rfl⟩; simp only [w65, w192, w913, w1040, w1024])
  go_ret
  exact ⟨ret_int (by first | rfl | go_num), rfl⟩

set_option maxRecDepth 1000000 in
theorem small_10 (r : Int) (w : World) (h : 1024 ≤ r ∧ r ≤ 1039) (hb0 : 0 ≤ r) (hb1 : r ≤ 1114111) : Calls Tryd.prog 8 #[.int .i32 r] w fun e w' => e = .returned (.int .i32 (lowZ r)) ∧ w' = w := by
  have w65 : decide ((65 : Int) ≤ r ∧ r ≤ (90 : Int)) = false := decide_eq_false (by omega)
  have w192 : decide ((192 : Int) ≤ r ∧ r ≤ (222 : Int)) = false := decide_eq_false (by omega)
  have w913 : decide ((913 : Int) ≤ r ∧ r ≤ (939 : Int)) = false := decide_eq_false (by omega)
  have w1040 : decide ((1040 : Int) ≤ r ∧ r ≤ (1071 : Int)) = false := decide_eq_false (by omega)
  have w1024 : decide ((1024 : Int) ≤ r ∧ r ≤ (1039 : Int)) = true := decide_eq_true (by omega)
  have e215 : (r == (215 : Int)) = false := by rw [beq_eq_false_iff_ne]; omega
  have e930 : (r == (930 : Int)) = false := by rw [beq_eq_false_iff_ne]; omega
  have e962 : (r == (962 : Int)) = false := by rw [beq_eq_false_iff_ne]; omega
  have hlow : lowZ r = r + 80 := by
    unfold lowZ
    repeat' split
    all_goals omega
  clear h
  rw [hlow]
  go_enter Tryd.func8, Tryd.ntmps8
  go_wp2_with (go_at_call 14; refine (within_walk _ _ _ _).mono ?_; rintro e w' ⟨rfl, rfl⟩; simp only [w65, w192, w913, w1040, w1024])
  go_ret
  exact ⟨ret_int (by first | rfl | go_num), rfl⟩

set_option maxRecDepth 1000000 in
theorem small_11 (r : Int) (w : World) (h : 1040 ≤ r ∧ r ≤ 1071) (hb0 : 0 ≤ r) (hb1 : r ≤ 1114111) : Calls Tryd.prog 8 #[.int .i32 r] w fun e w' => e = .returned (.int .i32 (lowZ r)) ∧ w' = w := by
  have w65 : decide ((65 : Int) ≤ r ∧ r ≤ (90 : Int)) = false := decide_eq_false (by omega)
  have w192 : decide ((192 : Int) ≤ r ∧ r ≤ (222 : Int)) = false := decide_eq_false (by omega)
  have w913 : decide ((913 : Int) ≤ r ∧ r ≤ (939 : Int)) = false := decide_eq_false (by omega)
  have w1040 : decide ((1040 : Int) ≤ r ∧ r ≤ (1071 : Int)) = true := decide_eq_true (by omega)
  have w1024 : decide ((1024 : Int) ≤ r ∧ r ≤ (1039 : Int)) = false := decide_eq_false (by omega)
  have e215 : (r == (215 : Int)) = false := by rw [beq_eq_false_iff_ne]; omega
  have e930 : (r == (930 : Int)) = false := by rw [beq_eq_false_iff_ne]; omega
  have e962 : (r == (962 : Int)) = false := by rw [beq_eq_false_iff_ne]; omega
  have hlow : lowZ r = r + 32 := by
    unfold lowZ
    repeat' split
    all_goals omega
  clear h
  rw [hlow]
  go_enter Tryd.func8, Tryd.ntmps8
  go_wp2_with (go_at_call 14; refine (within_walk _ _ _ _).mono ?_; rintro e w' ⟨rfl, rfl⟩; simp only [w65, w192, w913, w1040, w1024])
  go_ret
  exact ⟨ret_int (by first | rfl | go_num), rfl⟩

set_option maxRecDepth 1000000 in
theorem small_12 (r : Int) (w : World) (h : 1072 ≤ r) (hb0 : 0 ≤ r) (hb1 : r ≤ 1114111) : Calls Tryd.prog 8 #[.int .i32 r] w fun e w' => e = .returned (.int .i32 (lowZ r)) ∧ w' = w := by
  have w65 : decide ((65 : Int) ≤ r ∧ r ≤ (90 : Int)) = false := decide_eq_false (by omega)
  have w192 : decide ((192 : Int) ≤ r ∧ r ≤ (222 : Int)) = false := decide_eq_false (by omega)
  have w913 : decide ((913 : Int) ≤ r ∧ r ≤ (939 : Int)) = false := decide_eq_false (by omega)
  have w1040 : decide ((1040 : Int) ≤ r ∧ r ≤ (1071 : Int)) = false := decide_eq_false (by omega)
  have w1024 : decide ((1024 : Int) ≤ r ∧ r ≤ (1039 : Int)) = false := decide_eq_false (by omega)
  have e215 : (r == (215 : Int)) = false := by rw [beq_eq_false_iff_ne]; omega
  have e930 : (r == (930 : Int)) = false := by rw [beq_eq_false_iff_ne]; omega
  have e962 : (r == (962 : Int)) = false := by rw [beq_eq_false_iff_ne]; omega
  have hlow : lowZ r = r := by
    unfold lowZ
    repeat' split
    all_goals omega
  clear h
  rw [hlow]
  go_enter Tryd.func8, Tryd.ntmps8
  go_wp2_with (go_at_call 14; refine (within_walk _ _ _ _).mono ?_; rintro e w' ⟨rfl, rfl⟩; simp only [w65, w192, w913, w1040, w1024])
  go_ret
  exact ⟨ret_int (by first | rfl | go_num), rfl⟩

theorem small_walk (r : Int) (w : World) (hb0 : 0 ≤ r) (hb1 : r ≤ 1114111) : Calls Tryd.prog 8 #[.int .i32 r] w fun e w' => e = .returned (.int .i32 (lowZ r)) ∧ w' = w := by
  by_cases h0 : r < 65
  · exact small_0 r w h0 hb0 hb1
  by_cases h1 : 65 ≤ r ∧ r ≤ 90
  · exact small_1 r w h1 hb0 hb1
  by_cases h2 : 91 ≤ r ∧ r ≤ 191
  · exact small_2 r w h2 hb0 hb1
  by_cases h3 : 192 ≤ r ∧ r ≤ 222 ∧ r ≠ 215
  · exact small_3 r w h3 hb0 hb1
  by_cases h4 : r = 215
  · exact small_4 r w h4 hb0 hb1
  by_cases h5 : 223 ≤ r ∧ r ≤ 912
  · exact small_5 r w h5 hb0 hb1
  by_cases h6 : 913 ≤ r ∧ r ≤ 939 ∧ r ≠ 930
  · exact small_6 r w h6 hb0 hb1
  by_cases h7 : r = 930
  · exact small_7 r w h7 hb0 hb1
  by_cases h8 : 940 ≤ r ∧ r ≤ 1023 ∧ r ≠ 962
  · exact small_8 r w h8 hb0 hb1
  by_cases h9 : r = 962
  · exact small_9 r w h9 hb0 hb1
  by_cases h10 : 1024 ≤ r ∧ r ≤ 1039
  · exact small_10 r w h10 hb0 hb1
  by_cases h11 : 1040 ≤ r ∧ r ≤ 1071
  · exact small_11 r w h11 hb0 hb1
  by_cases h12 : 1072 ≤ r
  · exact small_12 r w h12 hb0 hb1
  omega
end Go.Proofs.YtpggbpbibbhepaaDoor
