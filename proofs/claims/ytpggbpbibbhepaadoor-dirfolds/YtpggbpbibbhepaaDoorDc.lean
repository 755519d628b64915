/-
  The reference's lower.
-/
import Derived.Test.YtpggbpbibbhepaaDoorDb
namespace Go.Proofs.YtpggbpbibbhepaaDoor
open Go.ChangeShapes Go.WideShapes Go.ChangeAt Go.RowKit
set_option linter.unusedVariables false

set_option maxRecDepth 1000000 in
theorem refLower_0 (r : Int) (w : World) (h : r < 65) (hb : -2147483648 ≤ r ∧ r ≤ 2147483647) : Calls Tryd.prog 12 #[.int .i64 r] w fun e w' => e = .returned (.int .i64 (lowZ r)) ∧ w' = w := by
  have g65 : ¬ (65 : Int) ≤ r := by omega
  have g65d : decide ((65 : Int) ≤ r) = false := by simpa using g65
  have g192 : ¬ (192 : Int) ≤ r := by omega
  have g192d : decide ((192 : Int) ≤ r) = false := by simpa using g192
  have g913 : ¬ (913 : Int) ≤ r := by omega
  have g913d : decide ((913 : Int) ≤ r) = false := by simpa using g913
  have g1040 : ¬ (1040 : Int) ≤ r := by omega
  have g1040d : decide ((1040 : Int) ≤ r) = false := by simpa using g1040
  have g1024 : ¬ (1024 : Int) ≤ r := by omega
  have g1024d : decide ((1024 : Int) ≤ r) = false := by simpa using g1024
  have l90 : r ≤ (90 : Int) := by omega
  have l90d : decide (r ≤ (90 : Int)) = true := by simpa using l90
  have l222 : r ≤ (222 : Int) := by omega
  have l222d : decide (r ≤ (222 : Int)) = true := by simpa using l222
  have l939 : r ≤ (939 : Int) := by omega
  have l939d : decide (r ≤ (939 : Int)) = true := by simpa using l939
  have l1071 : r ≤ (1071 : Int) := by omega
  have l1071d : decide (r ≤ (1071 : Int)) = true := by simpa using l1071
  have l1039 : r ≤ (1039 : Int) := by omega
  have l1039d : decide (r ≤ (1039 : Int)) = true := by simpa using l1039
  have e215 : ¬ r = (215 : Int) := by omega
  have e215d : (r == (215 : Int)) = false := by simpa using e215
  have e930 : ¬ r = (930 : Int) := by omega
  have e930d : (r == (930 : Int)) = false := by simpa using e930
  have e962 : ¬ r = (962 : Int) := by omega
  have e962d : (r == (962 : Int)) = false := by simpa using e962
  have hlow : lowZ r = r := by
    unfold lowZ
    repeat' split
    all_goals omega
  clear h
  rw [hlow]
  go_enter Tryd.func12, Tryd.ntmps12
  go_wp2
  go_ret
  exact ⟨ret_int (by go_num), rfl⟩

set_option maxRecDepth 1000000 in
theorem refLower_1 (r : Int) (w : World) (h : 65 ≤ r ∧ r ≤ 90) (hb : -2147483648 ≤ r ∧ r ≤ 2147483647) : Calls Tryd.prog 12 #[.int .i64 r] w fun e w' => e = .returned (.int .i64 (lowZ r)) ∧ w' = w := by
  have g65 : (65 : Int) ≤ r := by omega
  have g65d : decide ((65 : Int) ≤ r) = true := by simpa using g65
  have g192 : ¬ (192 : Int) ≤ r := by omega
  have g192d : decide ((192 : Int) ≤ r) = false := by simpa using g192
  have g913 : ¬ (913 : Int) ≤ r := by omega
  have g913d : decide ((913 : Int) ≤ r) = false := by simpa using g913
  have g1040 : ¬ (1040 : Int) ≤ r := by omega
  have g1040d : decide ((1040 : Int) ≤ r) = false := by simpa using g1040
  have g1024 : ¬ (1024 : Int) ≤ r := by omega
  have g1024d : decide ((1024 : Int) ≤ r) = false := by simpa using g1024
  have l90 : r ≤ (90 : Int) := by omega
  have l90d : decide (r ≤ (90 : Int)) = true := by simpa using l90
  have l222 : r ≤ (222 : Int) := by omega
  have l222d : decide (r ≤ (222 : Int)) = true := by simpa using l222
  have l939 : r ≤ (939 : Int) := by omega
  have l939d : decide (r ≤ (939 : Int)) = true := by simpa using l939
  have l1071 : r ≤ (1071 : Int) := by omega
  have l1071d : decide (r ≤ (1071 : Int)) = true := by simpa using l1071
  have l1039 : r ≤ (1039 : Int) := by omega
  have l1039d : decide (r ≤ (1039 : Int)) = true := by simpa using l1039
  have e215 : ¬ r = (215 : Int) := by omega
  have e215d : (r == (215 : Int)) = false := by simpa using e215
  have e930 : ¬ r = (930 : Int) := by omega
  have e930d : (r == (930 : Int)) = false := by simpa using e930
  have e962 : ¬ r = (962 : Int) := by omega
  have e962d : (r == (962 : Int)) = false := by simpa using e962
  have hlow : lowZ r = r + 32 := by
    unfold lowZ
    repeat' split
    all_goals omega
  clear h
  rw [hlow]
  go_enter Tryd.func12, Tryd.ntmps12
  go_wp2
  go_ret
  exact ⟨ret_int (by go_num), rfl⟩

set_option maxRecDepth 1000000 in
theorem refLower_2 (r : Int) (w : World) (h : 91 ≤ r ∧ r ≤ 191) (hb : -2147483648 ≤ r ∧ r ≤ 2147483647) : Calls Tryd.prog 12 #[.int .i64 r] w fun e w' => e = .returned (.int .i64 (lowZ r)) ∧ w' = w := by
  have g65 : (65 : Int) ≤ r := by omega
  have g65d : decide ((65 : Int) ≤ r) = true := by simpa using g65
  have g192 : ¬ (192 : Int) ≤ r := by omega
  have g192d : decide ((192 : Int) ≤ r) = false := by simpa using g192
  have g913 : ¬ (913 : Int) ≤ r := by omega
  have g913d : decide ((913 : Int) ≤ r) = false := by simpa using g913
  have g1040 : ¬ (1040 : Int) ≤ r := by omega
  have g1040d : decide ((1040 : Int) ≤ r) = false := by simpa using g1040
  have g1024 : ¬ (1024 : Int) ≤ r := by omega
  have g1024d : decide ((1024 : Int) ≤ r) = false := by simpa using g1024
  have l90 : ¬ r ≤ (90 : Int) := by omega
  have l90d : decide (r ≤ (90 : Int)) = false := by simpa using l90
  have l222 : r ≤ (222 : Int) := by omega
  have l222d : decide (r ≤ (222 : Int)) = true := by simpa using l222
  have l939 : r ≤ (939 : Int) := by omega
  have l939d : decide (r ≤ (939 : Int)) = true := by simpa using l939
  have l1071 : r ≤ (1071 : Int) := by omega
  have l1071d : decide (r ≤ (1071 : Int)) = true := by simpa using l1071
  have l1039 : r ≤ (1039 : Int) := by omega
  have l1039d : decide (r ≤ (1039 : Int)) = true := by simpa using l1039
  have e215 : ¬ r = (215 : Int) := by omega
  have e215d : (r == (215 : Int)) = false := by simpa using e215
  have e930 : ¬ r = (930 : Int) := by omega
  have e930d : (r == (930 : Int)) = false := by simpa using e930
  have e962 : ¬ r = (962 : Int) := by omega
  have e962d : (r == (962 : Int)) = false := by simpa using e962
  have hlow : lowZ r = r := by
    unfold lowZ
    repeat' split
    all_goals omega
  clear h
  rw [hlow]
  go_enter Tryd.func12, Tryd.ntmps12
  go_wp2
  go_ret
  exact ⟨ret_int (by go_num), rfl⟩

set_option maxRecDepth 1000000 in
theorem refLower_3 (r : Int) (w : World) (h : 192 ≤ r ∧ r ≤ 222 ∧ r ≠ 215) (hb : -2147483648 ≤ r ∧ r ≤ 2147483647) : Calls Tryd.prog 12 #[.int .i64 r] w fun e w' => e = .returned (.int .i64 (lowZ r)) ∧ w' = w := by
  have g65 : (65 : Int) ≤ r := by omega
  have g65d : decide ((65 : Int) ≤ r) = true := by simpa using g65
  have g192 : (192 : Int) ≤ r := by omega
  have g192d : decide ((192 : Int) ≤ r) = true := by simpa using g192
  have g913 : ¬ (913 : Int) ≤ r := by omega
  have g913d : decide ((913 : Int) ≤ r) = false := by simpa using g913
  have g1040 : ¬ (1040 : Int) ≤ r := by omega
  have g1040d : decide ((1040 : Int) ≤ r) = false := by simpa using g1040
  have g1024 : ¬ (1024 : Int) ≤ r := by omega
  have g1024d : decide ((1024 : Int) ≤ r) = false := by simpa using g1024
  have l90 : ¬ r ≤ (90 : Int) := by omega
  have l90d : decide (r ≤ (90 : Int)) = false := by simpa using l90
  have l222 : r ≤ (222 : Int) := by omega
  have l222d : decide (r ≤ (222 : Int)) = true := by simpa using l222
  have l939 : r ≤ (939 : Int) := by omega
  have l939d : decide (r ≤ (939 : Int)) = true := by simpa using l939
  have l1071 : r ≤ (1071 : Int) := by omega
  have l1071d : decide (r ≤ (1071 : Int)) = true := by simpa using l1071
  have l1039 : r ≤ (1039 : Int) := by omega
  have l1039d : decide (r ≤ (1039 : Int)) = true := by simpa using l1039
  have e215 : ¬ r = (215 : Int) := by omega
  have e215d : (r == (215 : Int)) = false := by simpa using e215
  have e930 : ¬ r = (930 : Int) := by omega
  have e930d : (r == (930 : Int)) = false := by simpa using e930
  have e962 : ¬ r = (962 : Int) := by omega
  have e962d : (r == (962 : Int)) = false := by simpa using e962
  have hlow : lowZ r = r + 32 := by
    unfold lowZ
    repeat' split
    all_goals omega
  clear h
  rw [hlow]
  go_enter Tryd.func12, Tryd.ntmps12
  go_wp2
  go_ret
  exact ⟨ret_int (by go_num), rfl⟩

set_option maxRecDepth 1000000 in
theorem refLower_4 (r : Int) (w : World) (h : r = 215) (hb : -2147483648 ≤ r ∧ r ≤ 2147483647) : Calls Tryd.prog 12 #[.int .i64 r] w fun e w' => e = .returned (.int .i64 (lowZ r)) ∧ w' = w := by
  have g65 : (65 : Int) ≤ r := by omega
  have g65d : decide ((65 : Int) ≤ r) = true := by simpa using g65
  have g192 : (192 : Int) ≤ r := by omega
  have g192d : decide ((192 : Int) ≤ r) = true := by simpa using g192
  have g913 : ¬ (913 : Int) ≤ r := by omega
  have g913d : decide ((913 : Int) ≤ r) = false := by simpa using g913
  have g1040 : ¬ (1040 : Int) ≤ r := by omega
  have g1040d : decide ((1040 : Int) ≤ r) = false := by simpa using g1040
  have g1024 : ¬ (1024 : Int) ≤ r := by omega
  have g1024d : decide ((1024 : Int) ≤ r) = false := by simpa using g1024
  have l90 : ¬ r ≤ (90 : Int) := by omega
  have l90d : decide (r ≤ (90 : Int)) = false := by simpa using l90
  have l222 : r ≤ (222 : Int) := by omega
  have l222d : decide (r ≤ (222 : Int)) = true := by simpa using l222
  have l939 : r ≤ (939 : Int) := by omega
  have l939d : decide (r ≤ (939 : Int)) = true := by simpa using l939
  have l1071 : r ≤ (1071 : Int) := by omega
  have l1071d : decide (r ≤ (1071 : Int)) = true := by simpa using l1071
  have l1039 : r ≤ (1039 : Int) := by omega
  have l1039d : decide (r ≤ (1039 : Int)) = true := by simpa using l1039
  have e215 : r = (215 : Int) := by omega
  have e215d : (r == (215 : Int)) = true := by simpa using e215
  have e930 : ¬ r = (930 : Int) := by omega
  have e930d : (r == (930 : Int)) = false := by simpa using e930
  have e962 : ¬ r = (962 : Int) := by omega
  have e962d : (r == (962 : Int)) = false := by simpa using e962
  have hlow : lowZ r = r := by
    unfold lowZ
    repeat' split
    all_goals omega
  clear h
  rw [hlow]
  go_enter Tryd.func12, Tryd.ntmps12
  go_wp2
  go_ret
  exact ⟨ret_int (by go_num), rfl⟩

set_option maxRecDepth 1000000 in
theorem refLower_5 (r : Int) (w : World) (h : 223 ≤ r ∧ r ≤ 912) (hb : -2147483648 ≤ r ∧ r ≤ 2147483647) : Calls Tryd.prog 12 #[.int .i64 r] w fun e w' => e = .returned (.int .i64 (lowZ r)) ∧ w' = w := by
  have g65 : (65 : Int) ≤ r := by omega
  have g65d : decide ((65 : Int) ≤ r) = true := by simpa using g65
  have g192 : (192 : Int) ≤ r := by omega
  have g192d : decide ((192 : Int) ≤ r) = true := by simpa using g192
  have g913 : ¬ (913 : Int) ≤ r := by omega
  have g913d : decide ((913 : Int) ≤ r) = false := by simpa using g913
  have g1040 : ¬ (1040 : Int) ≤ r := by omega
  have g1040d : decide ((1040 : Int) ≤ r) = false := by simpa using g1040
  have g1024 : ¬ (1024 : Int) ≤ r := by omega
  have g1024d : decide ((1024 : Int) ≤ r) = false := by simpa using g1024
  have l90 : ¬ r ≤ (90 : Int) := by omega
  have l90d : decide (r ≤ (90 : Int)) = false := by simpa using l90
  have l222 : ¬ r ≤ (222 : Int) := by omega
  have l222d : decide (r ≤ (222 : Int)) = false := by simpa using l222
  have l939 : r ≤ (939 : Int) := by omega
  have l939d : decide (r ≤ (939 : Int)) = true := by simpa using l939
  have l1071 : r ≤ (1071 : Int) := by omega
  have l1071d : decide (r ≤ (1071 : Int)) = true := by simpa using l1071
  have l1039 : r ≤ (1039 : Int) := by omega
  have l1039d : decide (r ≤ (1039 : Int)) = true := by simpa using l1039
  have e215 : ¬ r = (215 : Int) := by omega
  have e215d : (r == (215 : Int)) = false := by simpa using e215
  have e930 : ¬ r = (930 : Int) := by omega
  have e930d : (r == (930 : Int)) = false := by simpa using e930
  have e962 : ¬ r = (962 : Int) := by omega
  have e962d : (r == (962 : Int)) = false := by simpa using e962
  have hlow : lowZ r = r := by
    unfold lowZ
    repeat' split
    all_goals omega
  clear h
  rw [hlow]
  go_enter Tryd.func12, Tryd.ntmps12
  go_wp2
  go_ret
  exact ⟨ret_int (by go_num), rfl⟩

set_option maxRecDepth 1000000 in
theorem refLower_6 (r : Int) (w : World) (h : 913 ≤ r ∧ r ≤ 939 ∧ r ≠ 930) (hb : -2147483648 ≤ r ∧ r ≤ 2147483647) : Calls Tryd.prog 12 #[.int .i64 r] w fun e w' => e = .returned (.int .i64 (lowZ r)) ∧ w' = w := by
  have g65 : (65 : Int) ≤ r := by omega
  have g65d : decide ((65 : Int) ≤ r) = true := by simpa using g65
  have g192 : (192 : Int) ≤ r := by omega
  have g192d : decide ((192 : Int) ≤ r) = true := by simpa using g192
  have g913 : (913 : Int) ≤ r := by omega
  have g913d : decide ((913 : Int) ≤ r) = true := by simpa using g913
  have g1040 : ¬ (1040 : Int) ≤ r := by omega
  have g1040d : decide ((1040 : Int) ≤ r) = false := by simpa using g1040
  have g1024 : ¬ (1024 : Int) ≤ r := by omega
  have g1024d : decide ((1024 : Int) ≤ r) = false := by simpa using g1024
  have l90 : ¬ r ≤ (90 : Int) := by omega
  have l90d : decide (r ≤ (90 : Int)) = false := by simpa using l90
  have l222 : ¬ r ≤ (222 : Int) := by omega
  have l222d : decide (r ≤ (222 : Int)) = false := by simpa using l222
  have l939 : r ≤ (939 : Int) := by omega
  have l939d : decide (r ≤ (939 : Int)) = true := by simpa using l939
  have l1071 : r ≤ (1071 : Int) := by omega
  have l1071d : decide (r ≤ (1071 : Int)) = true := by simpa using l1071
  have l1039 : r ≤ (1039 : Int) := by omega
  have l1039d : decide (r ≤ (1039 : Int)) = true := by simpa using l1039
  have e215 : ¬ r = (215 : Int) := by omega
  have e215d : (r == (215 : Int)) = false := by simpa using e215
  have e930 : ¬ r = (930 : Int) := by omega
  have e930d : (r == (930 : Int)) = false := by simpa using e930
  have e962 : ¬ r = (962 : Int) := by omega
  have e962d : (r == (962 : Int)) = false := by simpa using e962
  have hlow : lowZ r = r + 32 := by
    unfold lowZ
    repeat' split
    all_goals omega
  clear h
  rw [hlow]
  go_enter Tryd.func12, Tryd.ntmps12
  go_wp2
  go_ret
  exact ⟨ret_int (by go_num), rfl⟩

set_option maxRecDepth 1000000 in
theorem refLower_7 (r : Int) (w : World) (h : r = 930) (hb : -2147483648 ≤ r ∧ r ≤ 2147483647) : Calls Tryd.prog 12 #[.int .i64 r] w fun e w' => e = .returned (.int .i64 (lowZ r)) ∧ w' = w := by
  have g65 : (65 : Int) ≤ r := by omega
  have g65d : decide ((65 : Int) ≤ r) = true := by simpa using g65
  have g192 : (192 : Int) ≤ r := by omega
  have g192d : decide ((192 : Int) ≤ r) = true := by simpa using g192
  have g913 : (913 : Int) ≤ r := by omega
  have g913d : decide ((913 : Int) ≤ r) = true := by simpa using g913
  have g1040 : ¬ (1040 : Int) ≤ r := by omega
  have g1040d : decide ((1040 : Int) ≤ r) = false := by simpa using g1040
  have g1024 : ¬ (1024 : Int) ≤ r := by omega
  have g1024d : decide ((1024 : Int) ≤ r) = false := by simpa using g1024
  have l90 : ¬ r ≤ (90 : Int) := by omega
  have l90d : decide (r ≤ (90 : Int)) = false := by simpa using l90
  have l222 : ¬ r ≤ (222 : Int) := by omega
  have l222d : decide (r ≤ (222 : Int)) = false := by simpa using l222
  have l939 : r ≤ (939 : Int) := by omega
  have l939d : decide (r ≤ (939 : Int)) = true := by simpa using l939
  have l1071 : r ≤ (1071 : Int) := by omega
  have l1071d : decide (r ≤ (1071 : Int)) = true := by simpa using l1071
  have l1039 : r ≤ (1039 : Int) := by omega
  have l1039d : decide (r ≤ (1039 : Int)) = true := by simpa using l1039
  have e215 : ¬ r = (215 : Int) := by omega
  have e215d : (r == (215 : Int)) = false := by simpa using e215
  have e930 : r = (930 : Int) := by omega
  have e930d : (r == (930 : Int)) = true := by simpa using e930
  have e962 : ¬ r = (962 : Int) := by omega
  have e962d : (r == (962 : Int)) = false := by simpa using e962
  have hlow : lowZ r = r := by
    unfold lowZ
    repeat' split
    all_goals omega
  clear h
  rw [hlow]
  go_enter Tryd.func12, Tryd.ntmps12
  go_wp2
  go_ret
  exact ⟨ret_int (by go_num), rfl⟩

set_option maxRecDepth 1000000 in
theorem refLower_8 (r : Int) (w : World) (h : 940 ≤ r ∧ r ≤ 1023 ∧ r ≠ 962) (hb : -2147483648 ≤ r ∧ r ≤ 2147483647) : Calls Tryd.prog 12 #[.int .i64 r] w fun e w' => e = .returned (.int .i64 (lowZ r)) ∧ w' = w := by
  have g65 : (65 : Int) ≤ r := by omega
  have g65d : decide ((65 : Int) ≤ r) = true := by simpa using g65
  have g192 : (192 : Int) ≤ r := by omega
  have g192d : decide ((192 : Int) ≤ r) = true := by simpa using g192
  have g913 : (913 : Int) ≤ r := by omega
  have g913d : decide ((913 : Int) ≤ r) = true := by simpa using g913
  have g1040 : ¬ (1040 : Int) ≤ r := by omega
  have g1040d : decide ((1040 : Int) ≤ r) = false := by simpa using g1040
  have g1024 : ¬ (1024 : Int) ≤ r := by omega
  have g1024d : decide ((1024 : Int) ≤ r) = false := by simpa using g1024
  have l90 : ¬ r ≤ (90 : Int) := by omega
  have l90d : decide (r ≤ (90 : Int)) = false := by simpa using l90
  have l222 : ¬ r ≤ (222 : Int) := by omega
  have l222d : decide (r ≤ (222 : Int)) = false := by simpa using l222
  have l939 : ¬ r ≤ (939 : Int) := by omega
  have l939d : decide (r ≤ (939 : Int)) = false := by simpa using l939
  have l1071 : r ≤ (1071 : Int) := by omega
  have l1071d : decide (r ≤ (1071 : Int)) = true := by simpa using l1071
  have l1039 : r ≤ (1039 : Int) := by omega
  have l1039d : decide (r ≤ (1039 : Int)) = true := by simpa using l1039
  have e215 : ¬ r = (215 : Int) := by omega
  have e215d : (r == (215 : Int)) = false := by simpa using e215
  have e930 : ¬ r = (930 : Int) := by omega
  have e930d : (r == (930 : Int)) = false := by simpa using e930
  have e962 : ¬ r = (962 : Int) := by omega
  have e962d : (r == (962 : Int)) = false := by simpa using e962
  have hlow : lowZ r = r := by
    unfold lowZ
    repeat' split
    all_goals omega
  clear h
  rw [hlow]
  go_enter Tryd.func12, Tryd.ntmps12
  go_wp2
  go_ret
  exact ⟨ret_int (by go_num), rfl⟩

set_option maxRecDepth 1000000 in
theorem refLower_9 (r : Int) (w : World) (h : r = 962) (hb : -2147483648 ≤ r ∧ r ≤ 2147483647) : Calls Tryd.prog 12 #[.int .i64 r] w fun e w' => e = .returned (.int .i64 (lowZ r)) ∧ w' = w := by
  have g65 : (65 : Int) ≤ r := by omega
  have g65d : decide ((65 : Int) ≤ r) = true := by simpa using g65
  have g192 : (192 : Int) ≤ r := by omega
  have g192d : decide ((192 : Int) ≤ r) = true := by simpa using g192
  have g913 : (913 : Int) ≤ r := by omega
  have g913d : decide ((913 : Int) ≤ r) = true := by simpa using g913
  have g1040 : ¬ (1040 : Int) ≤ r := by omega
  have g1040d : decide ((1040 : Int) ≤ r) = false := by simpa using g1040
  have g1024 : ¬ (1024 : Int) ≤ r := by omega
  have g1024d : decide ((1024 : Int) ≤ r) = false := by simpa using g1024
  have l90 : ¬ r ≤ (90 : Int) := by omega
  have l90d : decide (r ≤ (90 : Int)) = false := by simpa using l90
  have l222 : ¬ r ≤ (222 : Int) := by omega
  have l222d : decide (r ≤ (222 : Int)) = false := by simpa using l222
  have l939 : ¬ r ≤ (939 : Int) := by omega
  have l939d : decide (r ≤ (939 : Int)) = false := by simpa using l939
  have l1071 : r ≤ (1071 : Int) := by omega
  have l1071d : decide (r ≤ (1071 : Int)) = true := by simpa using l1071
  have l1039 : r ≤ (1039 : Int) := by omega
  have l1039d : decide (r ≤ (1039 : Int)) = true := by simpa using l1039
  have e215 : ¬ r = (215 : Int) := by omega
  have e215d : (r == (215 : Int)) = false := by simpa using e215
  have e930 : ¬ r = (930 : Int) := by omega
  have e930d : (r == (930 : Int)) = false := by simpa using e930
  have e962 : r = (962 : Int) := by omega
  have e962d : (r == (962 : Int)) = true := by simpa using e962
  have hlow : lowZ r = 963 := by
    unfold lowZ
    repeat' split
    all_goals omega
  clear h
  rw [hlow]
  go_enter Tryd.func12, Tryd.ntmps12
  go_wp2
  go_ret
  exact ⟨ret_int (by go_num), rfl⟩

set_option maxRecDepth 1000000 in
theorem refLower_10 (r : Int) (w : World) (h : 1024 ≤ r ∧ r ≤ 1039) (hb : -2147483648 ≤ r ∧ r ≤ 2147483647) : Calls Tryd.prog 12 #[.int .i64 r] w fun e w' => e = .returned (.int .i64 (lowZ r)) ∧ w' = w := by
  have g65 : (65 : Int) ≤ r := by omega
  have g65d : decide ((65 : Int) ≤ r) = true := by simpa using g65
  have g192 : (192 : Int) ≤ r := by omega
  have g192d : decide ((192 : Int) ≤ r) = true := by simpa using g192
  have g913 : (913 : Int) ≤ r := by omega
  have g913d : decide ((913 : Int) ≤ r) = true := by simpa using g913
  have g1040 : ¬ (1040 : Int) ≤ r := by omega
  have g1040d : decide ((1040 : Int) ≤ r) = false := by simpa using g1040
  have g1024 : (1024 : Int) ≤ r := by omega
  have g1024d : decide ((1024 : Int) ≤ r) = true := by simpa using g1024
  have l90 : ¬ r ≤ (90 : Int) := by omega
  have l90d : decide (r ≤ (90 : Int)) = false := by simpa using l90
  have l222 : ¬ r ≤ (222 : Int) := by omega
  have l222d : decide (r ≤ (222 : Int)) = false := by simpa using l222
  have l939 : ¬ r ≤ (939 : Int) := by omega
  have l939d : decide (r ≤ (939 : Int)) = false := by simpa using l939
  have l1071 : r ≤ (1071 : Int) := by omega
  have l1071d : decide (r ≤ (1071 : Int)) = true := by simpa using l1071
  have l1039 : r ≤ (1039 : Int) := by omega
  have l1039d : decide (r ≤ (1039 : Int)) = true := by simpa using l1039
  have e215 : ¬ r = (215 : Int) := by omega
  have e215d : (r == (215 : Int)) = false := by simpa using e215
  have e930 : ¬ r = (930 : Int) := by omega
  have e930d : (r == (930 : Int)) = false := by simpa using e930
  have e962 : ¬ r = (962 : Int) := by omega
  have e962d : (r == (962 : Int)) = false := by simpa using e962
  have hlow : lowZ r = r + 80 := by
    unfold lowZ
    repeat' split
    all_goals omega
  clear h
  rw [hlow]
  go_enter Tryd.func12, Tryd.ntmps12
  go_wp2
  go_ret
  exact ⟨ret_int (by go_num), rfl⟩

set_option maxRecDepth 1000000 in
theorem refLower_11 (r : Int) (w : World) (h : 1040 ≤ r ∧ r ≤ 1071) (hb : -2147483648 ≤ r ∧ r ≤ 2147483647) : Calls Tryd.prog 12 #[.int .i64 r] w fun e w' => e = .returned (.int .i64 (lowZ r)) ∧ w' = w := by
  have g65 : (65 : Int) ≤ r := by omega
  have g65d : decide ((65 : Int) ≤ r) = true := by simpa using g65
  have g192 : (192 : Int) ≤ r := by omega
  have g192d : decide ((192 : Int) ≤ r) = true := by simpa using g192
  have g913 : (913 : Int) ≤ r := by omega
  have g913d : decide ((913 : Int) ≤ r) = true := by simpa using g913
  have g1040 : (1040 : Int) ≤ r := by omega
  have g1040d : decide ((1040 : Int) ≤ r) = true := by simpa using g1040
  have g1024 : (1024 : Int) ≤ r := by omega
  have g1024d : decide ((1024 : Int) ≤ r) = true := by simpa using g1024
  have l90 : ¬ r ≤ (90 : Int) := by omega
  have l90d : decide (r ≤ (90 : Int)) = false := by simpa using l90
  have l222 : ¬ r ≤ (222 : Int) := by omega
  have l222d : decide (r ≤ (222 : Int)) = false := by simpa using l222
  have l939 : ¬ r ≤ (939 : Int) := by omega
  have l939d : decide (r ≤ (939 : Int)) = false := by simpa using l939
  have l1071 : r ≤ (1071 : Int) := by omega
  have l1071d : decide (r ≤ (1071 : Int)) = true := by simpa using l1071
  have l1039 : ¬ r ≤ (1039 : Int) := by omega
  have l1039d : decide (r ≤ (1039 : Int)) = false := by simpa using l1039
  have e215 : ¬ r = (215 : Int) := by omega
  have e215d : (r == (215 : Int)) = false := by simpa using e215
  have e930 : ¬ r = (930 : Int) := by omega
  have e930d : (r == (930 : Int)) = false := by simpa using e930
  have e962 : ¬ r = (962 : Int) := by omega
  have e962d : (r == (962 : Int)) = false := by simpa using e962
  have hlow : lowZ r = r + 32 := by
    unfold lowZ
    repeat' split
    all_goals omega
  clear h
  rw [hlow]
  go_enter Tryd.func12, Tryd.ntmps12
  go_wp2
  go_ret
  exact ⟨ret_int (by go_num), rfl⟩

set_option maxRecDepth 1000000 in
theorem refLower_12 (r : Int) (w : World) (h : 1072 ≤ r) (hb : -2147483648 ≤ r ∧ r ≤ 2147483647) : Calls Tryd.prog 12 #[.int .i64 r] w fun e w' => e = .returned (.int .i64 (lowZ r)) ∧ w' = w := by
  have g65 : (65 : Int) ≤ r := by omega
  have g65d : decide ((65 : Int) ≤ r) = true := by simpa using g65
  have g192 : (192 : Int) ≤ r := by omega
  have g192d : decide ((192 : Int) ≤ r) = true := by simpa using g192
  have g913 : (913 : Int) ≤ r := by omega
  have g913d : decide ((913 : Int) ≤ r) = true := by simpa using g913
  have g1040 : (1040 : Int) ≤ r := by omega
  have g1040d : decide ((1040 : Int) ≤ r) = true := by simpa using g1040
  have g1024 : (1024 : Int) ≤ r := by omega
  have g1024d : decide ((1024 : Int) ≤ r) = true := by simpa using g1024
  have l90 : ¬ r ≤ (90 : Int) := by omega
  have l90d : decide (r ≤ (90 : Int)) = false := by simpa using l90
  have l222 : ¬ r ≤ (222 : Int) := by omega
  have l222d : decide (r ≤ (222 : Int)) = false := by simpa using l222
  have l939 : ¬ r ≤ (939 : Int) := by omega
  have l939d : decide (r ≤ (939 : Int)) = false := by simpa using l939
  have l1071 : ¬ r ≤ (1071 : Int) := by omega
  have l1071d : decide (r ≤ (1071 : Int)) = false := by simpa using l1071
  have l1039 : ¬ r ≤ (1039 : Int) := by omega
  have l1039d : decide (r ≤ (1039 : Int)) = false := by simpa using l1039
  have e215 : ¬ r = (215 : Int) := by omega
  have e215d : (r == (215 : Int)) = false := by simpa using e215
  have e930 : ¬ r = (930 : Int) := by omega
  have e930d : (r == (930 : Int)) = false := by simpa using e930
  have e962 : ¬ r = (962 : Int) := by omega
  have e962d : (r == (962 : Int)) = false := by simpa using e962
  have hlow : lowZ r = r := by
    unfold lowZ
    repeat' split
    all_goals omega
  clear h
  rw [hlow]
  go_enter Tryd.func12, Tryd.ntmps12
  go_wp2
  go_ret
  exact ⟨ret_int (by go_num), rfl⟩

theorem refLower (r : Int) (w : World) (hb : -2147483648 ≤ r ∧ r ≤ 2147483647) : Calls Tryd.prog 12 #[.int .i64 r] w fun e w' => e = .returned (.int .i64 (lowZ r)) ∧ w' = w := by
  by_cases h0 : r < 65
  · exact refLower_0 r w h0 hb
  by_cases h1 : 65 ≤ r ∧ r ≤ 90
  · exact refLower_1 r w h1 hb
  by_cases h2 : 91 ≤ r ∧ r ≤ 191
  · exact refLower_2 r w h2 hb
  by_cases h3 : 192 ≤ r ∧ r ≤ 222 ∧ r ≠ 215
  · exact refLower_3 r w h3 hb
  by_cases h4 : r = 215
  · exact refLower_4 r w h4 hb
  by_cases h5 : 223 ≤ r ∧ r ≤ 912
  · exact refLower_5 r w h5 hb
  by_cases h6 : 913 ≤ r ∧ r ≤ 939 ∧ r ≠ 930
  · exact refLower_6 r w h6 hb
  by_cases h7 : r = 930
  · exact refLower_7 r w h7 hb
  by_cases h8 : 940 ≤ r ∧ r ≤ 1023 ∧ r ≠ 962
  · exact refLower_8 r w h8 hb
  by_cases h9 : r = 962
  · exact refLower_9 r w h9 hb
  by_cases h10 : 1024 ≤ r ∧ r ≤ 1039
  · exact refLower_10 r w h10 hb
  by_cases h11 : 1040 ≤ r ∧ r ≤ 1071
  · exact refLower_11 r w h11 hb
  by_cases h12 : 1072 ≤ r
  · exact refLower_12 r w h12 hb
  omega
end Go.Proofs.YtpggbpbibbhepaaDoor
