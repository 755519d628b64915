import Derived.Test.YtcpdnalmoaojlaaDoorGOwn

/-
  A number below another one, of any number.
-/
namespace Go.Proofs.YtcpdnalmoaojlaaDoor
open Go.ChangeShapes Go.WideShapes Go.ChangeAt Go.RowKit
set_option linter.unusedVariables false

theorem tmod_facts (n : Int) (k : Nat) (hk : 0 < k) : (0 ≤ n.tmod k → n.tmod k = n % (k : Int)) ∧ (n.tmod k < 0 → n.tmod k + k = n % (k : Int)) ∧ -(k : Int) < n.tmod k ∧ n.tmod k < k := by
  have h1 := Int.tmod_eq_emod (a := n) (b := k)
  have h2 := Int.emod_nonneg n (b := (k : Int)) (by omega)
  have h3 := Int.emod_lt_of_pos n (b := (k : Int)) (by omega)
  have h4 : ((k : Int).natAbs : Int) = k := by omega
  split at h1 <;> omega

theorem pick_any (n : Int) (k : Nat) (hk : 0 < k) (hk2 : k ≤ 4611686018427387904) (h1 : -9223372036854775808 ≤ n) (h2 : n ≤ 9223372036854775807) (w : World) :
    Calls Tryd.prog 5 #[.int .i64 n, .int .i64 k] w fun e w' => e = .returned (.int .i64 (n % (k : Int))) ∧ w' = w := by
  obtain ⟨f1, f2, f3, f4⟩ := tmod_facts n k hk
  have hne : ((k : Int) == 0) = false := by simp; omega
  have hk0 : ¬ ((k : Int) = 0) := by omega
  by_cases hlt : n.tmod k < 0
  · have HE : Hid (n.tmod k + k = n % (k : Int)) := f2 hlt
    clear f1 f2
    go_enter Tryd.func5, Tryd.ntmps5
    go_wp2
    go_ret
    exact ⟨ret_int HE.out, rfl⟩
  · have HE : Hid (n.tmod k = n % (k : Int)) := f1 (by omega)
    clear f1 f2
    go_enter Tryd.func5, Tryd.ntmps5
    go_wp2
    go_ret
    exact ⟨ret_int HE.out, rfl⟩

end Go.Proofs.YtcpdnalmoaojlaaDoor

/-
  A number below another one, of any number (the other package's).
-/
namespace Go.Proofs.YtcpdnalmoaojlaaDoor
open Go.ChangeShapes Go.WideShapes Go.ChangeAt Go.RowKit
set_option linter.unusedVariables false

theorem kpick_any (n : Int) (k : Nat) (hk : 0 < k) (hk2 : k ≤ 4611686018427387904) (h1 : -9223372036854775808 ≤ n) (h2 : n ≤ 9223372036854775807) (w : World) :
    Calls Tryd.prog 10 #[.int .i64 n, .int .i64 k] w fun e w' => e = .returned (.int .i64 (n % (k : Int))) ∧ w' = w := by
  obtain ⟨f1, f2, f3, f4⟩ := tmod_facts n k hk
  have hne : ((k : Int) == 0) = false := by simp; omega
  have hk0 : ¬ ((k : Int) = 0) := by omega
  by_cases hlt : n.tmod k < 0
  · have HE : Hid (n.tmod k + k = n % (k : Int)) := f2 hlt
    clear f1 f2
    go_enter Tryd.func10, Tryd.ntmps10
    go_wp2
    go_ret
    exact ⟨ret_int HE.out, rfl⟩
  · have HE : Hid (n.tmod k = n % (k : Int)) := f1 (by omega)
    clear f1 f2
    go_enter Tryd.func10, Tryd.ntmps10
    go_wp2
    go_ret
    exact ⟨ret_int HE.out, rfl⟩
end Go.Proofs.YtcpdnalmoaojlaaDoor
