import Derived.Test.YtcpdnalmoaojlaaDoorHLent
import Derived.Test.YtcpdnalmoaojlaaDoorHQ18

/-
  A number below another one, of any number.
-/
namespace Go.Proofs.YtcpdnalmoaojlaaDoor
open Go.ChangeShapes Go.WideShapes Go.ChangeAt Go.RowKit
set_option linter.unusedVariables false

theorem tmod_facts (n : Int) (k : Nat) (hk : 0 < k) : (0 ≤ n.tmod k → n.tmod k = n % (k : Int)) ∧ (n.tmod k < 0 → n.tmod k + k = n % (k : Int)) ∧ -(k : Int) < n.tmod k ∧ n.tmod k < k := by
  have h1 := Int.tmod_eq_emod (a := n) (b := k)
  have h2 := Int.emod_nonneg n (b := (k : Int)) (by omega)
  have h3 := Int.emod_lt_of_pos n (b := (k : Int)) (by omega)
  have h4 : ((k : Int).natAbs : Int) = k := by omega
  split at h1 <;> omega

theorem pick_any (n : Int) (k : Nat) (hk : 0 < k) (hk2 : k ≤ 4611686018427387904) (h1 : -9223372036854775808 ≤ n) (h2 : n ≤ 9223372036854775807) (w : World) :
    Calls Tryd.prog 5 #[.int .i64 n, .int .i64 k] w fun e w' => e = .returned (.int .i64 (n % (k : Int))) ∧ w' = w := by
  obtain ⟨f1, f2, f3, f4⟩ := tmod_facts n k hk
  have hne : ((k : Int) == 0) = false := by simp; omega
  have hk0 : ¬ ((k : Int) = 0) := by omega
  by_cases hlt : n.tmod k < 0
  · have HE : Hid (n.tmod k + k = n % (k : Int)) := f2 hlt
    clear f1 f2
    go_enter Tryd.func5, Tryd.ntmps5
    go_wp2
    go_ret
    exact ⟨ret_int HE.out, rfl⟩
  · have HE : Hid (n.tmod k = n % (k : Int)) := f1 (by omega)
    clear f1 f2
    go_enter Tryd.func5, Tryd.ntmps5
    go_wp2
    go_ret
    exact ⟨ret_int HE.out, rfl⟩

end Go.Proofs.YtcpdnalmoaojlaaDoor

/-
  SpacePlays: a step, its parts.
-/
namespace Go.Proofs.YtcpdnalmoaojlaaDoor
open Go.RowKit Go.Shelf
set_option linter.unusedVariables false
set_option linter.unusedSimpArgs false

def I64' (x : Int) : Prop := -9223372036854775808 ≤ x ∧ x ≤ 9223372036854775807
def sqL : Code → Code
  | .seq a _ => a
  | c => c
def sqR : Code → Code
  | .seq _ b => b
  | c => c
def cdT : Code → Code
  | .cond _ a _ => a
  | c => c
def cdF : Code → Code
  | .cond _ _ b => b
  | c => c
def bkC : Code → Code
  | .block _ b => b
  | c => c
/-- The step's switch, and the bodies of its cases. -/
def swC (c : Code) : Code := bkC (sqR (sqL (sqR (sqR (sqR c)))))
def takeC (c : Code) : Code := cdT (sqR (swC c))
def else1 (c : Code) : Code := cdF (sqR (swC c))
def shareC (c : Code) : Code := cdT (sqR (else1 c))
def else2 (c : Code) : Code := cdF (sqR (else1 c))
def dropC (c : Code) : Code := cdT (sqR (else2 c))
def else3 (c : Code) : Code := cdF (sqR (else2 c))
def turnC (c : Code) : Code := cdT (sqR (else3 c))
def else4 (c : Code) : Code := cdF (sqR (else3 c))
def growC (c : Code) : Code := cdT (sqR (else4 c))
def else5 (c : Code) : Code := cdF (sqR (else4 c))
def copyC (c : Code) : Code := cdT (sqR (else5 c))
def else6 (c : Code) : Code := cdF (sqR (else5 c))
def swapC (c : Code) : Code := cdT (sqR (else6 c))
/-- What is there when the switch is come to. -/
structure SB (w0 : World) (P B3 : Nat) (c : PR) (ks : List PR) (kv : Value) (xd xa xb xc : Int) (xt : ByteArray) (W : World) : Prop where
  j : PJ w0 P c c.rows c.l ks kv W
  ok : SpOk c.rows c.l
  k4 : ks.length ≤ 4
  box : W.heap[B3]? = some (.cells #[.int .i64 xd, .int .i64 xa, .int .i64 xb, .int .i64 xc, .string xt] 38 (0, 0))
  nb : B3 ≠ c.s ∧ ¬ rfU c.r c.v B3
  ia : I64' xa
  ib : I64' xb
  ic : I64' xc
theorem SB.cells {w0 : World} {P B3 : Nat} {c : PR} {ks : List PR} {kv : Value} {xd xa xb xc : Int} {xt : ByteArray} {W : World} (h : SB w0 P B3 c ks kv xd xa xb xc xt W) (W' : World) (hW : W'.heap[B3]? = W.heap[B3]?) : W'.cell? ⟨B3, 0, none⟩ = some (.int .i64 xd) ∧ W'.cell? ⟨B3, 1, none⟩ = some (.int .i64 xa) ∧ W'.cell? ⟨B3, 2, none⟩ = some (.int .i64 xb) ∧ W'.cell? ⟨B3, 3, none⟩ = some (.int .i64 xc) := by
  have h := hW.trans h.box
  simp [World.cell?, h]
def StepQ (w0 : World) (P : Nat) (w' : World) : Prop := ∃ c ks kv, PJ w0 P c c.rows c.l ks kv w' ∧ SpOk c.rows c.l ∧ ks.length ≤ 4
theorem pickL (x : Int) (k : Nat) (W : World) (hx : I64' x) (h1 : 0 < k) (h2 : k ≤ 4611686018427387904) : Calls Tryd.prog 5 #[.int .i64 x, .int .i64 (k : Int)] W fun e w' => e = .returned (.int .i64 (x % (k : Int))) ∧ w' = W := pick_any x k h1 h2 hx.1 hx.2 W
end Go.Proofs.YtcpdnalmoaojlaaDoor
