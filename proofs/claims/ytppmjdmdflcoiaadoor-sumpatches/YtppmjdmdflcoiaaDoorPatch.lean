/-
  The walk of sum.Patch.
-/
import Derived.Test.YtppmjdmdflcoiaaDoorText
namespace Go.Proofs.YtppmjdmdflcoiaaDoor
open Go.ChangeShapes Go.WideShapes Go.ChangeAt Go.RowKit
set_option linter.unusedVariables false

/-- Where nothing fits, nothing is done. -/
theorem patch_no (s n m size : Nat) (at_ : Int) (x y : Option Addr) (c d : Nat) (w : World) (hn : n ≤ 4611686018427387904) (hsz : size ≤ 4611686018427387904) (h1 : -9223372036854775808 ≤ at_) (h2 : at_ ≤ 9223372036854775807)
    (h : m ≠ n ∨ at_ < 0 ∨ size < n ∨ (size : Int) - n < at_) :
    Calls Tryd.prog 12 #[.int .u32 s, .int .i64 size, .int .i64 at_, .slice x n c, .slice y m d] w fun e w' => e = .returned (.int .u32 s) ∧ w' = w := by
  by_cases e1 : m = n
  · have e1' : (m : Int) = n := by omega
    have e1'' : (((m : Int) != (n : Int))) = false := by simp [e1']
    by_cases e2 : at_ < 0
    · clear h e1 e1'
      go_enter Tryd.func12, Tryd.ntmps12
      go_wp2
      go_ret
      exact ⟨rfl, rfl⟩
    · by_cases e3 : size < n
      · have e3' : (size : Int) < n := by omega
        clear h e1 e1'
        go_enter Tryd.func12, Tryd.ntmps12
        go_wp2
        go_ret
        exact ⟨rfl, rfl⟩
      · have e3' : ¬ (size : Int) < n := by omega
        have e4 : (size : Int) - n < at_ := by omega
        clear h e1 e1'
        go_enter Tryd.func12, Tryd.ntmps12
        go_wp2
        go_ret
        exact ⟨rfl, rfl⟩
  · have e1'' : (((m : Int) != (n : Int))) = true := by simp; omega
    clear h
    go_enter Tryd.func12, Tryd.ntmps12
    go_wp2
    go_ret
    exact ⟨rfl, rfl⟩

theorem patch_yes (s at_ size : Nat) (was now : List UInt8) (b off c b' off' d : Nat) (w : World) (hs : s < 4294967296) (hsz : size ≤ 4611686018427387904) (hlen : now.length = was.length) (hfit : was.length + at_ ≤ size)
    (hc : BytesAt w b off was) (hc' : BytesAt w b' off' now) (ht : Tabs w) :
    Calls Tryd.prog 12 #[.int .u32 s, .int .i64 size, .int .i64 at_, .slice (some ⟨b, off, none⟩) was.length c, .slice (some ⟨b', off', none⟩) was.length d] w fun e w' =>
      e = .returned (.int .u32 ((s ^^^ Crc.txn (8 * (size - was.length - at_)) (Crc.crc was ^^^ Crc.crc now) : Nat) : Int)) ∧ ∃ n, w' = w.drewN n := by
  have HC : Hid (BytesAt w b' off' now) := hc'
  have HT : Hid (Tabs w) := ht
  have s1 := sum_any was b off c w (by omega) hc ht
  clear hc hc' ht
  have g1 : ¬ ((at_ : Int) < 0) := by omega
  have g2 : ¬ ((size : Int) < (was.length : Int)) := by omega
  have g3 : ¬ ((size : Int) - (was.length : Int) < (at_ : Int)) := by omega
  have g4 : (0 : Int) ≤ (size : Int) - (was.length : Int) - (at_ : Int) := by omega
  go_enter Tryd.func12, Tryd.ntmps12
  go_wp2_with fail
  refine s1.mono ?_
  rintro e w1 ⟨rfl, n1, rfl⟩
  clear s1
  go_wp2_with fail
  refine (sum_n now was.length b' off' d (w.drewN n1) hlen.symm (by omega) (HC.out.below (drewN_below (b' + 1) w n1) (by omega)) (HT.out.below (drewN_below 2 w n1) (Nat.le_refl _))).mono ?_
  rintro e w1 ⟨rfl, n2, rfl⟩
  have e1 := b_xor (Crc.crc was) (Crc.crc now) (Crc.crc_lt _) (Crc.crc_lt _)
  have e2 : (size : Int) - (was.length : Int) - (at_ : Int) = ((size - was.length - at_ : Nat) : Int) := by omega
  go_wp2_with fail
  refine (push_any (Crc.crc was ^^^ Crc.crc now) (size - was.length - at_) (Crc.xlt (Crc.crc_lt _) (Crc.crc_lt _)) (by omega) _).mono ?_
  rintro e w1 ⟨rfl, rfl⟩
  go_wp2_with fail
  go_ret
  exact ⟨ret_u32 (b_xor _ _ hs (Crc.txn_lt _ (Crc.xlt (Crc.crc_lt _) (Crc.crc_lt _)))), n1 + n2, rfl⟩

theorem crc_exchange (p x y q : List UInt8) (h : x.length = y.length) : Crc.crc (p ++ x ++ q) ^^^ Crc.txn (8 * q.length) (Crc.crc x ^^^ Crc.crc y) = Crc.crc (p ++ y ++ q) := by
  rw [← Crc.crc_join (p ++ x) q, ← Crc.crc_join (p ++ y) q, ← Crc.crc_join p x, ← Crc.crc_join p y, h, Crc.txn_xor, Crc.txn_xor, Crc.txn_xor]
  generalize Crc.txn (8 * q.length) (Crc.txn (8 * y.length) (Crc.crc p)) = A
  generalize Crc.txn (8 * q.length) (Crc.crc x) = B
  generalize Crc.txn (8 * q.length) (Crc.crc y) = C
  generalize Crc.crc q = D
  apply Nat.eq_of_testBit_eq
  intro i
  simp only [Nat.testBit_xor]
  cases A.testBit i <;> cases B.testBit i <;> cases C.testBit i <;> cases D.testBit i <;> rfl
end Go.Proofs.YtppmjdmdflcoiaaDoor
