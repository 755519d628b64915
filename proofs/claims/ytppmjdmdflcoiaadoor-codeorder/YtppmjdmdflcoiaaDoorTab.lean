/-
  Plain mathematics: a byte's step by two tables of sixteen.
-/
import Derived.Test.YtppmjdmdflcoiaaDoorCrc
namespace Go.Proofs.YtppmjdmdflcoiaaDoor.Crc

def lowL : List Nat := [0, 4067132163, 3778769143, 324072436, 3348797215, 904991772, 648144872, 3570033899, 2329499855, 2024987596, 1809983544, 2575936315, 1296289744, 3207089363, 2893594407, 1578318884]
def highL : List Nat := [0, 274646895, 549293790, 820201905, 1098587580, 1361435347, 1640403810, 1905808397, 2197175160, 2460548119, 2722870694, 2987750089, 3280807620, 3553878443, 3811616794, 4084100981]
theorem low_ok : ∀ t, t < 16 → txn 8 t = lowL.getD t 0 := by decide +kernel
theorem high_ok : ∀ t, t < 16 → txn 8 (16 * t) = highL.getD t 0 := by decide +kernel
theorem low_lt : ∀ t, t < 16 → lowL.getD t 0 < 4294967296 := by decide +kernel
theorem high_lt : ∀ t, t < 16 → highL.getD t 0 < 4294967296 := by decide +kernel
theorem txn_shift (k q : Nat) : txn k (q * 2 ^ k) = q := by
  suffices h : ∀ m j, txn m (q * 2 ^ (m + j)) = q * 2 ^ j by simpa using h k 0
  intro m
  induction m with
  | zero => intro j; simp [txn]
  | succ m ih =>
    intro j
    simp only [txn]
    rw [show m + 1 + j = m + (j + 1) by omega, ih, Nat.pow_succ]
    unfold tx
    have : q * (2 ^ j * 2) % 2 = 0 := by rw [← Nat.mul_assoc]; omega
    rw [this, ← Nat.mul_assoc, Nat.mul_div_cancel _ (by omega)]; simp
theorem or_xor {a b n : Nat} (hb : b < 2 ^ n) : 2 ^ n * a + b = (2 ^ n * a) ^^^ b := by
  rw [Nat.two_pow_add_eq_or_of_lt hb]
  apply Nat.eq_of_testBit_eq
  intro i
  rw [Nat.testBit_or, Nat.testBit_xor, Nat.testBit_two_pow_mul]
  by_cases h : i < n
  · simp [show ¬ n ≤ i by omega]
  · have : b.testBit i = false := Nat.testBit_lt_two_pow (Nat.lt_of_lt_of_le hb (Nat.pow_le_pow_right (by omega) (by omega)))
    simp [this]
theorem table_step (s : Nat) : txn 8 s = (s / 256 ^^^ lowL.getD (s % 16) 0) ^^^ highL.getD (s / 16 % 16) 0 := by
  have e1 : s = 256 * (s / 256) ^^^ (16 * (s / 16 % 16) ^^^ s % 16) := by
    have h1 := or_xor (n := 4) (a := s / 16 % 16) (b := s % 16) (by omega)
    have h2 := or_xor (n := 8) (a := s / 256) (b := 16 * (s / 16 % 16) + s % 16) (by omega)
    simp only [Nat.reducePow] at h1 h2
    rw [← h1, ← h2]; omega
  conv => lhs; rw [e1]
  rw [txn_xor, txn_xor, low_ok (s % 16) (by omega), high_ok _ (by omega), show 256 * (s / 256) = s / 256 * 2 ^ 8 by omega, txn_shift, Nat.xor_comm (highL.getD _ 0), Nat.xor_assoc]
end Go.Proofs.YtppmjdmdflcoiaaDoor.Crc
