/-
  Plain mathematics: what the turning of one bit does to a sum; bursts.
-/
import Derived.Test.YtppmjdmdflcoiafDoorCrc
namespace Go.Proofs.YtppmjdmdflcoiafDoor.Crc

/-- Times x loses nothing. -/
theorem tx_ne {b : Nat} (hb : b < 4294967296) (h : b ≠ 0) : tx b ≠ 0 := by
  unfold tx
  intro e
  by_cases ho : b % 2 = 1
  · rw [if_pos ho] at e
    have h31 : (b / 2 ^^^ P).testBit 31 = false := by rw [e]; simp
    rw [Nat.testBit_xor, Nat.testBit_lt_two_pow (show b / 2 < 2 ^ 31 by omega)] at h31
    revert h31; decide
  · rw [if_neg ho] at e
    simp at e
    omega
theorem txn_ne (n : Nat) {b : Nat} (hb : b < 4294967296) (h : b ≠ 0) : txn n b ≠ 0 := by
  induction n with
  | zero => exact h
  | succ n ih => exact tx_ne (txn_lt n hb) ih
theorem txn_back (m i : Nat) (h : i ≤ m) : txn m (2 ^ i) = txn (m - i) 1 := by
  rw [show m = (m - i) + i by omega, txn_add, txn_pow]; congr 1; omega

theorem crc_exchange (p x y q : List UInt8) (h : x.length = y.length) : Crc.crc (p ++ x ++ q) ^^^ Crc.txn (8 * q.length) (Crc.crc x ^^^ Crc.crc y) = Crc.crc (p ++ y ++ q) := by
  rw [← Crc.crc_join (p ++ x) q, ← Crc.crc_join (p ++ y) q, ← Crc.crc_join p x, ← Crc.crc_join p y, h, Crc.txn_xor, Crc.txn_xor, Crc.txn_xor]
  generalize Crc.txn (8 * q.length) (Crc.txn (8 * y.length) (Crc.crc p)) = A
  generalize Crc.txn (8 * q.length) (Crc.crc x) = B
  generalize Crc.txn (8 * q.length) (Crc.crc y) = C
  generalize Crc.crc q = D
  apply Nat.eq_of_testBit_eq
  intro i
  simp only [Nat.testBit_xor]
  cases A.testBit i <;> cases B.testBit i <;> cases C.testBit i <;> cases D.testBit i <;> rfl

/-- A byte with one bit turned. -/
def flip8 (x : UInt8) (j : Nat) : UInt8 := UInt8.ofNat (x.toNat ^^^ 2 ^ j)
theorem flip8_nat (x : UInt8) (j : Nat) (hj : j < 8) : (flip8 x j).toNat = x.toNat ^^^ 2 ^ j := by
  unfold flip8
  have h1 : x.toNat < 2 ^ 8 := x.toNat_lt
  have h2 : 2 ^ j < 2 ^ 8 := Nat.pow_lt_pow_right (by omega) hj
  rw [UInt8.toNat_ofNat']
  exact Nat.mod_eq_of_lt (Nat.xor_lt_two_pow h1 h2)
theorem crc_byte (x y : UInt8) : crc [x] ^^^ crc [y] = txn 8 (x.toNat ^^^ y.toNat) := by
  have e : x.toNat ^^^ y.toNat = (ones ^^^ x.toNat) ^^^ (ones ^^^ y.toNat) := by
    apply Nat.eq_of_testBit_eq
    intro i
    simp only [Nat.testBit_xor]
    cases ones.testBit i <;> cases x.toNat.testBit i <;> cases y.toNat.testBit i <;> rfl
  rw [e, txn_xor]
  show (txn 8 (ones ^^^ x.toNat) ^^^ ones) ^^^ (txn 8 (ones ^^^ y.toNat) ^^^ ones) = _
  apply Nat.eq_of_testBit_eq
  intro i
  simp only [Nat.testBit_xor]
  cases (txn 8 (ones ^^^ x.toNat)).testBit i <;> cases (txn 8 (ones ^^^ y.toNat)).testBit i <;> cases ones.testBit i <;> rfl

/-- THE TURNING OF ONE BIT. -/
theorem crc_flip (l : List UInt8) (k : Nat) (hk : k < 8 * l.length) : crc (l.set (k / 8) (flip8 (l[k / 8]'(by omega)) (k % 8))) = crc l ^^^ txn (8 * l.length - k) 1 := by
  have hi : k / 8 < l.length := by omega
  have e1 : l = l.take (k / 8) ++ [l[k / 8]] ++ l.drop (k / 8 + 1) := by
    rw [List.append_assoc, List.singleton_append, ← List.drop_eq_getElem_cons hi, List.take_append_drop]
  have e2 : l.set (k / 8) (flip8 l[k / 8] (k % 8)) = l.take (k / 8) ++ [flip8 l[k / 8] (k % 8)] ++ l.drop (k / 8 + 1) := by
    rw [List.set_eq_take_append_cons_drop, if_pos hi, List.append_assoc, List.singleton_append]
  have h := crc_exchange (l.take (k / 8)) [l[k / 8]] [flip8 l[k / 8] (k % 8)] (l.drop (k / 8 + 1)) rfl
  rw [← e1, ← e2, crc_byte, flip8_nat _ _ (by omega), ← Nat.xor_assoc, Nat.xor_self, Nat.zero_xor, txn_back 8 (k % 8) (by omega), ← txn_add, List.length_drop] at h
  rw [← h]
  congr 2
  omega

/-- One step of a burst: bits of 'turn' below the i-th are turned already. -/
theorem burst_step (l0 l : List UInt8) (p i turn : Nat) (hl : l.length = l0.length) (hk : p + i < 8 * l0.length) (ho : turn / 2 ^ i % 2 = 1)
    (h : crc l = crc l0 ^^^ txn (8 * l0.length - p) (turn % 2 ^ i)) :
    crc (l.set ((p + i) / 8) (flip8 (l[(p + i) / 8]'(by omega)) ((p + i) % 8))) = crc l0 ^^^ txn (8 * l0.length - p) (turn % 2 ^ (i + 1)) := by
  have e1 : turn % 2 ^ (i + 1) = 2 ^ i ^^^ turn % 2 ^ i := by
    have hx := xor_top (turn / 2 ^ i % 2) i (turn % 2 ^ i) (by omega) (Nat.mod_lt _ (Nat.two_pow_pos _))
    rw [if_pos ho] at hx
    rw [hx, Nat.pow_succ, Nat.mod_mul, Nat.mul_comm, Nat.add_comm]
  rw [crc_flip l (p + i) (by omega), h, e1, txn_xor, txn_back _ i (by omega), hl, Nat.xor_assoc, show 8 * l0.length - p - i = 8 * l0.length - (p + i) by omega, Nat.xor_comm (txn (8 * l0.length - (p + i)) 1)]
theorem burst_none (i turn : Nat) (ho : ¬ turn / 2 ^ i % 2 = 1) : turn % 2 ^ (i + 1) = turn % 2 ^ i := by
  have h0 : turn / 2 ^ i % 2 = 0 := by omega
  rw [Nat.pow_succ, Nat.mod_mul, h0]; omega
theorem burst_more (i turn : Nat) (ho : turn / 2 ^ i % 2 = 1) : turn % 2 ^ (i + 1) ≠ 0 := by
  rw [Nat.pow_succ, Nat.mod_mul, ho]
  have := Nat.two_pow_pos i
  omega
/-- THE END: the sums differ just where a bit was turned. -/
theorem burst_end (l0 l : List UInt8) (m t : Nat) (ht : t < 4294967296) (h : crc l = crc l0 ^^^ txn m t) : crc l ≠ crc l0 ↔ t ≠ 0 := by
  constructor
  · intro hn e
    rw [e, txn_zero, Nat.xor_zero] at h
    exact hn h
  · intro hn e
    rw [e] at h
    have : txn m t = 0 := by
      have h2 : crc l0 ^^^ crc l0 = crc l0 ^^^ (crc l0 ^^^ txn m t) := by rw [← h]
      rw [Nat.xor_self, ← Nat.xor_assoc, Nat.xor_self, Nat.zero_xor] at h2
      exact h2.symm
    exact txn_ne m ht hn this
end Go.Proofs.YtppmjdmdflcoiafDoor.Crc
