/-
  Plain mathematics: sums of bytes as remainders of polynomials over two elements, a polynomial being a natural number. Nothing of the program is named here.
-/
namespace Go.Proofs.YtppmjdmdflcoiaaDoor.Crc

/-- The polynomial, its bits the other way round. -/
def P : Nat := 2197175160
/-- Times x. -/
def tx (b : Nat) : Nat := (b / 2) ^^^ (if b % 2 = 1 then P else 0)
/-- Times x, n times over. -/
def txn : Nat → Nat → Nat
  | 0, b => b
  | n + 1, b => tx (txn n b)
/-- The first n steps of a product. -/
def tm : Nat → Nat → Nat → Nat
  | 0, _, _ => 0
  | n + 1, a, b => (if a / 2147483648 = 1 then b else 0) ^^^ tm n (a * 2 % 4294967296) (tx b)

theorem xor_half (a b : Nat) : (a ^^^ b) / 2 = (a / 2) ^^^ (b / 2) := by
  apply Nat.eq_of_testBit_eq
  intro i
  simp [← Nat.testBit_succ, Nat.testBit_xor]
theorem xor_odd (a b : Nat) : (a ^^^ b) % 2 = (a % 2 + b % 2) % 2 := by
  have h := Nat.testBit_xor (i := 0) (x := a) (y := b)
  simp only [Nat.testBit_zero] at h
  have h' : ((a ^^^ b) % 2 = 1) ↔ ¬ (a % 2 = 1 ↔ b % 2 = 1) := by
    rw [← decide_eq_true_iff (p := (a ^^^ b) % 2 = 1), h]
    by_cases ha : a % 2 = 1 <;> by_cases hb : b % 2 = 1 <;> simp [ha, hb]
  omega

theorem tx_xor (a b : Nat) : tx (a ^^^ b) = tx a ^^^ tx b := by
  unfold tx
  rw [xor_half, xor_odd]
  apply Nat.eq_of_testBit_eq
  intro i
  rcases Nat.mod_two_eq_zero_or_one a with ha | ha <;> rcases Nat.mod_two_eq_zero_or_one b with hb | hb <;> simp [ha, hb, Nat.testBit_xor]
  all_goals cases (a / 2).testBit i <;> cases (b / 2).testBit i <;> cases P.testBit i <;> rfl
theorem tx_zero : tx 0 = 0 := by decide
theorem tx_lt {b : Nat} (h : b < 4294967296) : tx b < 4294967296 := by
  unfold tx
  have h1 : b / 2 < 2 ^ 32 := by omega
  have h2 : (if b % 2 = 1 then P else 0) < 2 ^ 32 := by split <;> simp [P]
  simpa using Nat.xor_lt_two_pow h1 h2
theorem txn_xor (n a b : Nat) : txn n (a ^^^ b) = txn n a ^^^ txn n b := by
  induction n with
  | zero => rfl
  | succ n ih => simp only [txn, ih, tx_xor]
theorem txn_zero (n : Nat) : txn n 0 = 0 := by
  induction n with
  | zero => rfl
  | succ n ih => simp only [txn, ih, tx_zero]
theorem txn_lt (n : Nat) {b : Nat} (h : b < 4294967296) : txn n b < 4294967296 := by
  induction n with
  | zero => exact h
  | succ n ih => exact tx_lt ih
theorem txn_add (m n b : Nat) : txn (m + n) b = txn m (txn n b) := by
  induction m with
  | zero => simp [txn]
  | succ m ih => rw [show m + 1 + n = (m + n) + 1 by omega]; simp only [txn, ih]
theorem txn_one (b : Nat) : txn 1 b = tx b := rfl

theorem tm_zero (n b : Nat) : tm n 0 b = 0 := by
  induction n generalizing b with
  | zero => rfl
  | succ n ih => simp [tm, ih]
theorem tm_tx (n a b : Nat) : tm n a (tx b) = tx (tm n a b) := by
  induction n generalizing a b with
  | zero => simp [tm, tx_zero]
  | succ n ih =>
    simp only [tm, ih, tx_xor]
    split <;> simp [tx_zero]
theorem tm_txn (n a m b : Nat) : tm n a (txn m b) = txn m (tm n a b) := by
  induction m with
  | zero => rfl
  | succ m ih => simp only [txn, tm_tx, ih]
theorem tm_lt (n a : Nat) {b : Nat} (h : b < 4294967296) : tm n a b < 4294967296 := by
  induction n generalizing a b with
  | zero => simp [tm]
  | succ n ih =>
    have h1 : (if a / 2147483648 = 1 then b else 0) < 2 ^ 32 := by split <;> omega
    have h2 : tm n (a * 2 % 4294967296) (tx b) < 2 ^ 32 := ih _ (tx_lt h)
    simpa [tm] using Nat.xor_lt_two_pow h1 h2

theorem tx_pow (n : Nat) : tx (2 ^ (n + 1)) = 2 ^ n := by
  unfold tx
  have h1 : 2 ^ (n + 1) = 2 * 2 ^ n := by rw [Nat.pow_succ]; omega
  have h2 : (2 ^ (n + 1)) % 2 = 0 := by omega
  rw [h2, h1]; simp
theorem txn_pow (n : Nat) : txn n (2 ^ n) = 1 := by
  suffices h : ∀ m k, txn m (2 ^ (m + k)) = 2 ^ k by simpa using h n 0
  intro m
  induction m with
  | zero => intro k; simp [txn]
  | succ m ih =>
    intro k
    simp only [txn]
    rw [show m + 1 + k = m + (k + 1) by omega, ih, tx_pow]

theorem xor_top (t n r : Nat) (ht : t ≤ 1) (hr : r < 2 ^ n) : (if t = 1 then 2 ^ n else 0) ^^^ r = t * 2 ^ n + r := by
  obtain rfl | rfl : t = 0 ∨ t = 1 := by omega
  · simp
  · simp only [if_true, Nat.one_mul]
    have h := Nat.two_pow_add_eq_or_of_lt hr 1
    simp only [Nat.mul_one] at h
    rw [h]
    apply Nat.eq_of_testBit_eq
    intro i
    rw [Nat.testBit_xor, Nat.testBit_or, Nat.testBit_two_pow]
    by_cases hi : n = i
    · subst hi; simp [Nat.testBit_lt_two_pow hr]
    · simp [hi]

theorem tm_pow (n a : Nat) (hn : n < 32) (ha : a < 4294967296) : tm (n + 1) a (2 ^ n) = a / 2 ^ (31 - n) := by
  induction n generalizing a with
  | zero => simp only [tm]; split <;> simp <;> omega
  | succ n ih =>
    rw [tm, tx_pow, ih _ (by omega) (Nat.mod_lt _ (by omega))]
    have hp : (2 : Nat) ^ 31 = 2 ^ (31 - (n + 1)) * 2 ^ (n + 1) := by rw [← Nat.pow_add]; congr 1; omega
    have hq : (2 : Nat) ^ (31 - n) = 2 * 2 ^ (31 - (n + 1)) := by rw [show 31 - n = 31 - (n + 1) + 1 by omega, Nat.pow_succ]; omega
    have e1 : a = a / 2147483648 * 2147483648 + a % 2147483648 := by omega
    have e2 : a * 2 % 4294967296 = 2 * (a % 2147483648) := by omega
    have e3 : a * 2 % 4294967296 / 2 ^ (31 - n) = a % 2147483648 / 2 ^ (31 - (n + 1)) := by
      rw [e2, hq, Nat.mul_div_mul_left _ _ (by omega)]
    have e4 : a % 2147483648 / 2 ^ (31 - (n + 1)) < 2 ^ (n + 1) := by
      rw [Nat.div_lt_iff_lt_mul (Nat.two_pow_pos _), Nat.mul_comm, ← hp]; exact Nat.mod_lt _ (by omega)
    have e5 : a / 2 ^ (31 - (n + 1)) = a / 2147483648 * 2 ^ (n + 1) + a % 2147483648 / 2 ^ (31 - (n + 1)) := by
      have : a = a % 2147483648 + 2 ^ (31 - (n + 1)) * (a / 2147483648 * 2 ^ (n + 1)) := by
        have h31 : (2147483648 : Nat) = 2 ^ 31 := by decide
        have : 2 ^ (31 - (n + 1)) * (a / 2147483648 * 2 ^ (n + 1)) = a / 2147483648 * 2147483648 := by
          rw [h31, hp, Nat.mul_left_comm]
        rw [this]; omega
      conv => lhs; rw [this]
      rw [Nat.add_mul_div_left _ _ (Nat.two_pow_pos _), Nat.add_comm]
    rw [e3, e5]
    exact xor_top _ _ _ (by omega) e4

/-- A product with 1 (whose bit is the highest one). -/
theorem tm_one (a : Nat) (ha : a < 4294967296) : tm 32 a 2147483648 = a := by
  have := tm_pow 31 a (by omega) ha
  simpa using this

/-- A product with x to the m. -/
theorem times_pow (a m : Nat) (ha : a < 4294967296) : tm 32 a (txn m 2147483648) = txn m a := by
  rw [tm_txn, tm_one a ha]

/-- How many rounds a product still has. -/
def left : Nat → Nat → Nat
  | 0, _ => 0
  | n + 1, a => if a = 0 then 0 else 1 + left n (a * 2 % 4294967296)
theorem left_zero (n : Nat) : left n 0 = 0 := by cases n <;> simp [left]
theorem left_succ (n a : Nat) : left (n + 1) a = if a = 0 then 0 else 1 + left n (a * 2 % 4294967296) := rfl
theorem twice_pow (n a : Nat) (h : a * 2 ^ (n + 1) % 4294967296 = 0) : a * 2 % 4294967296 * 2 ^ n % 4294967296 = 0 := by
  rw [Nat.mod_mul_mod, ← h, Nat.pow_succ, Nat.mul_assoc, Nat.mul_comm 2]
theorem left_more (n a : Nat) (h : a * 2 ^ n % 4294967296 = 0) (ha : a < 4294967296) : left (n + 1) a = left n a := by
  induction n generalizing a with
  | zero =>
    simp at h
    rw [Nat.mod_eq_of_lt ha] at h
    subst h; simp [left]
  | succ n ih => rw [left_succ (n + 1) a, left_succ n a, ih _ (twice_pow n a h) (Nat.mod_lt _ (by omega))]
theorem left_step (a : Nat) (h0 : a ≠ 0) (ha : a < 4294967296) : left 32 (a * 2 % 4294967296) < left 32 a := by
  have h := left_more 32 a (by omega) ha
  rw [← h, left_succ 32 a, if_neg h0]; omega

/-- The product, from any stage on: what is gathered, and what is to come. -/
theorem tm_step (n a b : Nat) : tm (n + 1) a b = (if a / 2147483648 = 1 then b else 0) ^^^ tm n (a * 2 % 4294967296) (tx b) := rfl
theorem tm_more (n a b : Nat) (h : a * 2 ^ n % 4294967296 = 0) (ha : a < 4294967296) : tm (n + 1) a b = tm n a b := by
  induction n generalizing a b with
  | zero =>
    simp at h
    rw [Nat.mod_eq_of_lt ha] at h
    subst h; simp [tm]
  | succ n ih =>
    rw [tm_step (n + 1) a b, tm_step n a b, ih _ _ (twice_pow n a h) (Nat.mod_lt _ (by omega))]
theorem tm_32 (a b : Nat) (ha : a < 4294967296) : tm 32 a b = (if a / 2147483648 = 1 then b else 0) ^^^ tm 32 (a * 2 % 4294967296) (tx b) := by
  rw [← tm_more 32 a b (by omega) ha]; rfl

/-! The document's own way: bits in their order; turned at the end. -/
/-- The first n bits, the other way round. -/
def rv : Nat → Nat → Nat
  | 0, _ => 0
  | n + 1, r => 2 * rv n r + r / 2 ^ n % 2
theorem rv_lt (n r : Nat) : rv n r < 2 ^ n := by
  induction n with
  | zero => simp [rv]
  | succ n ih => simp only [rv, Nat.pow_succ]; omega
theorem rv_bit (n r j : Nat) : (rv n r).testBit j = (decide (j < n) && r.testBit (n - 1 - j)) := by
  induction n generalizing j with
  | zero => simp [rv]
  | succ n ih =>
    simp only [rv]
    cases j with
    | zero =>
      simp only [Nat.testBit_zero]
      rw [Nat.testBit_eq_decide_div_mod_eq]
      simp
    | succ j =>
      rw [Nat.testBit_succ, show (2 * rv n r + r / 2 ^ n % 2) / 2 = rv n r by omega, ih]
      by_cases h : j < n
      · simp [h]; congr 1; omega
      · simp [h]
/-- One bit. -/
def rstep (r c : Nat) : Nat := (r * 2 % 4294967296) ^^^ (if (r / 2147483648) ^^^ c = 1 then 517762881 else 0)
theorem rstep_lt (r c : Nat) : rstep r c < 4294967296 := by
  unfold rstep
  have h1 : r * 2 % 4294967296 < 2 ^ 32 := by omega
  have h2 : (if (r / 2147483648) ^^^ c = 1 then 517762881 else 0) < 2 ^ 32 := by split <;> omega
  simpa using Nat.xor_lt_two_pow h1 h2
theorem polys : ∀ j, j < 32 → (517762881).testBit (31 - j) = P.testBit j := by decide
theorem bit_top (r : Nat) (hr : r < 4294967296) : r.testBit 31 = decide (r / 2147483648 = 1) := by
  rw [Nat.testBit_eq_decide_div_mod_eq]; congr 1; simp; omega
theorem rv_step (r c : Nat) (hr : r < 4294967296) (hc : c ≤ 1) : rv 32 (rstep r c) = tx (rv 32 r ^^^ c) := by
  have ht : r / 2147483648 ≤ 1 := by omega
  have h0 : (rv 32 r ^^^ c) % 2 = (r / 2147483648 ^^^ c) := by
    rw [xor_odd]
    have hb := rv_bit 32 r 0
    rw [Nat.testBit_zero] at hb
    simp [bit_top r hr] at hb
    obtain e | e : r / 2147483648 = 0 ∨ r / 2147483648 = 1 := by omega
    all_goals obtain rfl | rfl : c = 0 ∨ c = 1 := by omega
    all_goals simp [e] at hb ⊢
    all_goals omega
  apply Nat.eq_of_testBit_eq
  intro j
  rw [rv_bit]
  unfold tx rstep
  rw [h0, Nat.testBit_xor, Nat.testBit_xor, ← Nat.testBit_succ, Nat.testBit_xor, rv_bit]
  have hc1 : c.testBit (j + 1) = false := Nat.testBit_lt_two_pow (by
    have : 2 ^ 1 ≤ 2 ^ (j + 1) := Nat.pow_le_pow_right (by omega) (by omega)
    omega)
  rw [hc1]
  by_cases hj : j < 32
  · have hp := polys j hj
    have hs : (r * 2 % 4294967296).testBit (31 - j) = (decide (j + 1 < 32) && r.testBit (31 - (j + 1))) := by
      rw [show (4294967296 : Nat) = 2 ^ 32 by decide, Nat.testBit_mod_two_pow, Nat.mul_comm, show 2 * r = 2 ^ 1 * r by simp, Nat.testBit_two_pow_mul]
      by_cases h31 : j + 1 < 32
      · simp [h31, show 1 ≤ 31 - j by omega, show 31 - j < 32 by omega, show 31 - j - 1 = 31 - (j + 1) by omega]
      · have : j = 31 := by omega
        subst this; simp
    simp only [hj, decide_true, Bool.true_and, Bool.xor_false]
    rw [show 32 - 1 - j = 31 - j by omega, show 32 - 1 - (j + 1) = 31 - (j + 1) by omega, hs]
    split
    · rw [hp]
    · simp
  · have hP : P.testBit j = false := Nat.testBit_lt_two_pow (by
      have : 2 ^ 32 ≤ 2 ^ j := Nat.pow_le_pow_right (by omega) (by omega)
      unfold P; omega)
    have : ¬ j + 1 < 32 := by omega
    simp [hj, this]
    split <;> simp [hP]

/-- A register behind bytes. -/
def reg (s : Nat) (l : List UInt8) : Nat := l.foldl (fun s b => txn 8 (s ^^^ b.toNat)) s
def ones : Nat := 4294967295
/-- The sum of bytes. -/
def crc (l : List UInt8) : Nat := reg ones l ^^^ ones
theorem byte_lt (b : UInt8) : b.toNat < 4294967296 := by have := b.toNat_lt; omega
theorem xlt {a b : Nat} (ha : a < 4294967296) (hb : b < 4294967296) : a ^^^ b < 4294967296 := by
  simpa using Nat.xor_lt_two_pow (n := 32) ha hb
theorem reg_lt (s : Nat) (l : List UInt8) (h : s < 4294967296) : reg s l < 4294967296 := by
  induction l generalizing s with
  | nil => exact h
  | cons b l ih => exact ih _ (txn_lt 8 (xlt h (byte_lt b)))
theorem reg_snoc (s : Nat) (l : List UInt8) (b : UInt8) : reg s (l ++ [b]) = txn 8 (reg s l ^^^ b.toNat) := by
  simp [reg, List.foldl_append]
theorem reg_append (s : Nat) (l m : List UInt8) : reg s (l ++ m) = reg (reg s l) m := by
  simp [reg, List.foldl_append]
theorem reg_lin (s t : Nat) (l : List UInt8) : reg (s ^^^ t) l = txn (8 * l.length) s ^^^ reg t l := by
  induction l generalizing s t with
  | nil => simp [reg, txn]
  | cons b l ih =>
    have e : reg (s ^^^ t) (b :: l) = reg (txn 8 s ^^^ txn 8 (t ^^^ b.toNat)) l := by
      show reg (txn 8 (s ^^^ t ^^^ b.toNat)) l = _
      rw [Nat.xor_assoc, txn_xor]
    rw [e, ih, ← txn_add]
    show _ = txn (8 * (l.length + 1)) s ^^^ reg (txn 8 (t ^^^ b.toNat)) l
    rw [show 8 * (l.length + 1) = 8 * l.length + 8 by omega]
theorem crc_lt (l : List UInt8) : crc l < 4294967296 := xlt (reg_lt _ _ (by decide)) (by decide)
theorem xor_swap (a b c : Nat) : a ^^^ b ^^^ c = a ^^^ c ^^^ b := by rw [Nat.xor_assoc, Nat.xor_comm b, ← Nat.xor_assoc]
/-- THE SUM OF TWO TEXTS. -/
theorem crc_join (a b : List UInt8) : txn (8 * b.length) (crc a) ^^^ crc b = crc (a ++ b) := by
  have h := reg_lin (crc a) ones b
  have e : crc a ^^^ ones = reg ones a := by unfold crc; rw [Nat.xor_assoc, Nat.xor_self, Nat.xor_zero]
  rw [e] at h
  show _ ^^^ (reg ones b ^^^ ones) = reg ones (a ++ b) ^^^ ones
  rw [reg_append, h, Nat.xor_assoc]

/-- Within a byte, behind k of its bits. -/
theorem bits_step (R s b k : Nat) (hR : R < 4294967296) (h : rv 32 R = txn k (s ^^^ b % 2 ^ k)) : rv 32 (rstep R (b / 2 ^ k % 2)) = txn (k + 1) (s ^^^ b % 2 ^ (k + 1)) := by
  rw [rv_step R _ hR (by omega), h]
  have e1 : b % 2 ^ (k + 1) = (if b / 2 ^ k % 2 = 1 then 2 ^ k else 0) ^^^ b % 2 ^ k := by
    rw [xor_top _ _ _ (by omega) (Nat.mod_lt _ (Nat.two_pow_pos _)), Nat.pow_succ, Nat.mod_mul]
    rw [Nat.mul_comm, Nat.add_comm]
  have e2 : txn k (if b / 2 ^ k % 2 = 1 then 2 ^ k else 0) = b / 2 ^ k % 2 := by
    split
    · next h => rw [txn_pow, h]
    · next h => rw [txn_zero]; omega
  show _ = tx (txn k _)
  rw [e1, Nat.xor_comm (if b / 2 ^ k % 2 = 1 then 2 ^ k else 0) (b % 2 ^ k), ← Nat.xor_assoc, txn_xor k (s ^^^ b % 2 ^ k), e2]

end Go.Proofs.YtppmjdmdflcoiaaDoor.Crc
