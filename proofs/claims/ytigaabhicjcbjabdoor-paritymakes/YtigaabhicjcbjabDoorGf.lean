/-
  Plain mathematics: numbers of eight bits, added by xor and doubled. Nothing of the program is named here.
-/
namespace Go.Proofs.YtigaabhicjcbjabDoor.Gf

/-- Twice a number. -/
def d (n : Nat) : Nat := (2 * n % 256) ^^^ (n / 128 * 29)
/-- Doubled k times. -/
def dn : Nat → Nat → Nat
  | 0, x => x
  | k + 1, x => d (dn k x)
/-- The first n steps of a product. -/
def ml : Nat → Nat → Nat → Nat
  | 0, _, _ => 0
  | n + 1, c, x => (if c % 2 = 1 then x else 0) ^^^ ml n (c / 2) (d x)
/-- Whether c is met within n doublings. -/
def meets : Nat → Nat → Nat → Bool
  | 0, _, _ => false
  | n + 1, x, c => x == c || meets n (d x) c

theorem xor_half (a b : Nat) : (a ^^^ b) / 2 = (a / 2) ^^^ (b / 2) := by
  apply Nat.eq_of_testBit_eq
  intro i
  simp [← Nat.testBit_succ, Nat.testBit_xor]
theorem xor_odd (a b : Nat) : (a ^^^ b) % 2 = (a % 2 + b % 2) % 2 := by
  have h := Nat.testBit_xor (i := 0) (x := a) (y := b)
  simp only [Nat.testBit_zero] at h
  have h' : ((a ^^^ b) % 2 = 1) ↔ ¬ (a % 2 = 1 ↔ b % 2 = 1) := by
    rw [← decide_eq_true_iff (p := (a ^^^ b) % 2 = 1), h]
    by_cases ha : a % 2 = 1 <;> by_cases hb : b % 2 = 1 <;> simp [ha, hb]
  omega
theorem d_lt (x : Nat) (h : x < 256) : d x < 256 := by
  have h : ∀ x < 256, d x < 256 := by decide +kernel
  exact h x ‹_›
theorem d_zero : d 0 = 0 := rfl
theorem d_xor (x y : Nat) (hx : x < 256) (hy : y < 256) : d (x ^^^ y) = d x ^^^ d y := by
  have e1 : 2 * (x ^^^ y) % 256 = (2 * x % 256) ^^^ (2 * y % 256) := by
    have h := Nat.xor_mod_two_pow (a := 2 * x) (b := 2 * y) (n := 8)
    have g : (2 * x) ^^^ (2 * y) = 2 * (x ^^^ y) := by
      have := Nat.shiftLeft_xor_distrib (a := x) (b := y) (i := 1)
      simp only [Nat.shiftLeft_eq, Nat.pow_one] at this
      rw [Nat.mul_comm 2 x, Nat.mul_comm 2 y, Nat.mul_comm 2 (x ^^^ y)]; exact this.symm
    rw [g] at h; exact h
  have e2 : (x ^^^ y) / 128 = (x / 128) ^^^ (y / 128) := Nat.xor_div_two_pow (a := x) (b := y) (n := 7)
  have e3 : ((x / 128) ^^^ (y / 128)) * 29 = (x / 128 * 29) ^^^ (y / 128 * 29) := by
    have hx' : x / 128 = 0 ∨ x / 128 = 1 := by omega
    have hy' : y / 128 = 0 ∨ y / 128 = 1 := by omega
    rcases hx' with h | h <;> rcases hy' with g | g <;> rw [h, g] <;> decide
  unfold d
  rw [e1, e2, e3]
  generalize 2 * x % 256 = a
  generalize 2 * y % 256 = b
  generalize x / 128 * 29 = c
  generalize y / 128 * 29 = e
  rw [Nat.xor_assoc, Nat.xor_assoc, ← Nat.xor_assoc b, Nat.xor_comm b c, Nat.xor_assoc c]
theorem dn_lt (k : Nat) {x : Nat} (h : x < 256) : dn k x < 256 := by
  induction k with
  | zero => exact h
  | succ k ih => exact d_lt _ ih
theorem dn_zero (k : Nat) : dn k 0 = 0 := by
  induction k with
  | zero => rfl
  | succ k ih => simp only [dn, ih, d_zero]
theorem dn_xor (k : Nat) {x y : Nat} (hx : x < 256) (hy : y < 256) : dn k (x ^^^ y) = dn k x ^^^ dn k y := by
  induction k with
  | zero => rfl
  | succ k ih => simp only [dn, ih]; exact d_xor _ _ (dn_lt k hx) (dn_lt k hy)
theorem dn_add (m n x : Nat) : dn (m + n) x = dn m (dn n x) := by
  induction m with
  | zero => simp [dn]
  | succ m ih => rw [show m + 1 + n = (m + n) + 1 by omega]; simp only [dn, ih]
theorem dn_255 {x : Nat} (h : x < 256) : dn 255 x = x := by
  have g : ∀ x < 256, dn 255 x = x := by decide +kernel
  exact g x h
theorem dn_back {k x : Nat} (hk : k ≤ 255) (h : x < 256) : dn (255 - k) (dn k x) = x := by
  rw [← dn_add, show 255 - k + k = 255 by omega]; exact dn_255 h
theorem dn_forth {k x : Nat} (hk : k ≤ 255) (h : x < 256) : dn k (dn (255 - k) x) = x := by
  rw [← dn_add, show k + (255 - k) = 255 by omega]; exact dn_255 h
theorem meets_some (n m c : Nat) (h : meets n (dn m 1) c = true) : ∃ k, k < n ∧ dn (m + k) 1 = c := by
  induction n generalizing m with
  | zero => simp [meets] at h
  | succ n ih =>
    simp only [meets, Bool.or_eq_true, beq_iff_eq] at h
    rcases h with h | h
    · exact ⟨0, by omega, h⟩
    · obtain ⟨k, hk, e⟩ := ih (m + 1) h
      exact ⟨k + 1, by omega, by rw [← e]; congr 1; omega⟩
/-- All but 0 are powers of 2. -/
theorem is_power {c : Nat} (h : c < 256) (h0 : c ≠ 0) : ∃ k, k < 255 ∧ dn k 1 = c := by
  have g : ∀ c < 256, c ≠ 0 → meets 255 1 c = true := by decide +kernel
  obtain ⟨k, hk, e⟩ := meets_some 255 0 c (g c h h0)
  exact ⟨k, hk, by simpa using e⟩
theorem ml_zero (n c : Nat) : ml n c 0 = 0 := by
  induction n generalizing c with
  | zero => rfl
  | succ n ih => simp [ml, d_zero, ih]
theorem ml_lt (n c : Nat) {x : Nat} (h : x < 256) : ml n c x < 256 := by
  induction n generalizing c x with
  | zero => simp [ml]
  | succ n ih =>
    simp only [ml]
    have h1 : (if c % 2 = 1 then x else 0) < 2 ^ 8 := by split <;> omega
    exact Nat.xor_lt_two_pow h1 (ih (c / 2) (d_lt x h))
theorem ml_xor (n a b x : Nat) : ml n (a ^^^ b) x = ml n a x ^^^ ml n b x := by
  induction n generalizing a b x with
  | zero => simp [ml]
  | succ n ih =>
    simp only [ml, xor_half, xor_odd, ih]
    apply Nat.eq_of_testBit_eq
    intro i
    rcases Nat.mod_two_eq_zero_or_one a with ha | ha <;> rcases Nat.mod_two_eq_zero_or_one b with hb | hb <;> simp [ha, hb, Nat.testBit_xor]
    all_goals cases x.testBit i <;> cases (ml n (a / 2) (d x)).testBit i <;> cases (ml n (b / 2) (d x)).testBit i <;> rfl
theorem ml_stop (n x : Nat) : ml n 0 x = 0 := by
  induction n generalizing x with
  | zero => rfl
  | succ n ih => simp [ml, ih]
theorem ml_add (n c : Nat) {x y : Nat} (hx : x < 256) (hy : y < 256) : ml n c (x ^^^ y) = ml n c x ^^^ ml n c y := by
  induction n generalizing c x y with
  | zero => simp [ml]
  | succ n ih =>
    simp only [ml, d_xor _ _ hx hy, ih (c / 2) (d_lt x hx) (d_lt y hy)]
    apply Nat.eq_of_testBit_eq
    intro i
    rcases Nat.mod_two_eq_zero_or_one c with hc | hc <;> simp [hc, Nat.testBit_xor]
    all_goals cases x.testBit i <;> cases y.testBit i <;> cases (ml n (c / 2) (d x)).testBit i <;> cases (ml n (c / 2) (d y)).testBit i <;> rfl
theorem split (m y : Nat) (hm : m < 8) (hy : y < 2 ^ m) : y ^^^ 2 ^ m = y + 2 ^ m := by
  have h : ∀ m < 8, ∀ y < 2 ^ m, y ^^^ 2 ^ m = y + 2 ^ m := by decide +kernel
  exact h m hm y hy
theorem linear (f g : Nat → Nat) (f0 : f 0 = 0) (g0 : g 0 = 0) (hf : ∀ x < 256, ∀ y < 256, f (x ^^^ y) = f x ^^^ f y) (hg : ∀ x < 256, ∀ y < 256, g (x ^^^ y) = g x ^^^ g y) (h : ∀ m < 8, f (2 ^ m) = g (2 ^ m)) :
    ∀ m ≤ 8, ∀ x < 2 ^ m, f x = g x := by
  intro m hm
  induction m with
  | zero => intro x hx; obtain rfl : x = 0 := by simpa using hx
            rw [f0, g0]
  | succ m ih =>
    intro x hx
    by_cases h1 : x < 2 ^ m
    · exact ih (by omega) x h1
    · have h2 : x - 2 ^ m < 2 ^ m := by rw [Nat.pow_succ] at hx; omega
      have hp : 2 ^ m < 256 := Nat.pow_lt_pow_right (m := m) (n := 8) (by omega) (by omega)
      have e : x = (x - 2 ^ m) ^^^ 2 ^ m := by rw [split m _ (by omega) h2]; omega
      rw [e, hf _ (by omega) _ hp, hg _ (by omega) _ hp, ih (by omega) _ h2, h m (by omega)]
theorem ml_d (c x : Nat) (hc : c < 256) (hx : x < 256) : ml 8 (d c) x = d (ml 8 c x) := by
  refine linear (fun x => ml 8 (d c) x) (fun x => d (ml 8 c x)) (ml_zero _ _) (by simp only [ml_zero, d_zero]) (fun x hx y hy => ml_add _ _ hx hy) (fun x hx y hy => ?_) (fun m hm => ?_) 8 (by omega) x hx
  · simp only [ml_add _ _ hx hy]; exact d_xor _ _ (ml_lt _ _ hx) (ml_lt _ _ hy)
  · have h : ∀ c < 256, ∀ m < 8, ml 8 (d c) (2 ^ m) = d (ml 8 c (2 ^ m)) := by decide +kernel
    exact h c hc m hm
/-- Times a power of 2 is doubling. -/
theorem ml_pow (k x : Nat) (hx : x < 256) : ml 8 (dn k 1) x = dn k x := by
  induction k with
  | zero => simp [ml, dn]
  | succ k ih => simp only [dn]; rw [ml_d _ _ (dn_lt k (by omega)) hx, ih]
theorem pow_ne (i j : Nat) (h : i < j) (hj : j < 16) : dn i 1 ^^^ dn j 1 ≠ 0 := by
  have g : ∀ j < 16, ∀ i < j, dn i 1 ^^^ dn j 1 ≠ 0 := by decide +kernel
  exact g j hj i h
/-- Two different doublings together are one doubling. -/
theorem two_power (i j : Nat) (h : i < j) (hj : j < 16) : ∃ k, k < 255 ∧ dn k 1 = dn i 1 ^^^ dn j 1 ∧ ∀ x < 256, dn i x ^^^ dn j x = dn k x := by
  obtain ⟨k, hk, e⟩ := is_power (c := dn i 1 ^^^ dn j 1) (Nat.xor_lt_two_pow (n := 8) (dn_lt i (by omega)) (dn_lt j (by omega))) (pow_ne i j h hj)
  refine ⟨k, hk, e, fun x hx => ?_⟩
  rw [← ml_pow k x hx, e, ml_xor, ml_pow i x hx, ml_pow j x hx]
theorem dn_inj {k x y : Nat} (hk : k ≤ 255) (hx : x < 256) (hy : y < 256) (h : dn k x = dn k y) : x = y := by
  rw [← dn_back hk hx, h, dn_back hk hy]
theorem dn_eq_zero {k x : Nat} (hk : k ≤ 255) (hx : x < 256) (h : dn k x = 0) : x = 0 := dn_inj hk hx (by omega) (by rw [h, dn_zero])
theorem dn_apart {i j x : Nat} (h : i < j) (hj : j < 16) (hx : x < 256) (e : dn i x = dn j x) : x = 0 := by
  obtain ⟨k, hk, _, g⟩ := two_power i j h hj
  have := g x hx
  rw [e, Nat.xor_self] at this
  exact dn_eq_zero (by omega) hx this.symm
end Go.Proofs.YtigaabhicjcbjabDoor.Gf
