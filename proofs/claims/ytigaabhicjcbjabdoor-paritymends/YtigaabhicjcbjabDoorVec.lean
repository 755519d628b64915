/-
  Plain mathematics: bytes doubled and added, columns of pieces. Nothing of the program is named here.
-/
import Derived.Test.YtigaabhicjcbjabDoorGf
namespace Go.Proofs.YtigaabhicjcbjabDoor

/-- Twice a byte. -/
def dbl (x : UInt8) : UInt8 := UInt8.ofNat (Gf.d x.toNat)
/-- Doubled k times. -/
def dbln : Nat → UInt8 → UInt8
  | 0, x => x
  | k + 1, x => dbl (dbln k x)
/-- Times c. -/
def mulc (c x : UInt8) : UInt8 := UInt8.ofNat (Gf.ml 8 c.toNat x.toNat)
theorem u8_lt (x : UInt8) : x.toNat < 256 := x.toNat_lt
theorem u8_ofNat {n : Nat} (h : n < 256) : (UInt8.ofNat n).toNat = n := by
  rw [UInt8.toNat_ofNat']; exact Nat.mod_eq_of_lt h
theorem u8_ext {x y : UInt8} (h : x.toNat = y.toNat) : x = y := UInt8.toNat.inj h
theorem dbl_toNat (x : UInt8) : (dbl x).toNat = Gf.d x.toNat := u8_ofNat (Gf.d_lt _ (u8_lt x))
theorem dbln_toNat (k : Nat) (x : UInt8) : (dbln k x).toNat = Gf.dn k x.toNat := by
  induction k with
  | zero => rfl
  | succ k ih => simp only [dbln, Gf.dn, dbl_toNat, ih]
theorem mulc_toNat (c x : UInt8) : (mulc c x).toNat = Gf.ml 8 c.toNat x.toNat := u8_ofNat (Gf.ml_lt _ _ (u8_lt x))
theorem dbl_xor (x y : UInt8) : dbl (x ^^^ y) = dbl x ^^^ dbl y := by
  apply u8_ext
  rw [dbl_toNat, UInt8.toNat_xor, UInt8.toNat_xor, dbl_toNat, dbl_toNat]
  exact Gf.d_xor _ _ (u8_lt x) (u8_lt y)
theorem dbln_xor (k : Nat) (x y : UInt8) : dbln k (x ^^^ y) = dbln k x ^^^ dbln k y := by
  induction k with
  | zero => rfl
  | succ k ih => simp only [dbln, ih, dbl_xor]
theorem dbl_zero : dbl 0 = 0 := rfl
theorem dbln_zero (k : Nat) : dbln k 0 = 0 := by
  induction k with
  | zero => rfl
  | succ k ih => simp only [dbln, ih, dbl_zero]
theorem dbln_back {k : Nat} (hk : k ≤ 255) (x : UInt8) : dbln (255 - k) (dbln k x) = x := by
  apply u8_ext
  rw [dbln_toNat, dbln_toNat]; exact Gf.dn_back hk (u8_lt x)
theorem dbln_forth {k : Nat} (hk : k ≤ 255) (x : UInt8) : dbln k (dbln (255 - k) x) = x := by
  apply u8_ext
  rw [dbln_toNat, dbln_toNat]; exact Gf.dn_forth hk (u8_lt x)
theorem dbln_inj {k : Nat} (hk : k ≤ 255) {x y : UInt8} (h : dbln k x = dbln k y) : x = y := by
  rw [← dbln_back hk x, h, dbln_back hk y]
theorem dbln_apart {i j : Nat} {x : UInt8} (h : i ≠ j) (hi : i < 16) (hj : j < 16) (e : dbln i x = dbln j x) : x = 0 := by
  have e' : Gf.dn i x.toNat = Gf.dn j x.toNat := by rw [← dbln_toNat, ← dbln_toNat, e]
  apply u8_ext
  rcases Nat.lt_or_gt_of_ne h with h | h
  · exact Gf.dn_apart h hj (u8_lt x) e'
  · exact Gf.dn_apart h hi (u8_lt x) e'.symm
theorem mulc_pow (k : Nat) (x : UInt8) : mulc (dbln k 1) x = dbln k x := by
  apply u8_ext
  rw [mulc_toNat, dbln_toNat, dbln_toNat]; exact Gf.ml_pow k _ (u8_lt x)
theorem two_power (i j : Nat) (h : i < j) (hj : j < 16) : ∃ k, k < 255 ∧ dbln k 1 = dbln i 1 ^^^ dbln j 1 ∧ ∀ x, dbln i x ^^^ dbln j x = dbln k x := by
  obtain ⟨k, hk, e, g⟩ := Gf.two_power i j h hj
  refine ⟨k, hk, u8_ext ?_, fun x => u8_ext ?_⟩
  · rw [dbln_toNat, UInt8.toNat_xor, dbln_toNat, dbln_toNat]; exact e
  · rw [UInt8.toNat_xor, dbln_toNat, dbln_toNat, dbln_toNat]; exact g _ (u8_lt x)
theorem is_power (c : UInt8) (h : c ≠ 0) : ∃ k, k < 255 ∧ dbln k 1 = c := by
  obtain ⟨k, hk, e⟩ := Gf.is_power (u8_lt c) (fun e => h (u8_ext e))
  exact ⟨k, hk, u8_ext (by rw [dbln_toNat]; exact e)⟩
theorem power_inj {k m : Nat} (hk : k < 255) (hm : m < 255) (h : dbln k 1 = dbln m 1) : k = m := by
  have g : ∀ k < 255, ∀ m < k, Gf.dn (k - m) 1 ≠ 1 := by
    have g0 : ∀ k < 255, 0 < k → Gf.dn k 1 ≠ 1 := by decide +kernel
    exact fun k hk m hm => g0 (k - m) (by omega) (by omega)
  have one : ∀ k m, k < 255 → m < k → dbln k 1 = dbln m 1 → False := by
    intro k m hk hm h
    have e : Gf.dn k 1 = Gf.dn m 1 := by
      have := congrArg UInt8.toNat h
      rwa [dbln_toNat, dbln_toNat] at this
    apply g k hk m hm
    rw [show k = m + (k - m) by omega, Gf.dn_add] at e
    exact Gf.dn_inj (k := m) (by omega) (Gf.dn_lt _ (by omega)) (by omega) e
  rcases Nat.lt_trichotomy k m with h1 | h1 | h1
  · exact (one m k hm h1 h.symm).elim
  · exact h1
  · exact (one k m hk h1 h).elim

theorem xor_cancel (a b : UInt8) : a ^^^ b ^^^ b = a := by rw [UInt8.xor_assoc, UInt8.xor_self, UInt8.xor_zero]
theorem xor_eq {a b c : UInt8} : a ^^^ b = c ↔ a = c ^^^ b := ⟨fun h => by rw [← h, xor_cancel], fun h => by rw [h, xor_cancel]⟩

/-- The byte numbered i; 0 where there is none. -/
def at0 (l : List UInt8) (i : Nat) : UInt8 := l.getD i 0
theorem at0_nil (i : Nat) : at0 [] i = 0 := by simp [at0]
theorem at0_lt {l : List UInt8} {i : Nat} (h : i < l.length) : at0 l i = l[i] := by simp [at0, h]
/-- So many bytes. -/
def vec (n : Nat) (f : Nat → UInt8) : List UInt8 := (List.range n).map f
theorem vec_length (n : Nat) (f : Nat → UInt8) : (vec n f).length = n := by simp [vec]
theorem vec_at {n : Nat} {f : Nat → UInt8} {i : Nat} (h : i < n) : at0 (vec n f) i = f i := by simp [vec, at0, h]
theorem vec_get {n : Nat} {f : Nat → UInt8} {i : Nat} (h : i < (vec n f).length) : (vec n f)[i] = f i := by simp [vec]
theorem vec_congr {n : Nat} {f g : Nat → UInt8} (h : ∀ i, i < n → f i = g i) : vec n f = vec n g := by
  unfold vec
  apply List.map_congr_left
  intro i hi
  exact h i (by simpa using hi)
theorem vec_self (l : List UInt8) : vec l.length (at0 l) = l := by
  apply List.ext_getElem
  · simp [vec]
  · intro i h1 h2
    rw [vec_get, at0_lt h2]
theorem vec_eq {l : List UInt8} {n : Nat} {f : Nat → UInt8} (hl : l.length = n) (h : ∀ i, i < n → at0 l i = f i) : l = vec n f := by
  subst hl
  rw [← vec_congr h, vec_self]
theorem vec_zero (f : Nat → UInt8) : vec 0 f = [] := rfl
theorem vec_succ (n : Nat) (f : Nat → UInt8) : vec (n + 1) f = vec n f ++ [f n] := by
  simp [vec, List.range_succ]
theorem vec_inj {n : Nat} {f g : Nat → UInt8} (h : vec n f = vec n g) : ∀ i, i < n → f i = g i := fun i hi => by
  rw [← vec_at (f := f) hi, h, vec_at hi]

/-- The sum of a column. -/
def colP : List (List UInt8) → Nat → UInt8
  | [], _ => 0
  | b :: L, i => at0 b i ^^^ colP L i
/-- The sum of a column, each piece with the weight of its number. -/
def colQ : Nat → List (List UInt8) → Nat → UInt8
  | _, [], _ => 0
  | k, b :: L, i => dbln k (at0 b i) ^^^ colQ (k + 1) L i
theorem colP_snoc (L : List (List UInt8)) (b : List UInt8) (i : Nat) : colP (L ++ [b]) i = colP L i ^^^ at0 b i := by
  induction L with
  | nil => simp [colP]
  | cons a L ih => simp only [List.cons_append, colP, ih, UInt8.xor_assoc]
theorem colQ_snoc (k : Nat) (L : List (List UInt8)) (b : List UInt8) (i : Nat) : colQ k (L ++ [b]) i = colQ k L i ^^^ dbln (k + L.length) (at0 b i) := by
  induction L generalizing k with
  | nil => simp [colQ]
  | cons a L ih =>
    simp only [List.cons_append, colQ, ih, UInt8.xor_assoc, List.length_cons]
    rw [show k + 1 + L.length = k + (L.length + 1) by omega]
theorem colQ_dbl (k : Nat) (L : List (List UInt8)) (i : Nat) : dbl (colQ k L i) = colQ (k + 1) L i := by
  induction L generalizing k with
  | nil => simp [colQ, dbl_zero]
  | cons a L ih => simp only [colQ, dbl_xor, ih]; rfl
/-- What is exchanged in a column. -/
theorem colP_set (L : List (List UInt8)) (j : Nat) (b : List UInt8) (i : Nat) (hj : j < L.length) : colP (L.set j b) i = colP L i ^^^ (at0 L[j] i ^^^ at0 b i) := by
  induction L generalizing j with
  | nil => simp at hj
  | cons a L ih =>
    cases j with
    | zero =>
      simp only [List.set_cons_zero, colP, List.getElem_cons_zero]
      rw [UInt8.xor_comm (at0 a i) (colP L i), UInt8.xor_assoc, ← UInt8.xor_assoc (at0 a i), UInt8.xor_self, UInt8.zero_xor, UInt8.xor_comm]
    | succ j =>
      simp only [List.set_cons_succ, colP, List.getElem_cons_succ]
      rw [ih j (by simpa using hj), UInt8.xor_assoc]
theorem colQ_set (k : Nat) (L : List (List UInt8)) (j : Nat) (b : List UInt8) (i : Nat) (hj : j < L.length) : colQ k (L.set j b) i = colQ k L i ^^^ dbln (k + j) (at0 L[j] i ^^^ at0 b i) := by
  induction L generalizing j k with
  | nil => simp at hj
  | cons a L ih =>
    cases j with
    | zero =>
      simp only [List.set_cons_zero, colQ, List.getElem_cons_zero, Nat.add_zero, dbln_xor]
      rw [UInt8.xor_comm (dbln k (at0 a i)) (colQ (k + 1) L i), UInt8.xor_assoc, ← UInt8.xor_assoc (dbln k (at0 a i)), UInt8.xor_self, UInt8.zero_xor, UInt8.xor_comm]
    | succ j =>
      simp only [List.set_cons_succ, colQ, List.getElem_cons_succ]
      rw [ih (k + 1) j (by simpa using hj), UInt8.xor_assoc, show k + 1 + j = k + (j + 1) by omega]
end Go.Proofs.YtigaabhicjcbjabDoor
