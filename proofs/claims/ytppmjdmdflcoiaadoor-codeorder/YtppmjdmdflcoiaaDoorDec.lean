/-
  Plain mathematics: the parts of a key out of its bytes.
-/
import Derived.Test.YtppmjdmdflcoiaaDoorEnc
namespace Go.Proofs.YtppmjdmdflcoiaaDoor

/-- The number that bytes are, the highest one first. -/
def val (l : List UInt8) : Nat := l.foldl (fun n x => n * 256 + x.toNat) 0
theorem val_snoc (l : List UInt8) (x : UInt8) : val (l ++ [x]) = val l * 256 + x.toNat := by simp [val, List.foldl_append]
theorem fold_val (l : List UInt8) (a : Nat) : l.foldl (fun n x => n * 256 + x.toNat) a = a * 256 ^ l.length + val l := by
  induction l generalizing a with
  | nil => simp [val]
  | cons x l ih =>
    simp only [List.foldl_cons, List.length_cons]
    rw [ih]
    have h : val (x :: l) = x.toNat * 256 ^ l.length + val l := by
      show List.foldl _ (0 * 256 + x.toNat) l = _
      rw [ih]; simp
    rw [h, Nat.add_mul, Nat.pow_succ, Nat.mul_assoc, Nat.mul_comm 256, Nat.add_assoc]
theorem val_cons (x : UInt8) (l : List UInt8) : val (x :: l) = x.toNat * 256 ^ l.length + val l := by
  show List.foldl _ (0 * 256 + x.toNat) l = _
  rw [fold_val]; simp
theorem val_lt (l : List UInt8) : val l < 256 ^ l.length := by
  induction l with
  | nil => simp [val]
  | cons x l ih =>
    rw [val_cons, List.length_cons, Nat.pow_succ]
    have hx : x.toNat < 256 := x.toNat_lt
    have : x.toNat * 256 ^ l.length ≤ 255 * 256 ^ l.length := Nat.mul_le_mul_right _ (by omega)
    omega
theorem pow8 (k : Nat) : 2 ^ (8 * k) = 256 ^ k := by rw [Nat.pow_mul]
theorem be_val (l : List UInt8) (h : Nat) : be (h * 256 ^ l.length + val l) l.length = l := by
  induction l generalizing h with
  | nil => rfl
  | cons x l ih =>
    rw [val_cons, List.length_cons, be]
    have hv := val_lt l
    have e1 : (h * 256 ^ (l.length + 1) + (x.toNat * 256 ^ l.length + val l)) = (h * 256 + x.toNat) * 256 ^ l.length + val l := by
      rw [Nat.pow_succ, Nat.add_mul, Nat.mul_assoc, Nat.mul_comm 256]; omega
    congr 1
    · rw [pow8, e1, Nat.add_comm, Nat.add_mul_div_right _ _ (Nat.pow_pos (by omega)), Nat.div_eq_of_lt hv, Nat.zero_add]
      apply UInt8.toNat_inj.1
      have hx : x.toNat < 256 := x.toNat_lt
      rw [UInt8.toNat_ofNat']; omega
    · rw [e1]; exact ih _
theorem val_be (n k : Nat) : val (be n k) = n % 256 ^ k := by
  induction k with
  | zero => simp [be, val, Nat.mod_one]
  | succ k ih =>
    have e : n % 256 ^ (k + 1) = n % 256 ^ k + 256 ^ k * (n / 256 ^ k % 256) := by rw [Nat.pow_succ, Nat.mod_mul]
    rw [be, val_cons, be_length, ih, pow8, UInt8.toNat_ofNat', e, Nat.mul_comm, Nat.add_comm]
theorem sz_lt (f n : Nat) (h : n < 256 ^ f) : n < 256 ^ sz f n := by
  induction f generalizing n with
  | zero => simpa [sz] using h
  | succ f ih =>
    rw [sz]
    split
    · next h0 => subst h0; simp
    · have h1 : n / 256 < 256 ^ f := by rw [Nat.pow_succ] at h; omega
      have := ih _ h1
      rw [Nat.add_comm, Nat.pow_succ]; omega
theorem sz_ge (f n : Nat) (h : 0 < sz f n) : 256 ^ (sz f n - 1) ≤ n := by
  induction f generalizing n with
  | zero => simp [sz] at h
  | succ f ih =>
    rw [sz] at h ⊢
    split at h
    · omega
    · next h0 =>
      rw [if_neg h0, Nat.add_sub_cancel_left]
      by_cases h1 : 0 < sz f (n / 256)
      · have := ih _ h1
        obtain ⟨k, hk⟩ : ∃ k, sz f (n / 256) = k + 1 := ⟨_, (Nat.succ_pred_eq_of_pos h1).symm⟩
        rw [hk] at this ⊢
        rw [Nat.add_sub_cancel] at this
        rw [Nat.pow_succ]; omega
      · rw [show sz f (n / 256) = 0 by omega]; simp; omega
theorem sz_of (f n m : Nat) (hm : m ≤ f) (h1 : n < 256 ^ m) (h2 : 0 < m → 256 ^ (m - 1) ≤ n) : sz f n = m := by
  induction f generalizing n m with
  | zero => rw [show m = 0 by omega]; rfl
  | succ f ih =>
    rw [sz]
    cases m with
    | zero => simp at h1; simp [h1]
    | succ m =>
      have h3 := h2 (by omega)
      simp only [Nat.add_sub_cancel] at h3
      have hp : 0 < 256 ^ m := Nat.pow_pos (by omega)
      rw [if_neg (by omega), ih (n / 256) m (by omega) (by rw [Nat.pow_succ] at h1; omega) ?_]
      · omega
      · intro hm0
        obtain ⟨k, rfl⟩ : ∃ k, m = k + 1 := ⟨m - 1, by omega⟩
        rw [Nat.add_sub_cancel]
        rw [Nat.pow_succ] at h3; omega

/-- The text that bytes begin with, behind its mark: what is gathered, where we are. -/
def decT : List UInt8 → List UInt8 → Nat → Option (List UInt8 × Nat)
  | [], _, _ => none
  | c :: r, acc, i =>
    if acc.length ≤ 60 then
      if c = 0 then some (acc, i + 1)
      else if c = 1 then
        match r with
        | [] => none
        | y :: r' => if y = 0 ∨ 2 < y then none else decT r' (acc ++ [y - 1]) (i + 2)
      else decT r (acc ++ [c]) (i + 1)
    else none
theorem decT_cons (c : UInt8) (r acc : List UInt8) (i : Nat) : decT (c :: r) acc i =
    if acc.length ≤ 60 then (if c = 0 then some (acc, i + 1) else if c = 1 then (match r with | [] => none | y :: r' => if y = 0 ∨ 2 < y then none else decT r' (acc ++ [y - 1]) (i + 2)) else decT r (acc ++ [c]) (i + 1)) else none := by
  cases r <;> rfl
/-- Behind a byte 1. -/
def dec2 (r acc : List UInt8) (i : Nat) : Option (List UInt8 × Nat) :=
  match r with
  | [] => none
  | y :: r' => if y = 0 ∨ 2 < y then none else decT r' (acc ++ [y - 1]) (i + 2)
theorem dec2_nil (acc : List UInt8) (i : Nat) : dec2 [] acc i = none := rfl
theorem dec2_cons (y : UInt8) (r' acc : List UInt8) (i : Nat) : dec2 (y :: r') acc i = if y = 0 ∨ 2 < y then none else decT r' (acc ++ [y - 1]) (i + 2) := rfl
theorem decT_one (r acc : List UInt8) (i : Nat) (h : acc.length ≤ 60) : decT (1 :: r) acc i = dec2 r acc i := by
  rw [decT_cons, if_pos h, if_neg (by decide), if_pos rfl]
  cases r <;> rfl
theorem decT_other (c : UInt8) (r acc : List UInt8) (i : Nat) (h : acc.length ≤ 60) (h0 : ¬ c = 0) (h1 : ¬ c = 1) : decT (c :: r) acc i = decT r (acc ++ [c]) (i + 1) := by
  rw [decT_cons, if_pos h, if_neg h0, if_neg h1]
theorem decT_long (r acc : List UInt8) (i : Nat) (h : ¬ acc.length ≤ 60) : decT r acc i = none := by
  cases r with
  | nil => rfl
  | cons c r => rw [decT_cons, if_neg h]
/-- The part that bytes begin with, and how many bytes it takes. -/
def dec1 (b : List UInt8) : Option (PartD × Nat) :=
  match b with
  | [] => none
  | m :: r =>
    if m ≤ 8 then
      if b.length < 1 + m.toNat ∨ (0 < m.toNat ∧ r.head? = some 0) then none else some (⟨1, val (r.take m.toNat), []⟩, 1 + m.toNat)
    else if m = 9 then (decT r [] 1).map fun x => (⟨2, 0, x.1⟩, x.2) else none

theorem decT_enc (t acc rest : List UInt8) (i : Nat) (h : acc.length + t.length ≤ 60) : decT (t.flatMap esc ++ 0 :: rest) acc i = some (acc ++ t, i + (t.flatMap esc).length + 1) := by
  induction t generalizing acc i with
  | nil =>
    rw [List.flatMap_nil, List.nil_append, decT_cons, if_pos (by simpa using h), if_pos rfl]
    simp
  | cons c t ih =>
    simp only [List.length_cons] at h
    rw [List.flatMap_cons, List.append_assoc]
    by_cases hc : c ≤ 1
    · have he : esc c = [1, c + 1] := if_pos hc
      have hcn : c.toNat ≤ 1 := by simpa [UInt8.le_iff_toNat_le] using hc
      have hy : (c + 1).toNat = c.toNat + 1 := by rw [UInt8.toNat_add]; show (c.toNat + 1) % 256 = _; omega
      have hn : ¬ (c + 1 = 0 ∨ 2 < c + 1) := by
        rintro (e | e)
        · have := congrArg UInt8.toNat e; rw [hy] at this; simp at this
        · rw [UInt8.lt_iff_toNat_lt, hy] at e; simp at e; omega
      rw [he]
      simp only [List.cons_append, List.nil_append]
      rw [decT_cons, if_pos (by omega), if_neg (by decide), if_pos rfl]
      simp only [if_neg hn]
      rw [ih _ _ (by simp; omega)]
      simp; omega
    · have he : esc c = [c] := if_neg hc
      rw [he]
      simp only [List.cons_append, List.nil_append]
      have h0 : ¬ c = 0 := fun e => hc (by rw [e]; decide)
      have h1 : ¬ c = 1 := fun e => hc (by rw [e]; decide)
      rw [decT_cons, if_pos (by omega), if_neg h0, if_neg h1, ih _ _ (by simp; omega)]
      simp; omega
theorem decT_some (n : Nat) (r acc : List UInt8) (i : Nat) (t : List UInt8) (j : Nat) (hn : r.length ≤ n) (h : decT r acc i = some (t, j)) :
    ∃ t' rest, t = acc ++ t' ∧ r = t'.flatMap esc ++ 0 :: rest ∧ j = i + (t'.flatMap esc).length + 1 ∧ t.length ≤ 60 := by
  induction n generalizing r acc i with
  | zero =>
    obtain rfl : r = [] := List.eq_nil_of_length_eq_zero (by omega)
    simp [decT] at h
  | succ n ih =>
    cases r with
    | nil => simp [decT] at h
    | cons c r =>
      rw [decT_cons] at h
      by_cases ha : acc.length ≤ 60
      · rw [if_pos ha] at h
        by_cases h0 : c = 0
        · rw [if_pos h0] at h
          simp only [Option.some.injEq, Prod.mk.injEq] at h
          exact ⟨[], r, by simp [h.1], by simp [h0], by simp [h.2], by rw [← h.1]; exact ha⟩
        · rw [if_neg h0] at h
          by_cases h1 : c = 1
          · rw [if_pos h1] at h
            cases r with
            | nil => simp at h
            | cons y r' =>
              simp only at h
              by_cases hy : y = 0 ∨ 2 < y
              · rw [if_pos hy] at h; cases h
              · rw [if_neg hy] at h
                obtain ⟨t', rest, e1, e2, e3, e4⟩ := ih r' _ _ (by simp at hn; omega) h
                have hy0 : y.toNat ≠ 0 := fun e => hy (.inl (UInt8.toNat_inj.1 e))
                have hy2 : y.toNat ≤ 2 := by
                  have : ¬ (2 : UInt8) < y := fun e => hy (.inr e)
                  rw [UInt8.lt_iff_toNat_lt] at this; simpa using this
                have hs : (y - 1).toNat = y.toNat - 1 := UInt8.toNat_sub_of_le y 1 (by rw [UInt8.le_iff_toNat_le]; simp; omega)
                have he : esc (y - 1) = [1, y] := by
                  have hl : y - 1 ≤ 1 := by rw [UInt8.le_iff_toNat_le, hs]; simp; omega
                  rw [esc, if_pos hl]
                  congr 2
                  exact UInt8.sub_add_cancel y 1
                refine ⟨(y - 1) :: t', rest, by rw [e1]; simp, ?_, ?_, e4⟩
                · rw [List.flatMap_cons, he, h1, e2]; rfl
                · rw [e3, List.flatMap_cons, he]; simp; omega
          · rw [if_neg h1] at h
            obtain ⟨t', rest, e1, e2, e3, e4⟩ := ih r _ _ (by simpa using hn) h
            have he : esc c = [c] := by
              rw [esc, if_neg]
              intro hc
              have hcn : c.toNat ≤ 1 := by simpa [UInt8.le_iff_toNat_le] using hc
              by_cases hz : c.toNat = 0
              · exact h0 (UInt8.toNat_inj.1 hz)
              · exact h1 (UInt8.toNat_inj.1 (by show c.toNat = 1; omega))
            refine ⟨c :: t', rest, by rw [e1]; simp, ?_, ?_, e4⟩
            · rw [List.flatMap_cons, he, e2]; rfl
            · rw [e3, List.flatMap_cons, he]; simp; omega
      · rw [if_neg ha] at h; cases h
end Go.Proofs.YtppmjdmdflcoiaaDoor
