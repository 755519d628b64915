/-
  Plain mathematics: keys. Parts, their forms, what is wrong with them.
-/
namespace Go.Proofs.YtppmjdmdflcoiaaDoor

/-- A part of a key. -/
structure PartD where
  kind : Int
  num : Nat
  text : List UInt8

namespace PartD
/-- What is wrong with a part (0: nothing). -/
def err (p : PartD) : Int := if p.kind = 1 then (if p.text = [] then 0 else 5) else if p.kind = 2 then (if p.num = 0 then (if p.text.length ≤ 60 then 0 else 6) else 5) else 5
end PartD

/-- How many bytes a number has. -/
def sz : Nat → Nat → Nat
  | 0, _ => 0
  | f + 1, n => if n = 0 then 0 else 1 + sz f (n / 256)
theorem sz_le (f n : Nat) : sz f n ≤ f := by
  induction f generalizing n with
  | zero => simp [sz]
  | succ f ih => rw [sz]; have := ih (n / 256); split <;> omega
theorem sz_zero (f : Nat) : sz f 0 = 0 := by cases f <;> simp [sz]
theorem sz_step (s n : Nat) (hs : s < 8) (h : 0 < n / 2 ^ (8 * s)) : sz (8 - s) (n / 2 ^ (8 * s)) = 1 + sz (8 - (s + 1)) (n / 2 ^ (8 * (s + 1))) := by
  rw [show 8 - s = (8 - (s + 1)) + 1 by omega, sz, if_neg (by omega)]
  congr 2
  rw [show 8 * (s + 1) = 8 * s + 8 by omega, Nat.pow_add, ← Nat.div_div_eq_div_mul]
/-- Its bytes from the highest one on, the lowest k. -/
def be (n : Nat) : Nat → List UInt8
  | 0 => []
  | k + 1 => UInt8.ofNat (n / 2 ^ (8 * k)) :: be n k
theorem be_length (n k : Nat) : (be n k).length = k := by
  induction k with
  | zero => rfl
  | succ k ih => simp [be, ih]
def encNum (n : Nat) : List UInt8 := UInt8.ofNat (sz 8 n) :: be n (sz 8 n)
def esc (c : UInt8) : List UInt8 := if c ≤ 1 then [1, c + 1] else [c]
def encText (t : List UInt8) : List UInt8 := 9 :: (t.flatMap esc ++ [0])
def encPart (p : PartD) : List UInt8 := if p.kind = 1 then encNum p.num else encText p.text
def encKey (l : List PartD) : List UInt8 := l.flatMap encPart
theorem esc_length (c : UInt8) : (esc c).length ≤ 2 := by unfold esc; split <;> simp
theorem escs_length (t : List UInt8) : (t.flatMap esc).length ≤ 2 * t.length := by
  induction t with
  | nil => simp
  | cons c t ih => have := esc_length c; simp only [List.flatMap_cons, List.length_append, List.length_cons]; omega
theorem encNum_length (n : Nat) : (encNum n).length ≤ 9 := by have := sz_le 8 n; simp only [encNum, List.length_cons, be_length]; omega
theorem encText_length (t : List UInt8) : (encText t).length ≤ 2 * t.length + 2 := by have := escs_length t; simp only [encText, List.length_cons, List.length_append, List.length_nil]; omega
theorem encPart_length (p : PartD) (h : p.err = 0) : (encPart p).length ≤ 122 := by
  unfold encPart
  split
  · have := encNum_length p.num; omega
  · rename_i hk
    have h60 : p.text.length ≤ 60 := by
      unfold PartD.err at h
      rw [if_neg hk] at h
      split at h
      · split at h
        · split at h
          · assumption
          · omega
        · omega
      · omega
    have := encText_length p.text; omega
/-- What is wrong with parts: the first that is wrong. -/
def errs : List PartD → Int
  | [] => 0
  | p :: l => if p.err = 0 then errs l else p.err
def keyErr (l : List PartD) : Int := if 8 < l.length then 14 else errs l
theorem errs_take (l : List PartD) (i : Nat) (hi : i < l.length) (h : errs (l.take i) = 0) : errs (l.take (i + 1)) = (l[i]).err ∧ (l[i].err = 0 → True) := by
  induction l generalizing i with
  | nil => simp at hi
  | cons p l ih =>
    cases i with
    | zero => simp [errs]; intro h; exact h.symm
    | succ i =>
      simp only [List.take_succ_cons, errs, List.getElem_cons_succ] at h ⊢
      split at h
      · next h0 => rw [if_pos h0]; exact ⟨(ih i (by simpa using hi) h).1, fun _ => trivial⟩
      · next h0 => exact absurd h h0
theorem errs_bad (l : List PartD) (i : Nat) (hi : i < l.length) (h : errs (l.take i) = 0) (hb : l[i].err ≠ 0) : errs l = l[i].err := by
  induction l generalizing i with
  | nil => simp at hi
  | cons p l ih =>
    cases i with
    | zero => simp only [List.getElem_cons_zero] at hb ⊢; rw [errs, if_neg hb]
    | succ i =>
      simp only [List.take_succ_cons, errs, List.getElem_cons_succ] at h hb ⊢
      split at h
      · next h0 => rw [if_pos h0]; exact ih i (by simpa using hi) h hb
      · next h0 => exact absurd h h0
end Go.Proofs.YtppmjdmdflcoiaaDoor
