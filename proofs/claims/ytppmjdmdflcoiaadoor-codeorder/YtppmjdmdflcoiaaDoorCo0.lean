/-
  Plain mathematics: the order of keys is the order of their bytes.
-/
import Derived.Test.YtppmjdmdflcoiaaDoorOrd
namespace Go.Proofs.YtppmjdmdflcoiaaDoor
set_option linter.unusedVariables false

/-- They part at a byte, where the first is less. -/
def Dif (x y : List UInt8) : Prop := ∃ pre a b s t, x = pre ++ a :: s ∧ y = pre ++ b :: t ∧ a < b
theorem Dif.left {x y : List UInt8} (h : Dif x y) (p : List UInt8) : Dif (p ++ x) (p ++ y) := by
  obtain ⟨pre, a, b, s, t, rfl, rfl, hab⟩ := h
  exact ⟨p ++ pre, a, b, s, t, by simp, by simp, hab⟩
theorem Dif.right {x y : List UInt8} (h : Dif x y) (u v : List UInt8) : Dif (x ++ u) (y ++ v) := by
  obtain ⟨pre, a, b, s, t, rfl, rfl, hab⟩ := h
  exact ⟨pre, a, b, s ++ u, t ++ v, by simp, by simp, hab⟩
theorem dif_here {a b : UInt8} (s t : List UInt8) (h : a < b) : Dif (a :: s) (b :: t) := ⟨[], a, b, s, t, rfl, rfl, h⟩
theorem less_pre (p x y : List UInt8) : Op.bytesLess (p ++ x) (p ++ y) = Op.bytesLess x y := by
  induction p with
  | nil => rfl
  | cons c p ih => simp [Op.bytesLess, ih]
theorem Dif.less {x y : List UInt8} (h : Dif x y) : Op.bytesLess x y = true := by
  obtain ⟨pre, a, b, s, t, rfl, rfl, hab⟩ := h
  rw [less_pre]; simp [Op.bytesLess, hab]
theorem less_longer (x : List UInt8) (c : UInt8) (s : List UInt8) : Op.bytesLess x (x ++ c :: s) = true := by
  have h := less_pre x [] (c :: s)
  rw [List.append_nil] at h
  rw [h]; simp [Op.bytesLess]
theorem less_asym : ∀ (x y : List UInt8), Op.bytesLess x y = true → Op.bytesLess y x = false ∧ x ≠ y
  | [], [], h => by simp [Op.bytesLess] at h
  | [], b :: y, h => by simp [Op.bytesLess]
  | a :: x, [], h => by simp [Op.bytesLess] at h
  | a :: x, b :: y, h => by
    simp only [Op.bytesLess, Bool.or_eq_true, Bool.and_eq_true, decide_eq_true_eq, beq_iff_eq] at h
    rcases h with h | ⟨rfl, h⟩
    · refine ⟨?_, fun e => ?_⟩
      · have h1 : ¬ b < a := fun h2 => absurd (UInt8.lt_trans h h2) (UInt8.lt_irrefl a)
        have h2 : ¬ b = a := fun e => by subst e; exact UInt8.lt_irrefl _ h
        simp [Op.bytesLess, h1, h2]
      · injection e with e1 e2; subst e1; exact UInt8.lt_irrefl _ h
    · obtain ⟨h1, h2⟩ := less_asym x y h
      refine ⟨?_, fun e => h2 (by injection e)⟩
      simp [Op.bytesLess, UInt8.lt_irrefl, h1]
theorem less_tri : ∀ (x y : List UInt8), Op.bytesLess x y = false → x ≠ y → Op.bytesLess y x = true
  | [], [], _, h => absurd rfl h
  | [], b :: y, h, _ => by simp [Op.bytesLess] at h
  | a :: x, [], _, _ => by simp [Op.bytesLess]
  | a :: x, b :: y, h, hne => by
    simp only [Op.bytesLess, Bool.or_eq_false_iff, Bool.and_eq_false_iff, decide_eq_false_iff_not, beq_eq_false_iff_ne] at h
    by_cases hab : a = b
    · subst hab
      have h2 : Op.bytesLess x y = false := by rcases h.2 with h2 | h2; exact absurd rfl h2; exact h2
      have := less_tri x y h2 (fun e => hne (by rw [e]))
      simp [Op.bytesLess, this]
    · have hlt : b < a := by
        rcases UInt8.lt_or_lt_of_ne hab with h3 | h3
        · exact absurd h3 h.1
        · exact h3
      simp [Op.bytesLess, hlt]
theorem esc_dif (a b : UInt8) (h : a < b) : Dif (esc a) (esc b) := by
  unfold esc
  by_cases ha : a ≤ 1
  · rw [if_pos ha]
    by_cases hb : b ≤ 1
    · rw [if_pos hb]
      refine (dif_here [] [] ?_).left [1]
      rw [UInt8.lt_iff_toNat_lt, UInt8.toNat_add, UInt8.toNat_add]
      rw [UInt8.lt_iff_toNat_lt] at h
      rw [UInt8.le_iff_toNat_le] at ha hb
      simp only [UInt8.reduceToNat] at ha hb ⊢
      omega
    · rw [if_neg hb]
      refine dif_here _ _ ?_
      rw [UInt8.le_iff_toNat_le] at hb
      rw [UInt8.lt_iff_toNat_lt]
      omega
  · have hb : ¬ b ≤ 1 := by
      rw [UInt8.lt_iff_toNat_lt] at h
      rw [UInt8.le_iff_toNat_le] at ha ⊢
      omega
    rw [if_neg ha, if_neg hb]
    exact dif_here _ _ h
theorem esc_first (c : UInt8) : ∃ d s, esc c = d :: s ∧ 0 < d := by
  unfold esc
  split
  · exact ⟨1, _, rfl, by decide⟩
  · rename_i h
    refine ⟨c, [], rfl, ?_⟩
    rw [UInt8.le_iff_toNat_le] at h
    rw [UInt8.lt_iff_toNat_lt]
    simp only [UInt8.reduceToNat] at h ⊢
    omega
theorem text_dif : ∀ (t u : List UInt8), Op.bytesLess t u = true → Dif (t.flatMap esc ++ [0]) (u.flatMap esc ++ [0])
  | [], [], h => by simp [Op.bytesLess] at h
  | [], b :: u, _ => by
    obtain ⟨d, s, he, hd⟩ := esc_first b
    rw [List.flatMap_nil, List.nil_append, List.flatMap_cons, he]
    exact dif_here _ _ hd
  | a :: t, [], h => by simp [Op.bytesLess] at h
  | a :: t, b :: u, h => by
    simp only [Op.bytesLess, Bool.or_eq_true, Bool.and_eq_true, decide_eq_true_eq, beq_iff_eq] at h
    rw [List.flatMap_cons, List.flatMap_cons, List.append_assoc, List.append_assoc]
    rcases h with h | ⟨rfl, h⟩
    · exact (esc_dif a b h).right _ _
    · exact (text_dif t u h).left _
theorem be_dif (k n m : Nat) (h : n % 256 ^ k < m % 256 ^ k) : Dif (be n k) (be m k) := by
  induction k with
  | zero => simp [Nat.mod_one] at h
  | succ k ih =>
    rw [be, be]
    have hp : 0 < 256 ^ k := Nat.pow_pos (by decide)
    have e : ∀ j : Nat, j % 256 ^ (k + 1) = 256 ^ k * (j / 256 ^ k % 256) + j % 256 ^ k := fun j => by
      rw [Nat.pow_succ, Nat.mod_mul, Nat.add_comm]
    rw [e, e] at h
    by_cases hb : n / 256 ^ k % 256 = m / 256 ^ k % 256
    · rw [hb] at h
      have hu : UInt8.ofNat (n / 2 ^ (8 * k)) = UInt8.ofNat (m / 2 ^ (8 * k)) := by
        rw [pow8]
        apply UInt8.toNat_inj.1
        rw [UInt8.toNat_ofNat', UInt8.toNat_ofNat']; exact hb
      rw [hu]
      exact (ih (by omega)).left [_]
    · have hlt : n / 256 ^ k % 256 < m / 256 ^ k % 256 := by
        rcases Nat.lt_or_gt_of_ne hb with h1 | h1
        · exact h1
        · exfalso
          have h2 := Nat.mod_lt m hp
          have h3 : 256 ^ k * (m / 256 ^ k % 256 + 1) ≤ 256 ^ k * (n / 256 ^ k % 256) := Nat.mul_le_mul_left _ h1
          rw [Nat.mul_add] at h3
          omega
      refine dif_here _ _ ?_
      rw [UInt8.lt_iff_toNat_lt, UInt8.toNat_ofNat', UInt8.toNat_ofNat', pow8]
      exact hlt
theorem num_dif (n m : Nat) (hm : m < 18446744073709551616) (h : n < m) : Dif (encNum n) (encNum m) := by
  have hn : n < 256 ^ 8 := by rw [pow88]; omega
  have hm8 : m < 256 ^ 8 := by rw [pow88]; omega
  have a1 := sz_lt 8 n hn
  have a2 := sz_lt 8 m hm8
  have b1 := sz_le 8 n
  have b2 := sz_le 8 m
  unfold encNum
  by_cases he : sz 8 n = sz 8 m
  · rw [he] at a1 ⊢
    refine (be_dif _ n m ?_).left [_]
    rw [Nat.mod_eq_of_lt a1, Nat.mod_eq_of_lt a2]; exact h
  · have hlt : sz 8 n < sz 8 m := by
      rcases Nat.lt_or_gt_of_ne he with h1 | h1
      · exact h1
      · exfalso
        have h2 := sz_ge 8 n (by omega)
        have h3 : 256 ^ sz 8 m ≤ 256 ^ (sz 8 n - 1) := Nat.pow_le_pow_right (by decide) (by omega)
        omega
    refine dif_here _ _ ?_
    rw [UInt8.lt_iff_toNat_lt, mark_nat _ b1, mark_nat _ b2]; exact hlt
theorem part_dif (p q : PartD) (hp : p.err = 0) (hq : q.err = 0) (hn : q.num < 18446744073709551616) (h : ltP p q) : Dif (encPart p) (encPart q) := by
  unfold encPart
  rcases err_zero hp with ⟨k1, t1⟩ | ⟨k1, n1, l1⟩
  · rcases err_zero hq with ⟨k2, t2⟩ | ⟨k2, n2, l2⟩
    · rw [if_pos k1, if_pos k2]
      rcases h with ⟨h1, _⟩ | ⟨_, h1 | h1⟩
      · rw [k1, k2] at h1; exact absurd rfl h1
      · exact num_dif _ _ hn h1
      · rw [t1, t2] at h1; simp [Op.bytesLess] at h1
    · rw [if_pos k1, if_neg (by omega)]
      unfold encNum encText
      refine dif_here _ _ ?_
      have b1 := sz_le 8 p.num
      rw [UInt8.lt_iff_toNat_lt, mark_nat _ b1]
      simp only [UInt8.reduceToNat]; omega
  · rcases err_zero hq with ⟨k2, t2⟩ | ⟨k2, n2, l2⟩
    · exfalso
      rcases h with ⟨_, h1⟩ | ⟨h1, _⟩
      · omega
      · omega
    · rw [if_neg (by omega), if_neg (by omega)]
      rcases h with ⟨_, h1⟩ | ⟨_, h1 | h1⟩
      · omega
      · omega
      · exact (text_dif _ _ h1).left [9]
theorem ltP_tri (p q : PartD) (hp : p.err = 0) (hq : q.err = 0) (hne : p ≠ q) (h : ¬ ltP p q) : ltP q p := by
  obtain ⟨pk, pn, pt⟩ := p
  obtain ⟨qk, qn, qt⟩ := q
  unfold ltP at h ⊢
  simp only at h ⊢
  rcases err_zero hp with ⟨k1, t1⟩ | ⟨k1, n1, l1⟩ <;> rcases err_zero hq with ⟨k2, t2⟩ | ⟨k2, n2, l2⟩ <;> simp only at k1 k2
  · simp only at t1 t2
    subst k1 k2 t1 t2
    right
    refine ⟨rfl, .inl ?_⟩
    have h1 : ¬ pn < qn := fun h1 => h (.inr ⟨rfl, .inl h1⟩)
    have h2 : ¬ pn = qn := fun h2 => hne (by rw [h2])
    omega
  · exact absurd (.inl ⟨by omega, k1⟩) h
  · exact .inl ⟨by omega, k2⟩
  · simp only at n1 n2
    subst k1 k2 n1 n2
    right
    refine ⟨rfl, .inr (less_tri _ _ ?_ (fun e => hne (by rw [e])))⟩
    cases hb : Op.bytesLess pt qt with
    | false => rfl
    | true => exact absurd (.inr ⟨rfl, .inr hb⟩) h
theorem errs_mem (l : List PartD) (h : errs l = 0) : ∀ p ∈ l, p.err = 0 := by
  induction l with
  | nil => simp
  | cons p l ih =>
    rw [errs] at h
    split at h
    · next h0 => intro q hq; rcases List.mem_cons.1 hq with rfl | hq; exact h0; exact ih h q hq
    · next h0 => exact absurd h h0
theorem encKey_append (l m : List PartD) : encKey (l ++ m) = encKey l ++ encKey m := by simp [encKey]
theorem encKey_split (l : List PartD) (k : Nat) (h : k < l.length) : encKey l = encKey (l.take k) ++ (encPart l[k] ++ encKey (l.drop (k + 1))) := by
  have e : l = l.take k ++ l[k] :: l.drop (k + 1) := by rw [← List.drop_eq_getElem_cons h, List.take_append_drop]
  conv => lhs; rw [e]
  rw [encKey_append]; rfl
/-- What the comparison of the bytes gives. -/
def cmpB (x y : List UInt8) : Int := if Op.bytesLess x y = true then -1 else if x = y then 0 else 1
theorem cmpB_gt {x y : List UInt8} (h : Op.bytesLess y x = true) : cmpB x y = 1 := by
  obtain ⟨h1, h2⟩ := less_asym _ _ h
  rw [cmpB, h1, if_neg (by decide), if_neg (fun e => h2 e.symm)]
theorem encPart_cons (p : PartD) : ∃ c s, encPart p = c :: s := by
  have h := encPart_pos p
  cases he : encPart p with
  | nil => rw [he] at h; simp at h
  | cons c s => exact ⟨c, s, rfl⟩
theorem key_order (ps qs : List PartD) (hp : errs ps = 0) (hq : errs qs = 0) (hpw : ∀ p ∈ ps, p.num < 18446744073709551616) (hqw : ∀ p ∈ qs, p.num < 18446744073709551616) (r : Int) (h : OrdR ps qs r) : r = cmpB (encKey ps) (encKey qs) := by
  rcases h with ⟨k, h1, h2, htk, hne, h⟩ | ⟨k, htk, h⟩
  · rw [encKey_split ps k h1, encKey_split qs k h2, htk]
    have e1 := errs_mem ps hp _ (List.getElem_mem h1)
    have e2 := errs_mem qs hq _ (List.getElem_mem h2)
    rcases h with ⟨hl, rfl⟩ | ⟨hl, rfl⟩
    · have hd := ((part_dif _ _ e1 e2 (hqw _ (List.getElem_mem h2)) hl).right (encKey (ps.drop (k + 1))) (encKey (qs.drop (k + 1)))).left (encKey (qs.take k))
      rw [cmpB, if_pos hd.less]
    · have hd := ((part_dif _ _ e2 e1 (hpw _ (List.getElem_mem h1)) (ltP_tri _ _ e1 e2 hne hl)).right (encKey (qs.drop (k + 1))) (encKey (ps.drop (k + 1)))).left (encKey (qs.take k))
      rw [cmpB_gt hd.less]
  · rcases h with ⟨hk, hk2, rfl⟩ | ⟨hk, hk2, rfl⟩ | ⟨hk, hk2, rfl⟩
    · have ht : qs.take k = ps := by rw [← htk, hk, List.take_length]
      obtain ⟨c, s, he⟩ := encPart_cons qs[k]
      rw [encKey_split qs k hk2, ht, he, List.cons_append, cmpB, if_pos (less_longer _ _ _)]
    · have ht : ps.take k = qs := by rw [htk, hk, List.take_length]
      obtain ⟨c, s, he⟩ := encPart_cons ps[k]
      rw [encKey_split ps k hk2, ht, he, List.cons_append, cmpB_gt (less_longer _ _ _)]
    · rw [hk, List.take_length, ← hk, hk2, List.take_length] at htk
      rw [htk, cmpB, if_neg, if_pos rfl]
      intro h
      exact (less_asym _ _ h).2 rfl
theorem key_begin (ps : List PartD) (n : Nat) (h : keyErr ps = 0) : keyErr (ps.take n) = 0 ∧ (encKey (ps.take n)) <+: encKey ps := by
  have h8 : ps.length ≤ 8 := by
    unfold keyErr at h
    split at h
    · omega
    · omega
  rw [keyErr, if_neg (by omega)] at h
  refine ⟨?_, ?_⟩
  · rw [keyErr, if_neg (by rw [List.length_take]; omega)]
    have e : ps = ps.take n ++ ps.drop n := (List.take_append_drop n ps).symm
    rw [e, errs_append] at h
    split at h
    · assumption
    · exact absurd h (by assumption)
  · refine ⟨encKey (ps.drop n), ?_⟩
    rw [← encKey_append, List.take_append_drop]
end Go.Proofs.YtppmjdmdflcoiaaDoor
