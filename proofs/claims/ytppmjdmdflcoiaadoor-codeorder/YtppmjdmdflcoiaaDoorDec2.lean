/-
  Plain mathematics: what is read is just what is written.
-/
import Derived.Test.YtppmjdmdflcoiaaDoorDec
namespace Go.Proofs.YtppmjdmdflcoiaaDoor

theorem err_zero {p : PartD} (h : p.err = 0) : (p.kind = 1 ∧ p.text = []) ∨ (p.kind = 2 ∧ p.num = 0 ∧ p.text.length ≤ 60) := by
  unfold PartD.err at h
  by_cases h1 : p.kind = 1
  · rw [if_pos h1] at h
    by_cases ht : p.text = []
    · exact .inl ⟨h1, ht⟩
    · rw [if_neg ht] at h; omega
  · rw [if_neg h1] at h
    by_cases h2 : p.kind = 2
    · rw [if_pos h2] at h
      by_cases hn : p.num = 0
      · rw [if_pos hn] at h
        by_cases ht : p.text.length ≤ 60
        · exact .inr ⟨h2, hn, ht⟩
        · rw [if_neg ht] at h; omega
      · rw [if_neg hn] at h; omega
    · rw [if_neg h2] at h; omega
theorem mark_nat (m : Nat) (h : m ≤ 8) : (UInt8.ofNat m).toNat = m := by rw [UInt8.toNat_ofNat']; omega
theorem pow88 : (256 : Nat) ^ 8 = 18446744073709551616 := by decide

theorem dec1_enc (p : PartD) (rest : List UInt8) (he : p.err = 0) (hn : p.num < 18446744073709551616) : dec1 (encPart p ++ rest) = some (p, (encPart p).length) := by
  obtain ⟨k, n, t⟩ := p
  rcases err_zero he with ⟨hk, ht⟩ | ⟨hk, hz, ht⟩
  · simp only at hk ht hn
    subst hk ht
    have hm : sz 8 n ≤ 8 := sz_le 8 n
    have e : encPart ⟨1, n, []⟩ = encNum n := if_pos rfl
    rw [e, encNum, List.cons_append, dec1]
    rw [if_pos (by rw [UInt8.le_iff_toNat_le, mark_nat _ hm]; exact hm), mark_nat _ hm]
    have hlt := sz_lt 8 n (by rw [pow88]; exact hn)
    have hc : ¬ ((UInt8.ofNat (sz 8 n) :: (be n (sz 8 n) ++ rest)).length < 1 + sz 8 n ∨ (0 < sz 8 n ∧ (be n (sz 8 n) ++ rest).head? = some 0)) := by
      rintro (h | ⟨h0, hh⟩)
      · simp [be_length] at h; omega
      · have hge := sz_ge 8 n h0
        obtain ⟨j, hj⟩ : ∃ j, sz 8 n = j + 1 := ⟨_, (Nat.succ_pred_eq_of_pos h0).symm⟩
        rw [hj] at hh hge hlt
        simp only [be, List.cons_append, List.head?_cons, Option.some.injEq] at hh
        rw [Nat.add_sub_cancel] at hge
        have h1 := congrArg UInt8.toNat hh
        rw [UInt8.toNat_ofNat', pow8] at h1
        have hd : n / 256 ^ j < 256 := by rw [Nat.div_lt_iff_lt_mul (Nat.pow_pos (by omega)), Nat.mul_comm, ← Nat.pow_succ]; exact hlt
        have hd0 : 0 < n / 256 ^ j := Nat.div_pos hge (Nat.pow_pos (by omega))
        simp at h1; omega
    rw [if_neg hc]
    have e2 : (be n (sz 8 n) ++ rest).take (sz 8 n) = be n (sz 8 n) := by
      rw [List.take_append_of_le_length (by rw [be_length]; exact Nat.le_refl _), List.take_of_length_le (by rw [be_length]; exact Nat.le_refl _)]
    rw [e2, val_be, Nat.mod_eq_of_lt hlt]
    simp [be_length]; omega
  · simp only at hk hz ht
    subst hk hz
    have e : encPart ⟨2, 0, t⟩ = encText t := if_neg (show ¬ (2 : Int) = 1 by decide)
    rw [e, encText, List.cons_append, dec1, if_neg (by decide), if_pos rfl, List.append_assoc, List.singleton_append, decT_enc t [] rest 1 (by simpa using ht)]
    simp; omega

theorem dec1_some (b : List UInt8) (p : PartD) (s : Nat) (h : dec1 b = some (p, s)) : p.err = 0 ∧ p.num < 18446744073709551616 ∧ (p.kind = 1 ∨ p.kind = 2) ∧ p.text.length ≤ 60 ∧ s = (encPart p).length ∧ ∃ rest, b = encPart p ++ rest := by
  cases b with
  | nil => simp [dec1] at h
  | cons m r =>
    rw [dec1] at h
    by_cases hm : m ≤ 8
    · rw [if_pos hm] at h
      have hm8 : m.toNat ≤ 8 := by simpa [UInt8.le_iff_toNat_le] using hm
      split at h
      · cases h
      · next hc =>
        simp only [Option.some.injEq, Prod.mk.injEq] at h
        obtain ⟨rfl, rfl⟩ := h
        have hlen : m.toNat ≤ r.length := by
          rcases Nat.lt_or_ge (m :: r).length (1 + m.toNat) with h1 | h1
          · exact absurd (.inl h1) hc
          · simp at h1; omega
        have hl : (r.take m.toNat).length = m.toNat := by simp; omega
        have hv := val_lt (r.take m.toNat)
        rw [hl] at hv
        have hp : (256 : Nat) ^ m.toNat ≤ 256 ^ 8 := Nat.pow_le_pow_right (by omega) hm8
        rw [pow88] at hp
        have hsz : sz 8 (val (r.take m.toNat)) = m.toNat := by
          apply sz_of _ _ _ hm8 hv
          intro h0
          cases r with
          | nil => simp at hlen; omega
          | cons x r' =>
            obtain ⟨j, hj⟩ : ∃ j, m.toNat = j + 1 := ⟨_, (Nat.succ_pred_eq_of_pos h0).symm⟩
            rw [hj, List.take_succ_cons, val_cons, Nat.add_sub_cancel]
            have hl' : (r'.take j).length = j := by simp at hlen; simp; omega
            rw [hl']
            have hx : x.toNat ≠ 0 := by
              intro e
              exact hc (.inr ⟨h0, by rw [List.head?_cons, UInt8.toNat_inj.1 (show x.toNat = (0 : UInt8).toNat from e)]⟩)
            have : 1 * 256 ^ j ≤ x.toNat * 256 ^ j := Nat.mul_le_mul_right _ (by omega)
            omega
        have hbe : be (val (r.take m.toNat)) m.toNat = r.take m.toNat := by
          have := be_val (r.take m.toNat) 0
          rw [Nat.zero_mul, Nat.zero_add, hl] at this; exact this
        have e : encPart ⟨1, val (r.take m.toNat), []⟩ = m :: r.take m.toNat := by
          show encNum _ = _
          rw [encNum, hsz, hbe]
          congr 1
          apply UInt8.toNat_inj.1
          exact mark_nat _ hm8
        refine ⟨by simp [PartD.err], by simpa using Nat.lt_of_lt_of_le hv hp, .inl rfl, by simp, by rw [e]; simp [hl]; omega, r.drop m.toNat, ?_⟩
        rw [e, List.cons_append, List.take_append_drop]
    · rw [if_neg hm] at h
      by_cases h9 : m = 9
      · rw [if_pos h9] at h
        simp only [Option.map_eq_some_iff, Prod.mk.injEq] at h
        obtain ⟨⟨t, j⟩, hd, rfl, rfl⟩ := h
        obtain ⟨t', rest, e1, e2, e3, e4⟩ := decT_some r.length r [] 1 t j (Nat.le_refl _) hd
        rw [List.nil_append] at e1
        subst e1
        have e : encPart ⟨2, 0, t⟩ = encText t := if_neg (show ¬ (2 : Int) = 1 by decide)
        refine ⟨by simp [PartD.err, e4], by simp, .inr rfl, e4, by rw [e, encText]; simp [e3]; omega, rest, ?_⟩
        rw [e, encText, h9, e2]; simp
      · rw [if_neg h9] at h; cases h

theorem encPart_pos (p : PartD) : 0 < (encPart p).length := by unfold encPart; split <;> simp [encNum, encText]
theorem errs_append (l m : List PartD) : errs (l ++ m) = if errs l = 0 then errs m else errs l := by
  induction l with
  | nil => simp [errs]
  | cons p l ih =>
    simp only [List.cons_append, errs]
    by_cases h : p.err = 0
    · simp [h, ih]
    · simp [h]
/-- Keys that one may read out of bytes. -/
def Reads (b : List UInt8) (qs : List PartD) : Prop := errs qs = 0 ∧ qs.length ≤ 8 ∧ (∀ q ∈ qs, q.num < 18446744073709551616) ∧ encKey qs = b
theorem reads_step (b rest : List UInt8) (done : List PartD) (p : PartD) (s : Nat) (hinv : ∀ qs, Reads b qs → ∃ rs, qs = done ++ rs ∧ encKey rs = rest) (hd : dec1 rest = some (p, s)) (hne : rest ≠ []) :
    ∀ qs, Reads b qs → ∃ rs, qs = (done ++ [p]) ++ rs ∧ encKey rs = rest.drop s := by
  intro qs hq
  obtain ⟨rs, rfl, hr⟩ := hinv qs hq
  cases rs with
  | nil => simp [encKey] at hr; exact absurd hr hne
  | cons r rs =>
    have her : r.err = 0 := by
      have h := hq.1
      rw [errs_append] at h
      split at h
      · rw [errs] at h
        split at h
        · assumption
        · exact h
      · next hx => exact absurd h hx
    have hrn := hq.2.2.1 r (by simp)
    have e : rest = encPart r ++ encKey rs := by rw [← hr]; simp [encKey]
    have h1 := dec1_enc r (encKey rs) her hrn
    rw [← e, hd] at h1
    simp only [Option.some.injEq, Prod.mk.injEq] at h1
    obtain ⟨rfl, rfl⟩ := h1
    refine ⟨rs, by simp, ?_⟩
    rw [e, List.drop_left]
theorem reads_none (b rest : List UInt8) (done : List PartD) (hinv : ∀ qs, Reads b qs → ∃ rs, qs = done ++ rs ∧ encKey rs = rest) (hd : dec1 rest = none) (hne : rest ≠ []) : ∀ qs, ¬ Reads b qs := by
  intro qs hq
  obtain ⟨rs, rfl, hr⟩ := hinv qs hq
  cases rs with
  | nil => simp [encKey] at hr; exact absurd hr hne
  | cons r rs =>
    have her : r.err = 0 := by
      have h := hq.1
      rw [errs_append] at h
      split at h
      · rw [errs] at h
        split at h
        · assumption
        · exact h
      · next hx => exact absurd h hx
    have hrn := hq.2.2.1 r (by simp)
    have e : rest = encPart r ++ encKey rs := by rw [← hr]; simp [encKey]
    have h1 := dec1_enc r (encKey rs) her hrn
    rw [← e, hd] at h1
    cases h1
theorem reads_many (b rest : List UInt8) (done : List PartD) (hinv : ∀ qs, Reads b qs → ∃ rs, qs = done ++ rs ∧ encKey rs = rest) (h8 : 8 ≤ done.length) (hne : rest ≠ []) : ∀ qs, ¬ Reads b qs := by
  intro qs hq
  obtain ⟨rs, rfl, hr⟩ := hinv qs hq
  cases rs with
  | nil => simp [encKey] at hr; exact absurd hr hne
  | cons r rs => have := hq.2.1; simp at this; omega
theorem reads_end (b : List UInt8) (done qs : List PartD) (hinv : ∀ qs, Reads b qs → ∃ rs, qs = done ++ rs ∧ encKey rs = []) (hq : Reads b qs) : qs = done := by
  obtain ⟨rs, rfl, hr⟩ := hinv qs hq
  cases rs with
  | nil => simp
  | cons r rs =>
    have := encPart_pos r
    simp [encKey] at hr
    rw [hr.1] at this; simp at this
end Go.Proofs.YtppmjdmdflcoiaaDoor
