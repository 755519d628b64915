/-
  Plain mathematics: short forms that are made.
-/
import Derived.Test.YtppmjdmdflcoiabDoorSw
namespace Go.Proofs.YtppmjdmdflcoiabDoor
set_option linter.unusedVariables false

/-- These bytes stand for those, wherever they come. -/
def Dec (e l : List UInt8) : Prop := ∀ (M : Nat) (out rest : List UInt8), out.length + l.length ≤ M → swell M (e ++ rest) out = swell M rest (out ++ l)
theorem dec_nil : Dec [] [] := fun M out rest _ => by simp
theorem Dec.append {e l e' l' : List UInt8} (h : Dec e l) (h' : Dec e' l') : Dec (e ++ e') (l ++ l') := by
  intro M out rest hm
  rw [List.length_append] at hm
  rw [List.append_assoc, h M out _ (by omega), h' M _ rest (by rw [List.length_append]; omega), List.append_assoc]
theorem dec_chunk (l : List UInt8) (h0 : 0 < l.length) (h : l.length ≤ 128) : Dec (UInt8.ofNat (l.length - 1) :: l) l := by
  intro M out rest hm
  have ht : (UInt8.ofNat (l.length - 1)).toNat = l.length - 1 := by rw [UInt8.toNat_ofNat']; omega
  rw [List.cons_append]
  refine swell_ok M _ _ out (out ++ l) rest ?_
  rw [ht, st, if_pos (by omega), if_neg (by rw [List.length_append]; omega)]
  have e1 : (l ++ rest).take (l.length - 1 + 1) = l := by rw [show l.length - 1 + 1 = l.length by omega, List.take_left]
  have e2 : (l ++ rest).drop (l.length - 1 + 1) = rest := by rw [show l.length - 1 + 1 = l.length by omega, List.drop_left]
  rw [e1, e2, if_neg (by rw [List.length_append]; omega)]
theorem cp_same (b : List UInt8) (fr i n : Nat) (hf : fr < i) (hn : i + n ≤ b.length) (h : ∀ k, k < n → b.getD (fr + k) 0 = b.getD (i + k) 0) : cp (i - fr) n (b.take i) = b.take (i + n) := by
  suffices hh : ∀ m k, k + m = n → cp (i - fr) m (b.take (i + k)) = b.take (i + n) from hh n 0 (by omega)
  intro m
  induction m with
  | zero => intro k hk; rw [cp, show k = n by omega]
  | succ m ih =>
    intro k hk
    rw [cp, ← ih (k + 1) (by omega)]
    congr 1
    have hl : (b.take (i + k)).length = i + k := by rw [List.length_take]; omega
    have hi : i + k < b.length := by omega
    rw [hl, show i + k - (i - fr) = fr + k by omega, ← Nat.add_assoc, List.take_succ_eq_append_getElem hi]
    congr 2
    have h1 : (b.take (i + k)).getD (fr + k) 0 = b.getD (fr + k) 0 := by
      simp only [List.getD, List.getElem?_take]
      rw [if_pos (by omega)]
    rw [h1, h k (by omega)]
    simp [List.getD, List.getElem?_eq_getElem hi]
/-- What is out so far stands for the beginning. -/
def SD (b out : List UInt8) (done : Nat) : Prop := ∀ rest, swell b.length (out ++ rest) [] = swell b.length rest (b.take done)
theorem sd_zero (b : List UInt8) : SD b [] 0 := fun rest => by simp
theorem SD.plain {b out e : List UInt8} {done i : Nat} (h : SD b out done) (hd : done ≤ i) (hi : i ≤ b.length) (he : Dec e ((b.drop done).take (i - done))) : SD b (out ++ e) i := by
  intro rest
  have e1 : b.take done ++ (b.drop done).take (i - done) = b.take i := by
    have h2 : b.take i = b.take (done + (i - done)) := by rw [show done + (i - done) = i by omega]
    rw [h2, List.take_add]
  rw [List.append_assoc, h, he, e1]
  rw [List.length_take, List.length_take, List.length_drop]; omega
theorem SD.copy {b out : List UInt8} {i fr size : Nat} (h : SD b out i) (hf : fr < i) (hs : 4 ≤ size) (hs2 : size ≤ 130) (hi : i + size ≤ b.length) (hw : i - fr - 1 < 65536) (hsame : ∀ k, k < size → b.getD (fr + k) 0 = b.getD (i + k) 0) :
    SD b (out ++ [UInt8.ofNat (size + 125), UInt8.ofNat (i - fr - 1), UInt8.ofNat ((i - fr - 1) / 256)]) (i + size) := by
  intro rest
  have ht : (UInt8.ofNat (size + 125)).toNat = size + 125 := by rw [UInt8.toNat_ofNat']; omega
  rw [List.append_assoc, h]
  show swell b.length (UInt8.ofNat (size + 125) :: UInt8.ofNat (i - fr - 1) :: UInt8.ofNat ((i - fr - 1) / 256) :: rest) (b.take i) = _
  refine swell_ok _ _ _ _ _ _ ?_
  rw [ht, st, if_neg (by omega)]
  have hl : (b.take i).length = i := by rw [List.length_take]; omega
  have hb : (UInt8.ofNat (i - fr - 1)).toNat + 256 * (UInt8.ofNat ((i - fr - 1) / 256)).toNat + 1 = i - fr := by
    rw [UInt8.toNat_ofNat', UInt8.toNat_ofNat']; omega
  simp only [List.length_cons, List.getD_cons_zero, List.getD_cons_succ, List.drop_succ_cons, List.drop_zero]
  rw [if_neg (by omega), hb, if_neg (by omega), show size + 125 - 125 = size by omega, cp_same b fr i size hf hi hsame, if_neg (by rw [List.length_take]; omega)]
theorem SD.whole {b out : List UInt8} (h : SD b out b.length) : swell b.length out [] = (0, b) := by
  have h' := h []
  rwa [List.append_nil, swell_nil, List.take_length] at h'

/-- How long it is so far. -/
def SzA (out done : Nat) : Prop := ∀ m, out + (m + 127) / 128 ≤ done + (done + m + 127) / 128
theorem szA_zero : SzA 0 0 := fun m => by omega
theorem SzA.step {out done : Nat} (h : SzA out done) (m s : Nat) (hs : 4 ≤ s) : SzA (out + (m + (m + 127) / 128) + 3) (done + m + s) := by
  intro m'
  have h1 := h m
  omega
/-- Bytes that come again p later. -/
def Per (b : List UInt8) (p : Nat) : Prop := ∀ i, p ≤ i → i < b.length → b.getD i 0 = b.getD (i - p) 0
/-- How long it is so far, of bytes that come again p later. -/
def SzB (n p out done i : Nat) : Prop := ((i ≤ p ∨ n < p + 4) ∧ SzA out done) ∨ (out ≤ p + 3 + 3 * (done / 130) ∧ p ≤ done ∧ (done = i ∨ n < done + 4)) ∨ (done = n ∧ out ≤ p + 8 + 3 * (n / 130))
theorem szB_zero (n p : Nat) : SzB n p 0 0 0 := .inl ⟨.inl (by omega), szA_zero⟩
theorem SzB.plain {n p out done i size : Nat} (h : SzB n p out done i) (hi : i < n) (hd : done ≤ i) (hs : size < 4) (hf : p ≤ i → i + 4 ≤ n → size = min (n - i) 130) : SzB n p out done (i + 1) := by
  rcases h with ⟨h1, h2⟩ | ⟨h1, h2, h3⟩ | ⟨h1, h2⟩
  · by_cases hp : i < p
    · exact .inl ⟨.inl (by omega), h2⟩
    · by_cases h4 : i + 4 ≤ n
      · have := hf (by omega) h4; omega
      · rcases h1 with h1 | h1
        · exact .inl ⟨.inr (by omega), h2⟩
        · exact .inl ⟨.inr h1, h2⟩
  · by_cases h4 : i + 4 ≤ n
    · rcases h3 with h3 | h3
      · have := hf (by omega) h4; omega
      · omega
    · refine .inr (.inl ⟨h1, h2, .inr ?_⟩)
      omega
  · omega
theorem SzB.copy {n p out done i size : Nat} (hp : p ≤ 64) (h : SzB n p out done i) (hi : i < n) (hd : done ≤ i) (hs : 4 ≤ size) (hs2 : size ≤ min (n - i) 130) (hf : p ≤ i → i + 4 ≤ n → size = min (n - i) 130) : SzB n p (out + ((i - done) + (i - done + 127) / 128) + 3) (i + size) (i + size) := by
  rcases h with ⟨h1, h2⟩ | ⟨h1, h2, h3⟩ | ⟨h1, h2⟩
  · have ha := h2 (i - done)
    have hb := h2.step (i - done) size hs
    rw [show done + (i - done) + size = i + size by omega] at hb
    by_cases hq : i + size ≤ p
    · exact .inl ⟨.inl hq, hb⟩
    · by_cases hip : i < p
      · refine .inr (.inl ⟨?_, by omega, .inl rfl⟩); omega
      · rcases h1 with h1 | h1
        · have hfull := hf (by omega) (by omega)
          by_cases h130 : n - i < 130
          · refine .inr (.inr ⟨by omega, ?_⟩); omega
          · refine .inr (.inl ⟨?_, by omega, .inl rfl⟩); omega
        · omega
  · rcases h3 with h3 | h3
    · subst h3
      have hfull := hf (by omega) (by omega)
      by_cases h130 : n - done < 130
      · refine .inr (.inr ⟨by omega, ?_⟩)
        have : done / 130 ≤ n / 130 := Nat.div_le_div_right (by omega)
        omega
      · refine .inr (.inl ⟨?_, by omega, .inl rfl⟩); omega
    · omega
  · omega
theorem SzB.last {n p out done : Nat} (hp : p ≤ 64) (hpn : p ≤ n) (h : SzB n p out done n) (hd : done ≤ n) : out + ((n - done) + (n - done + 127) / 128) ≤ p + 8 + 3 * (n / 130) := by
  rcases h with ⟨h1, h2⟩ | ⟨h1, h2, h3⟩ | ⟨h1, h2⟩
  · have ha := h2 (n - done)
    omega
  · have : done / 130 ≤ n / 130 := Nat.div_le_div_right (by omega)
    omega
  · omega
theorem SzA.last {n out done : Nat} (h : SzA out done) (hd : done ≤ n) : out + ((n - done) + (n - done + 127) / 128) ≤ n + (n + 127) / 128 := by
  have ha := h (n - done)
  omega
end Go.Proofs.YtppmjdmdflcoiabDoor
