/-
  Names without their case: the maths.
-/
import Derived.Test.YtpggbpbibbhepaaDoorDa
import Derived.Lib.RuneBytes
import Derived.Lib.RuneCountTail
namespace Go.Proofs.YtpggbpbibbhepaaDoor
open Go.ChangeShapes Go.WideShapes Go.ChangeAt Go.RowKit
set_option linter.unusedVariables false

/-- The number that is taken in the place of a character's. -/
def lowZ (r : Int) : Int :=
  if (65 ≤ r ∧ r ≤ 90) ∨ (192 ≤ r ∧ r ≤ 222 ∧ r ≠ 215) ∨ (913 ≤ r ∧ r ≤ 939 ∧ r ≠ 930) ∨ (1040 ≤ r ∧ r ≤ 1071) then r + 32
  else if r = 962 then 963 else if 1024 ≤ r ∧ r ≤ 1039 then r + 80 else r
/-- The character at a place, and how many bytes it has. -/
abbrev dec (s : ByteArray) (i : Nat) : Nat × Nat := Utf8.decode s i
/-- What is taken in the place of the character at a place. -/
def piece (s : ByteArray) (i : Nat) : List UInt8 :=
  if (dec s i).1 = 65533 ∧ (dec s i).2 = 1 then [s.get! i] else Lib.encodeRune (lowZ (dec s i).1)
def foldF (s : ByteArray) : Nat → Nat → List UInt8
  | 0, _ => []
  | f + 1, i => if i < s.size then piece s i ++ foldF s f (i + (dec s i).2) else []
/-- A name without its case, from a place on. -/
def fold (s : ByteArray) (i : Nat) : List UInt8 := foldF s (s.size - i) i

theorem dec_tail (s : ByteArray) (i : Nat) (hi : i < s.size) : Lib.decodeGo (s.extract i s.size) = dec s i := by
  unfold Lib.decodeGo
  rw [if_neg (by rw [Lib.tail_size]; omega), Lib.tail_decode]; rfl

set_option maxRecDepth 100000 in
set_option maxHeartbeats 2000000 in
/-- What characters there are. -/
theorem dec_cases (s : ByteArray) (i : Nat) (hi : i < s.size) :
    ((dec s i).2 = 1 ∧ (dec s i).1 < 128 ∧ (dec s i).1 = (s.get! i).toNat) ∨ ((dec s i).2 = 1 ∧ (dec s i).1 = 65533) ∨
    ((dec s i).2 = 2 ∧ i + 2 ≤ s.size ∧ 128 ≤ (dec s i).1 ∧ (dec s i).1 ≤ 2047 ∧ (s.get! i).toNat = 192 + (dec s i).1 / 64 ∧ (s.get! (i + 1)).toNat = 128 + (dec s i).1 % 64) ∨
    ((dec s i).2 = 3 ∧ i + 3 ≤ s.size ∧ 2048 ≤ (dec s i).1 ∧ ((dec s i).1 < 55296 ∨ 57344 ≤ (dec s i).1 ∧ (dec s i).1 ≤ 65535) ∧ (s.get! i).toNat = 224 + (dec s i).1 / 4096 ∧ (s.get! (i + 1)).toNat = 128 + (dec s i).1 / 64 % 64 ∧ (s.get! (i + 2)).toNat = 128 + (dec s i).1 % 64) ∨
    ((dec s i).2 = 4 ∧ i + 4 ≤ s.size ∧ 65536 ≤ (dec s i).1 ∧ (dec s i).1 ≤ 1114111 ∧ (s.get! i).toNat = 240 + (dec s i).1 / 262144 ∧ (s.get! (i + 1)).toNat = 128 + (dec s i).1 / 4096 % 64 ∧ (s.get! (i + 2)).toNat = 128 + (dec s i).1 / 64 % 64 ∧ (s.get! (i + 3)).toNat = 128 + (dec s i).1 % 64) := by
  have h0 := UInt8.toNat_lt (s.get! i)
  have h1 := UInt8.toNat_lt (s.get! (i + 1))
  have h2 := UInt8.toNat_lt (s.get! (i + 2))
  have h3 := UInt8.toNat_lt (s.get! (i + 3))
  rw [dec, Lib.decode_at]
  generalize (s.get! i).toNat = b0 at *
  generalize (s.get! (i + 1)).toNat = b1 at *
  generalize (s.get! (i + 2)).toNat = b2 at *
  generalize (s.get! (i + 3)).toNat = b3 at *
  unfold Lib.decodeN
  split
  · left; exact ⟨rfl, by omega, rfl⟩
  split
  · rename_i hc
    split
    · right; right; left
      exact ⟨rfl, by omega, by omega, by simp only; omega, by simp only; omega, by simp only; omega⟩
    · right; left; exact ⟨rfl, rfl⟩
  split
  · rename_i hc
    split
    · right; right; right; left
      exact ⟨rfl, by omega, by simp only; omega, by simp only; omega, by simp only; omega, by simp only; omega, by simp only; omega⟩
    · right; left; exact ⟨rfl, rfl⟩
  split
  · rename_i hc
    split
    · right; right; right; right
      exact ⟨rfl, by omega, by simp only; omega, by simp only; omega, by simp only; omega, by simp only; omega, by simp only; omega, by simp only; omega⟩
    · right; left; exact ⟨rfl, rfl⟩
  · right; left; exact ⟨rfl, rfl⟩

theorem dec_pos (s : ByteArray) (i : Nat) (hi : i < s.size) : 1 ≤ (dec s i).2 ∧ i + (dec s i).2 ≤ s.size ∧ (dec s i).2 ≤ 4 ∧ (dec s i).1 ≤ 1114111 := by
  rcases dec_cases s i hi with h | h | h | h | h <;> omega
theorem low_1 {r : Int} (h0 : 0 ≤ r) (h1 : r < 128) : 0 ≤ lowZ r ∧ lowZ r < 128 := by
  unfold lowZ
  repeat' split
  all_goals omega
theorem low_2 {r : Int} (h0 : 128 ≤ r) (h1 : r ≤ 2047) : 128 ≤ lowZ r ∧ lowZ r ≤ 2047 := by
  unfold lowZ
  repeat' split
  all_goals omega
theorem low_3 {r : Int} (h0 : 2048 ≤ r) : lowZ r = r := by
  unfold lowZ
  repeat' split
  all_goals omega
theorem low_bound {r : Int} (h0 : 0 ≤ r) (h1 : r ≤ 1114111) : 0 ≤ lowZ r ∧ lowZ r ≤ 1114111 := by
  by_cases a : r < 128
  · have := low_1 h0 a; omega
  by_cases b : r ≤ 2047
  · have := low_2 (by omega) b; omega
  · rw [low_3 (by omega)]; omega
theorem encode_length (r : Int) : (Lib.encodeRune r).length = (Lib.encodeRuneZ r).length := by simp [Lib.encodeRune]
theorem piece_length (s : ByteArray) (i : Nat) (hi : i < s.size) : (piece s i).length = (dec s i).2 := by
  unfold piece
  split
  · rename_i h; simp [h.2]
  · rename_i hn
    rw [encode_length]
    rcases dec_cases s i hi with h | h | h | h | h
    · have := low_1 (r := ((dec s i).1 : Int)) (by omega) (by omega)
      rw [Lib.encodeRuneZ_one (by omega) (by omega), h.1]; rfl
    · exact absurd ⟨h.2, h.1⟩ hn
    · have := low_2 (r := ((dec s i).1 : Int)) (by omega) (by omega)
      rw [Lib.encodeRuneZ_two (by omega) (by omega), h.1]; rfl
    · rw [low_3 (r := ((dec s i).1 : Int)) (by omega), Lib.encodeRuneZ_three (by omega), h.1]; rfl
    · rw [low_3 (r := ((dec s i).1 : Int)) (by omega), Lib.encodeRuneZ_four (by omega) (by omega), h.1]; rfl
theorem foldF_fuel (s : ByteArray) (f : Nat) : ∀ g i, s.size - i ≤ f → s.size - i ≤ g → foldF s f i = foldF s g i := by
  induction f with
  | zero =>
    intro g i hf hg
    cases g with
    | zero => rfl
    | succ g => rw [foldF, foldF, if_neg (by omega)]
  | succ f ih =>
    intro g i hf hg
    cases g with
    | zero => rw [foldF, foldF, if_neg (by omega)]
    | succ g =>
      rw [foldF, foldF]
      by_cases hi : i < s.size
      · have := (dec_pos s i hi).1
        rw [if_pos hi, if_pos hi, ih g _ (by omega) (by omega)]
      · rw [if_neg hi, if_neg hi]
theorem fold_step (s : ByteArray) (i : Nat) (hi : i < s.size) : fold s i = piece s i ++ fold s (i + (dec s i).2) := by
  have := (dec_pos s i hi).1
  obtain ⟨f, hf⟩ : ∃ f, s.size - i = f + 1 := ⟨s.size - i - 1, by omega⟩
  unfold fold
  rw [hf, foldF, if_pos hi, foldF_fuel s f (s.size - (i + (dec s i).2)) _ (by omega) (by omega)]
theorem fold_end (s : ByteArray) (i : Nat) (hi : s.size ≤ i) : fold s i = [] := by
  unfold fold
  rw [show s.size - i = 0 by omega]; rfl
end Go.Proofs.YtpggbpbibbhepaaDoor
