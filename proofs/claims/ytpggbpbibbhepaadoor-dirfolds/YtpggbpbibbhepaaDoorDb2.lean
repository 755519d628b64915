/-
  A character that stays as it is has the bytes that it had.
-/
import Derived.Test.YtpggbpbibbhepaaDoorDb
namespace Go.Proofs.YtpggbpbibbhepaaDoor
open Go.ChangeShapes Go.WideShapes Go.ChangeAt Go.RowKit
set_option linter.unusedVariables false

theorem get!_at (s : ByteArray) (i : Nat) (hi : i < s.size) : (bl s)[i]? = some (s.get! i) := by
  rw [List.getElem?_eq_getElem (by rw [bl_length]; exact hi), Utf8W.get!_of_lt s i hi]
  rfl
theorem u8_of {x : UInt8} {n : Nat} (h : x.toNat = n) (z : Int) (hz : z = n) : z.toNat.toUInt8 = x := by
  subst hz
  rw [Int.toNat_natCast, ← h]
  simp
/-- Some bytes of a text. -/
theorem take_one (s : ByteArray) (k : Nat) (h : k + 1 ≤ s.size) : ((bl s).drop k).take 1 = [s.get! k] := by
  rw [List.take_one, List.head?_drop, get!_at s k (by omega)]; rfl
theorem take_more (s : ByteArray) (k n : Nat) (h : k + (n + 1) ≤ s.size) : ((bl s).drop k).take (n + 1) = ((bl s).drop k).take n ++ [s.get! (k + n)] := by
  rw [List.take_add_one, List.getElem?_drop, get!_at s (k + n) (by omega)]; rfl
/-- A character's bytes are those that write it. -/
theorem bytes_of (s : ByteArray) (k : Nat) (hk : k < s.size) (hc : ¬ ((dec s k).1 = 65533 ∧ (dec s k).2 = 1)) : Lib.encodeRune (dec s k).1 = ((bl s).drop k).take (dec s k).2 := by
  rcases dec_cases s k hk with h | h | h | h | h
  · rw [h.1, take_one s k (by omega), Lib.encodeRune, Lib.encodeRuneZ_one (by omega) (by omega)]
    simp only [List.map_cons, List.map_nil]
    rw [u8_of h.2.2.symm _ rfl]
  · exact absurd ⟨h.2, h.1⟩ hc
  · obtain ⟨h1, h2, h3, h4, h5, h6⟩ := h
    rw [h1, take_more s k 1 (by omega), take_one s k (by omega), Lib.encodeRune, Lib.encodeRuneZ_two (by omega) (by omega)]
    simp only [List.map_cons, List.map_nil, List.cons_append, List.nil_append]
    rw [u8_of h5 _ (by omega), u8_of h6 _ (by omega)]
  · obtain ⟨h1, h2, h3, h4, h5, h6, h7⟩ := h
    rw [h1, take_more s k 2 (by omega), take_more s k 1 (by omega), take_one s k (by omega), Lib.encodeRune, Lib.encodeRuneZ_three (by omega)]
    simp only [List.map_cons, List.map_nil, List.cons_append, List.nil_append]
    rw [u8_of h5 _ (by omega), u8_of h6 _ (by omega), u8_of h7 _ (by omega)]
  · obtain ⟨h1, h2, h3, h4, h5, h6, h7, h8⟩ := h
    rw [h1, take_more s k 3 (by omega), take_more s k 2 (by omega), take_more s k 1 (by omega), take_one s k (by omega), Lib.encodeRune, Lib.encodeRuneZ_four (by omega) (by omega)]
    simp only [List.map_cons, List.map_nil, List.cons_append, List.nil_append]
    rw [u8_of h5 _ (by omega), u8_of h6 _ (by omega), u8_of h7 _ (by omega), u8_of h8 _ (by omega)]
/-- What stays as it is has the bytes that it had. -/
theorem piece_same (s : ByteArray) (k : Nat) (hk : k < s.size) (h : lowZ (dec s k).1 = (dec s k).1) : piece s k = ((bl s).drop k).take (dec s k).2 := by
  unfold piece
  split
  · rename_i hc
    rw [hc.2, take_one s k (by omega)]
  · rename_i hc
    rw [h, bytes_of s k hk hc]
/-- What is changed is no byte that is no UTF-8. -/
theorem piece_low (s : ByteArray) (k : Nat) (hk : k < s.size) (h : lowZ (dec s k).1 ≠ (dec s k).1) : piece s k = Lib.encodeRune (lowZ (dec s k).1) ∧ (Lib.encodeRune (lowZ (dec s k).1)).length = (dec s k).2 := by
  have hc : ¬ ((dec s k).1 = 65533 ∧ (dec s k).2 = 1) := by
    rintro ⟨h1, _⟩
    rw [h1] at h
    exact h (low_3 (by omega))
  have e : piece s k = Lib.encodeRune (lowZ (dec s k).1) := by unfold piece; rw [if_neg hc]
  exact ⟨e, by rw [← e, piece_length s k hk]⟩
end Go.Proofs.YtpggbpbibbhepaaDoor
