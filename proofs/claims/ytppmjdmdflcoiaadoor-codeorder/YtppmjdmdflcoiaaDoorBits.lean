/-
  How the walk spells operations on bits of 32, in words of natural numbers.
-/
import Derived.Laws.BitsAllLaws
import Derived.WalkKit
import Derived.Test.YtppmjdmdflcoiaaDoorCrc
namespace Go.Proofs.YtppmjdmdflcoiaaDoor
open Go

theorem ret_int {k : IntKind} {a b : Int} (h : a = b) : Ending.returned (.int k a) = .returned (.int k b) := by rw [h]
theorem ret_u32 {a : Int} {n : Nat} (h : a = (n : Int)) : Ending.returned (.int .u32 a) = .returned (.int .u32 (n : Int)) := by rw [h]
theorem val_u32 {a : Int} {n : Nat} (h : a = (n : Int)) : Value.int .u32 a = .int .u32 (n : Int) := by rw [h]
theorem b_xor (a b : Nat) (ha : a < 4294967296) (hb : b < 4294967296) : bits .xor .u32 (a : Int) (b : Int) = ((a ^^^ b : Nat) : Int) := u32_xor_nat a b ha hb
theorem b_and (a b : Nat) (ha : a < 4294967296) (hb : b < 4294967296) : bits .and .u32 (a : Int) (b : Int) = ((a &&& b : Nat) : Int) := u32_and_nat a b ha hb
theorem b_or (a b : Nat) (ha : a < 4294967296) (hb : b < 4294967296) : bits .or .u32 (a : Int) (b : Int) = ((a ||| b : Nat) : Int) := u32_or_nat a b ha hb
theorem b_and1 (a : Nat) (ha : a < 4294967296) : bits .and .u32 (a : Int) 1 = ((a % 2 : Nat) : Int) := by
  have h := b_and a 1 ha (by omega)
  rw [Nat.and_one_is_mod] at h
  simpa using h
theorem b_not (a : Nat) (ha : a < 4294967296) : bits .xor .u32 (a : Int) 4294967295 = ((a ^^^ 4294967295 : Nat) : Int) := b_xor a 4294967295 ha (by omega)
/-- Times x, as the code's arms have it. -/
theorem tx_odd (b : Nat) (hb : b < 4294967296) (h : b % 2 = 1) : bits .xor .u32 ((b : Int) / 2) 2197175160 = (Crc.tx b : Nat) := by
  have := b_xor (b / 2) 2197175160 (by omega) (by omega)
  rw [show ((b : Int) / 2) = ((b / 2 : Nat) : Int) by omega]
  rw [show (2197175160 : Int) = ((2197175160 : Nat) : Int) by rfl, this]
  simp [Crc.tx, h, Crc.P]
theorem tx_even (b : Nat) (h : b % 2 = 0) : ((b : Int) / 2) = (Crc.tx b : Nat) := by
  simp [Crc.tx, h]
end Go.Proofs.YtppmjdmdflcoiaaDoor
