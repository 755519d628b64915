/-
  The document's own product and powers.
-/
import Derived.Test.YtigaabhicjcbjabDoorM2
import Derived.Laws.ShiftsVarLaws
namespace Go.Proofs.YtigaabhicjcbjabDoor
open Go.ChangeShapes Go.WideShapes Go.ChangeAt Go.RowKit
set_option linter.unusedVariables false
namespace Gf
def tA : Nat → Nat → Nat → Nat
  | 0, _, _ => 0
  | k + 1, x, y => if y / 2 ^ k % 2 = 1 then tA k x y ^^^ (x * 2 ^ k) else tA k x y
def tB : Nat → Nat → Nat
  | 0, r => r
  | j + 1, r => if tB j r / 2 ^ (14 - j) % 2 = 1 then tB j r ^^^ (285 * 2 ^ (6 - j)) else tB j r
def tms (x y : Nat) : Nat := tB 7 (tA 8 x y) % 256
theorem tA_lt (k x y : Nat) (hk : k ≤ 8) (hx : x < 256) : tA k x y < 32768 := by
  induction k with
  | zero => simp [tA]
  | succ k ih =>
    simp only [tA]
    split
    · have h1 : x * 2 ^ k < 2 ^ 15 := by
        have : 2 ^ k ≤ 2 ^ 7 := Nat.pow_le_pow_right (by omega) (by omega)
        have h2 : x * 2 ^ k ≤ 255 * 2 ^ 7 := Nat.mul_le_mul (by omega) this
        omega
      exact Nat.xor_lt_two_pow (n := 15) (ih (by omega)) h1
    · exact ih (by omega)
theorem tB_lt (j r : Nat) (hj : j ≤ 7) (hr : r < 32768) : tB j r < 32768 := by
  induction j with
  | zero => exact hr
  | succ j ih =>
    simp only [tB]
    split
    · have h1 : 285 * 2 ^ (6 - j) < 2 ^ 15 := by
        have : 2 ^ (6 - j) ≤ 2 ^ 6 := Nat.pow_le_pow_right (by omega) (by omega)
        omega
      exact Nat.xor_lt_two_pow (n := 15) (ih (by omega)) h1
    · exact ih (by omega)
/-- Twice, and times a small power of 2, as the document reckons it. -/
theorem tms_two (x : Nat) (h : x < 256) : tms x 2 = d x := by
  have g : ∀ x < 256, tms x 2 = d x := by decide +kernel
  exact g x h
theorem tms_pow (i x : Nat) (hi : i < 16) (h : x < 256) : tms (dn i 1) x = dn i x := by
  have g : ∀ i < 16, ∀ x < 256, tms (dn i 1) x = dn i x := by decide +kernel
  exact g i hi x h
end Gf
theorem ofInt_i64 (a : Nat) (ha : a < 32768) : (BitVec.ofInt 64 (a : Int)).toNat = a := by
  rw [BitVec.ofInt_natCast, BitVec.toNat_ofNat]; exact Nat.mod_eq_of_lt (by omega)
theorem b64_xor (a b : Nat) (ha : a < 32768) (hb : b < 32768) : bits .xor .i64 (a : Int) (b : Int) = ((a ^^^ b : Nat) : Int) := by
  have hx : a ^^^ b < 2 ^ 15 := Nat.xor_lt_two_pow (by omega) (by omega)
  show IntKind.i64.wrap ((BitVec.ofInt 64 (a : Int) ^^^ BitVec.ofInt 64 (b : Int)).toNat : Int) = _
  rw [BitVec.toNat_xor, ofInt_i64 a ha, ofInt_i64 b hb, IntKind.wrap_i64]
  omega
theorem b64_and1 (a : Nat) (ha : a < 32768) : bits .and .i64 (a : Int) 1 = ((a % 2 : Nat) : Int) := by
  have hx : a &&& 1 < 2 ^ 15 := Nat.and_lt_two_pow _ (by omega)
  have h : bits .and .i64 (a : Int) ((1 : Nat) : Int) = ((a &&& 1 : Nat) : Int) := by
    show IntKind.i64.wrap ((BitVec.ofInt 64 (a : Int) &&& BitVec.ofInt 64 ((1 : Nat) : Int)).toNat : Int) = _
    rw [BitVec.toNat_and, ofInt_i64 a ha, ofInt_i64 1 (by omega), IntKind.wrap_i64]
    omega
  rw [Nat.and_one_is_mod] at h
  simpa using h
theorem pow_cast (a k : Nat) : (a : Int) / 2 ^ k = ((a / 2 ^ k : Nat) : Int) := by
  rw [Int.natCast_ediv]; simp
theorem mul_cast (a k : Nat) : (a : Int) * 2 ^ k = ((a * 2 ^ k : Nat) : Int) := by
  rw [Int.natCast_mul]; simp
theorem wrap_small (a : Nat) (h : a < 32768) : wrap64 (a : Int) = (a : Int) := by unfold wrap64; omega
set_option maxRecDepth 100000 in
theorem rtimes_any (x y : Nat) (hx : x < 256) (hy : y < 256) (w : World) : Calls Tryd.prog 46 #[.int .u8 (x : Int), .int .u8 (y : Int)] w fun e w' => e = .returned (.int .u8 ((Gf.tms x y : Nat) : Int)) ∧ w' = w := by
  go_enter Tryd.func46, Tryd.ntmps46
  go_wp2
  go_loopw [5, 6] (fun r i wr => ∃ k : Nat, i = .int .i64 k ∧ k ≤ 8 ∧ r = .int .i64 ((Gf.tA k x y : Nat) : Int) ∧ wr = w) (fun _ i _ => 8 - (intOf i).toNat)
  case atStart => exact ⟨0, rfl, by omega, rfl, rfl⟩
  case round =>
    obtain ⟨k, rfl, hk, rfl, rfl⟩ := hrel
    by_cases hlt : k < 8
    · have ha := b8_and1 (y / 2 ^ k) (Nat.lt_of_le_of_lt (Nat.div_le_self _ _) hy)
      rw [← pow_cast] at ha
      by_cases hb : y / 2 ^ k % 2 = 1
      · have h1 : (bits .and .u8 ((y : Int) / 2 ^ k) 1 == 1) = true := by rw [ha, hb]; rfl
        have HB := hid_mk hb
        clear ha hb
        go_wp2
        go_roundw
        case rel =>
          have h2 : x * 2 ^ k < 32768 := by
            have : 2 ^ k ≤ 2 ^ 7 := Nat.pow_le_pow_right (by omega) (by omega)
            have h2 : x * 2 ^ k ≤ 255 * 2 ^ 7 := Nat.mul_le_mul (by omega) this
            omega
          refine ⟨k + 1, by go_num, by omega, ?_, trivial⟩
          rw [mul_cast, wrap_small _ h2, b64_xor _ _ (Gf.tA_lt k x y hk hx) h2]
          simp only [Gf.tA]
          rw [if_pos HB.out]
        case measure => simp [intOf]; omega
      · have h1 : (bits .and .u8 ((y : Int) / 2 ^ k) 1 == 1) = false := by rw [ha, show y / 2 ^ k % 2 = 0 by omega]; rfl
        have HB := hid_mk hb
        clear ha hb
        go_wp2
        go_roundw
        case rel =>
          refine ⟨k + 1, by go_num, by omega, ?_, trivial⟩
          simp only [Gf.tA]
          rw [if_neg HB.out]
        case measure => simp [intOf]; omega
    · have hk8 : k = 8 := by omega
      subst hk8
      obtain ⟨R, hR⟩ : ∃ R, R = Gf.tA 8 x y := ⟨_, rfl⟩
      have hRl : R < 32768 := by rw [hR]; exact Gf.tA_lt 8 x y (by omega) hx
      have HT : Hid (Gf.tms x y = Gf.tB 7 R % 256) := by show _ = _; rw [hR]; rfl
      rw [← hR]
      clear hR
      go_wp2
      go_loopw [5, 7] (fun r i wr' => ∃ j : Nat, i = .int .i64 (14 - (j : Int)) ∧ j ≤ 7 ∧ r = .int .i64 ((Gf.tB j R : Nat) : Int) ∧ wr' = wr) (fun _ i _ => ((intOf i) - 7).toNat)
      case atStart => exact ⟨0, rfl, by omega, rfl, rfl⟩
      case round =>
        obtain ⟨j, rfl, hj, rfl, rfl⟩ := hrel
        have hlB := Gf.tB_lt j R hj hRl
        by_cases hlt2 : j < 7
        · obtain ⟨m, hm⟩ : ∃ m : Nat, m = 14 - j := ⟨_, rfl⟩
          have hmi : (14 : Int) - (j : Int) = (m : Int) := by omega
          rw [hmi]
          have hm8 : (8 : Int) ≤ (m : Int) := by omega
          have hm14 : (m : Int) ≤ 14 := by omega
          obtain ⟨q, hq⟩ : ∃ q : Nat, q = 6 - j := ⟨_, rfl⟩
          have hqi : (m : Int) - 8 = (q : Int) := by omega
          have hq6 : (q : Int) ≤ 6 := by omega
          have HQ := hid_mk hq
          have HM := hid_mk hm
          have HMI := hid_mk hmi
          have HJ := hid_mk hj
          have HJ2 := hid_mk hlt2
          have ha := b64_and1 (Gf.tB j R / 2 ^ m) (Nat.lt_of_le_of_lt (Nat.div_le_self _ _) hlB)
          rw [← pow_cast] at ha
          clear hq hm hmi hj hlt2
          by_cases hb : Gf.tB j R / 2 ^ m % 2 = 1
          · have h1 : (bits .and .i64 ((Gf.tB j R : Int) / 2 ^ m) 1 == 1) = true := by rw [ha, hb]; rfl
            have HB := hid_mk hb
            clear ha hb
            go_wp2
            go_roundw
            case rel =>
              have h2 : 285 * 2 ^ q < 32768 := by
                have hq' := HQ.out
                have : 2 ^ q ≤ 2 ^ 6 := Nat.pow_le_pow_right (by omega) (by omega)
                omega
              have e2 : (285 : Int) * 2 ^ q = ((285 * 2 ^ q : Nat) : Int) := mul_cast 285 q
              refine ⟨j + 1, by have := HMI.out; simp; omega, by have := HJ2.out; omega, ?_, trivial⟩
              rw [e2, wrap_small _ h2, b64_xor _ _ hlB h2]
              simp only [Gf.tB]
              rw [← HM.out, if_pos HB.out, ← HQ.out]
            case measure => simp [intOf]; omega
          · have h1 : (bits .and .i64 ((Gf.tB j R : Int) / 2 ^ m) 1 == 1) = false := by rw [ha, show Gf.tB j R / 2 ^ m % 2 = 0 by omega]; rfl
            have HB := hid_mk hb
            clear ha hb
            go_wp2
            go_roundw
            case rel =>
              refine ⟨j + 1, by have := HMI.out; simp; omega, by have := HJ2.out; omega, ?_, trivial⟩
              simp only [Gf.tB]
              rw [← HM.out, if_neg HB.out]
            case measure => simp [intOf]; omega
        · have hj7 : j = 7 := by omega
          subst hj7
          have HLB := hid_mk hlB
          obtain ⟨S, hS⟩ : ∃ S, S = Gf.tB 7 R := ⟨_, rfl⟩
          rw [← hS] at HT HLB ⊢
          clear hS hlB
          have e7 : (14 : Int) - ((7 : Nat) : Int) = 7 := by omega
          rw [e7]
          go_wp2
          go_ret
          exact ⟨ret_int (by show (S : Int) % 256 = _; rw [HT.out]; omega), rfl⟩
theorem rtimes_pow (i : Nat) (hi : i < 16) (x : UInt8) (w : World) : Calls Tryd.prog 46 #[.int .u8 ((dbln i 1).toNat : Int), .int .u8 (x.toNat : Int)] w fun e w' => e = .returned (.int .u8 ((dbln i x).toNat : Int)) ∧ w' = w := by
  have h := rtimes_any (dbln i 1).toNat x.toNat (u8_lt _) (u8_lt _) w
  rw [dbln_toNat, show (1 : UInt8).toNat = 1 from rfl, Gf.tms_pow i _ hi (u8_lt x), ← dbln_toNat] at h
  rw [dbln_toNat i 1]
  exact h
theorem rpower_any (i : Nat) (hi : i ≤ 1000) (w : World) : Calls Tryd.prog 47 #[.int .i64 (i : Int)] w fun e w' => e = .returned (.int .u8 ((dbln i 1).toNat : Int)) ∧ w' = w := by
  have ht : ∀ x : UInt8, ∀ w, Calls Tryd.prog 46 #[.int .u8 (x.toNat : Int), .int .u8 2] w fun e w' => e = .returned (.int .u8 ((dbl x).toNat : Int)) ∧ w' = w := fun x w => by
    have h := rtimes_any x.toNat 2 (u8_lt _) (by omega) w
    rw [Gf.tms_two _ (u8_lt x), ← dbl_toNat] at h
    exact h
  have HT := hid_mk ht
  clear ht
  go_enter Tryd.func47, Tryd.ntmps47
  go_wp2
  go_loopw [0, 3] (fun j x wr => ∃ k m : Nat, x = .int .u8 ((dbln k 1).toNat : Int) ∧ j = .int .i64 m ∧ m + k = i ∧ wr = w) (fun j _ _ => (intOf j).toNat)
  case atStart => exact ⟨0, i, rfl, rfl, by omega, rfl⟩
  case round =>
    obtain ⟨k, m, rfl, rfl, hk, rfl⟩ := hrel
    have HK := hid_mk hk
    clear hk
    by_cases hlt : 0 < m
    · have hlt' : (0 : Int) < (m : Int) := by omega
      have hm : (m : Int) ≤ 1000 := by have := HK.out; omega
      go_wp2_with (go_at_call 46; refine (HT.out (dbln k 1) _).mono ?_; rintro e w' ⟨rfl, rfl⟩)
      go_roundw
      case rel => exact ⟨k + 1, m - 1, rfl, by go_num, by have := HK.out; omega, trivial⟩
      case measure => simp [intOf]; omega
    · have h0 : m = 0 := by omega
      subst h0
      have HI : Hid (k = i) := by have := HK.out; show _ = _; omega
      go_wp2
      go_ret
      exact ⟨by rw [← HI.out]; rfl, rfl⟩
end Go.Proofs.YtigaabhicjcbjabDoor
