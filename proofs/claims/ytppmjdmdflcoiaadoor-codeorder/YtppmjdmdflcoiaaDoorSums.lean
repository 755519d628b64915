/-
  The walks of package sum's pushing, and of the document's own sum.
-/
import Derived.Test.YtppmjdmdflcoiaaDoorProg
import Derived.Test.YtppmjdmdflcoiaaDoorBits
import Derived.WalkKit
import Derived.ProofKit
import Derived.OpenShut
namespace Go.Proofs.YtppmjdmdflcoiaaDoor
open Go.ChangeShapes Go.WideShapes Go.ChangeAt Go.RowKit

theorem timesX_any (b : Nat) (hb : b < 4294967296) (w : World) :
    Calls Tryd.prog 31 #[.int .u32 b] w fun e w' => e = .returned (.int .u32 (Crc.tx b : Nat)) ∧ w' = w := by
  have ha := b_and1 b hb
  by_cases h : b % 2 = 1
  · have h1 : (bits .and .u32 (b : Int) 1 == 1) = true := by rw [ha, h]; rfl
    clear ha
    go_enter Tryd.func31, Tryd.ntmps31
    go_wp2
    go_ret
    exact ⟨ret_u32 (tx_odd b hb h), rfl⟩
  · have h0 : b % 2 = 0 := by omega
    have h1 : (bits .and .u32 (b : Int) 1 == 1) = false := by rw [ha, h0]; rfl
    clear ha h
    go_enter Tryd.func31, Tryd.ntmps31
    go_wp2
    go_ret
    exact ⟨ret_u32 (tx_even b h0), rfl⟩

theorem times_yes {A B Q r : Nat} (hA : A < 4294967296) (ht : A / 2147483648 = 1) (h : Q ^^^ Crc.tm 32 A B = r) : (Q ^^^ B) ^^^ Crc.tm 32 (A * 2 % 4294967296) (Crc.tx B) = r := by
  rw [← h, Crc.tm_32 A B hA, if_pos ht, Nat.xor_assoc]
theorem times_no {A B Q r : Nat} (hA : A < 4294967296) (ht : ¬ A / 2147483648 = 1) (h : Q ^^^ Crc.tm 32 A B = r) : Q ^^^ Crc.tm 32 (A * 2 % 4294967296) (Crc.tx B) = r := by
  rw [← h, Crc.tm_32 A B hA, if_neg ht, Nat.zero_xor]
theorem times_less {A : Nat} (h0 : A ≠ 0) (hA : A < 4294967296) : Crc.left 32 (intOf (.int .u32 ((A : Int) * 2 % 4294967296))).toNat < Crc.left 32 (intOf (.int .u32 (A : Int))).toNat := by
  have h := Crc.left_step A h0 hA
  have e : ((A : Int) * 2 % 4294967296).toNat = A * 2 % 4294967296 := by omega
  simpa [intOf, e] using h

theorem times_any (a b : Nat) (ha : a < 4294967296) (hb : b < 4294967296) (w : World) :
    Calls Tryd.prog 25 #[.int .u32 a, .int .u32 b] w fun e w' => e = .returned (.int .u32 (Crc.tm 32 a b : Nat)) ∧ w' = w := by
  go_enter Tryd.func25, Tryd.ntmps25
  go_wp2
  go_loop [0, 1, 5] (fun x y z => ∃ A B Q : Nat, x = .int .u32 A ∧ y = .int .u32 B ∧ z = .int .u32 Q ∧ A < 4294967296 ∧ B < 4294967296 ∧ Q < 4294967296 ∧ Q ^^^ Crc.tm 32 A B = Crc.tm 32 a b) (fun x _ _ => Crc.left 32 (intOf x).toNat)
  case atStart => exact ⟨a, b, 0, rfl, rfl, rfl, ha, hb, by omega, by simp⟩
  case round =>
    obtain ⟨A, B, Q, rfl, rfl, rfl, hA, hB, hQ, hrel⟩ := hrel
    have HR : Hid (Q ^^^ Crc.tm 32 A B = Crc.tm 32 a b) := hrel
    clear hrel
    by_cases h0 : A = 0
    · have h0' : (A : Int) = 0 := by omega
      have HZ : Hid (A = 0) := h0
      clear h0
      go_wp2
      go_ret
      exact ⟨ret_u32 (by have h := HR.out; rw [HZ.out, Crc.tm_zero, Nat.xor_zero] at h; show (Q : Int) = _; rw [h]), rfl⟩
    · have h0' : (A : Int) ≠ 0 := by omega
      by_cases ht : A / 2147483648 = 1
      · have ht' : (A : Int) / 2147483648 = 1 := by omega
        have HT : Hid (A / 2147483648 = 1) := ht
        clear ht
        go_wp2_with (go_at_call 31; refine (timesX_any _ (by assumption) _).mono ?_; rintro e w' ⟨rfl, rfl⟩)
        go_round
        case rel => exact ⟨A * 2 % 4294967296, Crc.tx B, Q ^^^ B, val_u32 (by omega), rfl, val_u32 (b_xor Q B hQ hB), by omega, Crc.tx_lt hB, Crc.xlt hQ hB, times_yes hA HT.out HR.out⟩
        case measure => exact times_less h0 hA
      · have ht' : ¬ (A : Int) / 2147483648 = 1 := by omega
        have HT : Hid (¬ A / 2147483648 = 1) := ht
        clear ht
        go_wp2_with (go_at_call 31; refine (timesX_any _ (by assumption) _).mono ?_; rintro e w' ⟨rfl, rfl⟩)
        go_round
        case rel => exact ⟨A * 2 % 4294967296, Crc.tx B, Q, val_u32 (by omega), rfl, rfl, by omega, Crc.tx_lt hB, hQ, times_no hA HT.out HR.out⟩
        case measure => have h := times_less h0 hA; rw [show (A : Int) * 2 % 4294967296 = (A : Int) * 2 by omega] at h; exact h

theorem push_odd {S E N r : Nat} (ho : N % 2 = 1) (h : Crc.txn (8 * (E * N)) S = r) : Crc.txn (8 * (2 * E * (N / 2))) (Crc.txn (8 * E) S) = r := by
  rw [← Crc.txn_add, ← h]
  congr 1
  have e : E * N = E * (2 * (N / 2)) + E := by
    conv => lhs; rw [show N = 2 * (N / 2) + 1 by omega, Nat.mul_add, Nat.mul_one]
  rw [e, Nat.mul_comm 2 E, Nat.mul_assoc E 2]; omega
theorem push_even {S E N r : Nat} (ho : N % 2 = 0) (h : Crc.txn (8 * (E * N)) S = r) : Crc.txn (8 * (2 * E * (N / 2))) S = r := by
  rw [← h]
  congr 2
  rw [Nat.mul_comm 2 E, Nat.mul_assoc]; congr 1; omega
theorem b64_and1 (a : Nat) (ha : a < 18446744073709551616) : bits .and .u64 (a : Int) 1 = ((a % 2 : Nat) : Int) := by
  have h := u64_and_nat a 1 ha (by omega)
  rw [Nat.and_one_is_mod] at h
  simpa using h
theorem square (E : Nat) : Crc.tm 32 (Crc.txn (8 * E) 2147483648) (Crc.txn (8 * E) 2147483648) = Crc.txn (8 * (2 * E)) 2147483648 := by
  rw [Crc.times_pow _ _ (Crc.txn_lt _ (by omega)), ← Crc.txn_add]; congr 1; omega

theorem push_any (s n : Nat) (hs : s < 4294967296) (hn : n < 9223372036854775808) (w : World) :
    Calls Tryd.prog 21 #[.int .u32 s, .int .u64 n] w fun e w' => e = .returned (.int .u32 (Crc.txn (8 * n) s : Nat)) ∧ w' = w := by
  go_enter Tryd.func21, Tryd.ntmps21
  go_wp2
  go_loop [0, 1, 5] (fun x y z => ∃ S N F E : Nat, x = .int .u32 S ∧ y = .int .u64 N ∧ z = .int .u32 F ∧ S < 4294967296 ∧ N < 9223372036854775808 ∧ F < 4294967296 ∧ F = Crc.txn (8 * E) 2147483648 ∧ Crc.txn (8 * (E * N)) S = Crc.txn (8 * n) s) (fun _ y _ => (intOf y).toNat)
  case atStart => exact ⟨s, n, 8388608, 1, rfl, rfl, rfl, hs, hn, by omega, by decide, by rw [Nat.one_mul]⟩
  case round =>
    obtain ⟨S, N, F, E, rfl, rfl, rfl, hS, hN, hF, hrel⟩ := hrel
    have HR : Hid (F = Crc.txn (8 * E) 2147483648 ∧ Crc.txn (8 * (E * N)) S = Crc.txn (8 * n) s) := hrel
    clear hrel
    by_cases h0 : N = 0
    · have h0' : (N : Int) = 0 := by omega
      have HZ : Hid (N = 0) := h0
      clear h0
      go_wp2
      go_ret
      exact ⟨ret_u32 (by have h := HR.out.2; rw [HZ.out] at h; show (S : Int) = _; rw [← h]; rfl), rfl⟩
    · have h0' : (0 : Int) < (N : Int) := by omega
      have ha := b64_and1 N (by omega)
      by_cases ho : N % 2 = 1
      · have h1 : (bits .and .u64 (N : Int) 1 == 1) = true := by rw [ha, ho]; rfl
        have HO : Hid (N % 2 = 1) := ho
        clear ha ho
        go_wp2_with (go_at_call 25; refine (times_any _ _ (by assumption) (by assumption) _).mono ?_; rintro e w' ⟨rfl, rfl⟩)
        go_round
        case rel =>
          obtain ⟨e1, e2⟩ := HR.out
          refine ⟨Crc.tm 32 S F, N / 2, Crc.tm 32 F F, 2 * E, rfl, ?_, rfl, Crc.tm_lt 32 S hF, by omega, Crc.tm_lt 32 F hF, ?_, ?_⟩
          · congr 1
          · rw [e1]; exact square E
          · rw [e1, Crc.times_pow S _ hS]; exact push_odd HO.out e2
        case measure => simp [intOf]; omega
      · have ho : N % 2 = 0 := by omega
        have h1 : (bits .and .u64 (N : Int) 1 == 1) = false := by rw [ha, ho]; rfl
        have HO : Hid (N % 2 = 0) := ho
        clear ha ho
        go_wp2_with (go_at_call 25; refine (times_any _ _ (by assumption) (by assumption) _).mono ?_; rintro e w' ⟨rfl, rfl⟩)
        go_round
        case rel =>
          obtain ⟨e1, e2⟩ := HR.out
          refine ⟨S, N / 2, Crc.tm 32 F F, 2 * E, rfl, ?_, rfl, hS, by omega, Crc.tm_lt 32 F hF, ?_, ?_⟩
          · congr 1
          · rw [e1]; exact square E
          · exact push_even HO.out e2
        case measure => simp [intOf]; omega

theorem or_low (y b : Nat) (hb : b ≤ 1) : 2 * y ||| b = 2 * y + b := by
  obtain rfl | rfl : b = 0 ∨ b = 1 := by omega
  · simp
  · have h := Nat.two_pow_add_eq_or_of_lt (i := 1) (b := 1) (by omega) y
    simpa using h.symm
theorem turn_step {R O k : Nat} (hR : R < 4294967296) (hk : k < 32) (h : O = Crc.rv k R) :
    bits .or .u32 ((O : Int) * 2 % 4294967296) (bits .and .u32 ((R : Int) / 2 ^ k) 1) = (Crc.rv (k + 1) R : Nat) := by
  have hl := Crc.rv_lt k R
  have hp : (2 : Nat) ^ k ≤ 2 ^ 31 := Nat.pow_le_pow_right (by omega) (by omega)
  have e1 : ((R : Int) / 2 ^ k) = ((R / 2 ^ k : Nat) : Int) := by simp
  have hd : R / 2 ^ k < 4294967296 := Nat.lt_of_le_of_lt (Nat.div_le_self _ _) hR
  have e2 : ((O : Int) * 2 % 4294967296) = ((2 * O : Nat) : Int) := by omega
  rw [e1, b_and1 _ hd, e2, b_or _ _ (by omega) (by omega), or_low _ _ (by omega), Crc.rv, h]
theorem turned_any (r : Nat) (hr : r < 4294967296) (w : World) :
    Calls Tryd.prog 20 #[.int .u32 r] w fun e w' => e = .returned (.int .u32 (Crc.rv 32 r : Nat)) ∧ w' = w := by
  go_enter Tryd.func20, Tryd.ntmps20
  go_wp2
  go_loop [3, 4] (fun x y => ∃ O k : Nat, x = .int .u32 O ∧ y = .int .i64 k ∧ k ≤ 32 ∧ O = Crc.rv k r) (fun _ y => 32 - (intOf y).toNat)
  case atStart => exact ⟨0, 0, rfl, rfl, by omega, rfl⟩
  case round =>
    obtain ⟨O, k, rfl, rfl, hk, hrel⟩ := hrel
    have HR : Hid (O = Crc.rv k r) := hrel
    clear hrel
    by_cases h0 : k < 32
    · go_wp2
      go_round
      case rel => exact ⟨Crc.rv (k + 1) r, k + 1, val_u32 (turn_step hr h0 HR.out), by go_num, by omega, rfl⟩
      case measure => simp [intOf]; omega
    · have hk' : k = 32 := by omega
      go_wp2
      go_ret
      exact ⟨ret_u32 (by have h := HR.out; rw [hk'] at h; show (O : Int) = _; rw [h]), rfl⟩

theorem top_of (R b k : Nat) (hR : R < 4294967296) (hb : b < 256) :
    bits .xor .u32 ((R : Int) / 2147483648) (bits .and .u32 ((b : Int) / 2 ^ k % 4294967296) 1) = ((R / 2147483648 ^^^ b / 2 ^ k % 2 : Nat) : Int) := by
  have hd : b / 2 ^ k < 256 := Nat.lt_of_le_of_lt (Nat.div_le_self _ _) hb
  have e0 : ((b : Int) / 2 ^ k) = ((b / 2 ^ k : Nat) : Int) := by simp
  have e1 : ((b : Int) / 2 ^ k % 4294967296) = ((b / 2 ^ k : Nat) : Int) := by rw [e0]; exact Int.emod_eq_of_lt (Int.natCast_nonneg _) (Int.ofNat_lt.mpr (Nat.lt_trans hd (by decide)))
  have e2 : ((R : Int) / 2147483648) = ((R / 2147483648 : Nat) : Int) := by simp
  rw [e1, b_and1 _ (by omega), e2, b_xor _ _ (by omega) (by omega)]

theorem rstep_yes {R C : Nat} (h : R / 2147483648 ^^^ C = 1) : bits .xor .u32 ((R : Int) * 2 % 4294967296) 517762881 = (Crc.rstep R C : Nat) := by
  rw [show ((R : Int) * 2 % 4294967296) = ((R * 2 % 4294967296 : Nat) : Int) by omega, show (517762881 : Int) = ((517762881 : Nat) : Int) by rfl, b_xor _ _ (by omega) (by omega)]
  unfold Crc.rstep
  rw [if_pos h]
theorem rstep_no {R C : Nat} (h : ¬ R / 2147483648 ^^^ C = 1) : ((R : Int) * 2 % 4294967296) = (Crc.rstep R C : Nat) := by
  unfold Crc.rstep
  rw [if_neg h, Nat.xor_zero]; omega

theorem refSum_any (l : List UInt8) (b off cap : Nat) (w : World) (hl : l.length ≤ 4611686018427387904)
    (hc : ∀ i (hi : i < l.length), w.cell? ⟨b, off + i, none⟩ = some (.int .u8 (l[i].toNat))) :
    Calls Tryd.prog 11 #[.slice (some ⟨b, off, none⟩) l.length cap] w fun e w' => e = .returned (.int .u32 (Crc.crc l : Nat)) ∧ w' = w := by
  go_enter Tryd.func11, Tryd.ntmps11
  go_wp2
  go_loop [3, 4] (fun x y => ∃ R i : Nat, x = .int .u32 R ∧ y = .int .i64 i ∧ i ≤ l.length ∧ R < 4294967296 ∧ Crc.rv 32 R = Crc.reg Crc.ones (l.take i)) (fun _ y => l.length - (intOf y).toNat)
  case atStart => exact ⟨4294967295, 0, rfl, rfl, by omega, by omega, by rw [List.take_zero]; decide⟩
  case round =>
    obtain ⟨R, i, rfl, rfl, hi, hR, hrel⟩ := hrel
    by_cases h0 : i < l.length
    · obtain ⟨x, hx⟩ : ∃ x : UInt8, x = l[i] := ⟨_, rfl⟩
      have hcx : w.cell? ⟨b, off + i, none⟩ = some (.int .u8 (x.toNat)) := by rw [hx]; exact hc i h0
      have HX : Hid (x = l[i]) := hx
      have HC : Hid (∀ i (hi : i < l.length), w.cell? ⟨b, off + i, none⟩ = some (.int .u8 (l[i].toNat))) := hc
      have HR : Hid (Crc.rv 32 R = Crc.reg Crc.ones (l.take i)) := hrel
      clear hrel hx hc
      obtain ⟨X, hX⟩ : ∃ X : Nat, X = x.toNat := ⟨_, rfl⟩
      have hX8 : X < 256 := by rw [hX]; exact x.toNat_lt
      rw [← hX] at hcx
      have HX2 : Hid (X = x.toNat) := hX
      clear hX
      go_wp2
      go_loop [3, 5] (fun x y => ∃ R' k : Nat, x = .int .u32 R' ∧ y = .int .i64 k ∧ k ≤ 8 ∧ R' < 4294967296 ∧ Crc.rv 32 R' = Crc.txn k (Crc.reg Crc.ones (l.take i) ^^^ X % 2 ^ k)) (fun _ y => 8 - (intOf y).toNat)
      case atStart => exact ⟨R, 0, rfl, rfl, by omega, hR, by rw [HR.out]; simp [Crc.txn, Nat.mod_one]⟩
      case round =>
        obtain ⟨R', k, rfl, rfl, hk, hR', hrel⟩ := hrel
        have HR' : Hid (Crc.rv 32 R' = Crc.txn k (Crc.reg Crc.ones (l.take i) ^^^ X % 2 ^ k)) := hrel
        clear hrel
        by_cases h8 : k < 8
        · have ht := top_of R' X k hR' hX8
          by_cases hb : R' / 2147483648 ^^^ X / 2 ^ k % 2 = 1
          · have h1 : (bits .xor .u32 ((R' : Int) / 2147483648) (bits .and .u32 ((X : Int) / 2 ^ k % 4294967296) 1) == 1) = true := by rw [ht, hb]; rfl
            have HB : Hid (R' / 2147483648 ^^^ X / 2 ^ k % 2 = 1) := hb
            clear ht hb
            go_wp2
            go_round
            case rel => exact ⟨Crc.rstep R' (X / 2 ^ k % 2), k + 1, val_u32 (rstep_yes HB.out), by go_num, by omega, Crc.rstep_lt _ _, Crc.bits_step _ _ _ _ hR' HR'.out⟩
            case measure => simp [intOf]; omega
          · have h1 : (bits .xor .u32 ((R' : Int) / 2147483648) (bits .and .u32 ((X : Int) / 2 ^ k % 4294967296) 1) == 1) = false := by rw [ht]; simpa using fun h => hb (by omega)
            have HB : Hid (¬ R' / 2147483648 ^^^ X / 2 ^ k % 2 = 1) := hb
            clear ht hb
            go_wp2
            go_round
            case rel => exact ⟨Crc.rstep R' (X / 2 ^ k % 2), k + 1, val_u32 (rstep_no HB.out), by go_num, by omega, Crc.rstep_lt _ _, Crc.bits_step _ _ _ _ hR' HR'.out⟩
            case measure => simp [intOf]; omega
        · have hk8 : k = 8 := by omega
          have HK : Hid (k = 8) := hk8
          clear hk8
          go_wp2
          go_round
          case rel =>
            refine ⟨R', i + 1, rfl, by go_num, by omega, hR', ?_⟩
            have h := HR'.out
            have hk := HK.out
            subst hk
            rw [List.take_succ_eq_append_getElem h0, Crc.reg_snoc, h, ← HX.out, ← HX2.out, Nat.mod_eq_of_lt (by omega)]
          case measure => simp [intOf]; omega
    · have HR : Hid (Crc.rv 32 R = Crc.reg Crc.ones (l.take i)) := hrel
      clear hrel hc
      have hi' : i = l.length := by omega
      have HI : Hid (i = l.length) := hi'
      clear hi'
      go_wp2_with (go_at_call 20; refine (turned_any _ (by assumption) _).mono ?_; rintro e w' ⟨rfl, rfl⟩)
      go_ret
      refine ⟨ret_u32 ?_, rfl⟩
      have h := HR.out
      rw [HI.out, List.take_length] at h
      have hm : IntKind.u32.max = ((4294967295 : Nat) : Int) := by decide
      show bits .xor .u32 IntKind.u32.max (Crc.rv 32 R : Nat) = _
      rw [hm, h, b_xor _ _ (by omega) (Crc.reg_lt _ _ (by decide)), Nat.xor_comm]
      rfl

end Go.Proofs.YtppmjdmdflcoiaaDoor
