/-
  The walk of sum.Sum.
-/
import Derived.Test.YtppmjdmdflcoiaaDoorLent
import Derived.Test.YtppmjdmdflcoiaaDoorTab
import Derived.Deep.QuietTactic
import Derived.BigQuiet
namespace Go.Proofs.YtppmjdmdflcoiaaDoor
open Go.ChangeShapes Go.WideShapes Go.ChangeAt Go.RowKit

/-- The tables, in their cells. -/
def Tabs (w : World) : Prop := (∀ j, j < 16 → w.cell? ⟨0, j, none⟩ = some (.int .u32 ((Crc.lowL.getD j 0 : Nat) : Int))) ∧ (∀ j, j < 16 → w.cell? ⟨1, j, none⟩ = some (.int .u32 ((Crc.highL.getD j 0 : Nat) : Int)))

theorem b_and15 (a : Nat) (ha : a < 4294967296) : bits .and .u32 (a : Int) 15 = ((a % 16 : Nat) : Int) := by
  have h := b_and a 15 ha (by omega)
  rw [show (15 : Nat) = 2 ^ 4 - 1 by decide, Nat.and_two_pow_sub_one_eq_mod] at h
  simpa using h

theorem table_bits (S : Nat) (hS : S < 4294967296) :
    bits .xor .u32 (bits .xor .u32 ((S : Int) / 256) ((Crc.lowL[S % 16]?.getD 0 : Nat) : Int)) ((Crc.highL[S / 16 % 16]?.getD 0 : Nat) : Int) = (Crc.txn 8 S : Nat) := by
  have h1 := Crc.low_lt (S % 16) (by omega)
  have h2 := Crc.high_lt (S / 16 % 16) (by omega)
  rw [List.getD_eq_getElem?_getD] at h1 h2
  rw [show ((S : Int) / 256) = ((S / 256 : Nat) : Int) by simp, b_xor _ _ (by omega) h1, b_xor _ _ (Crc.xlt (by omega) h1) h2, Crc.table_step, List.getD_eq_getElem?_getD, List.getD_eq_getElem?_getD]

theorem sum_any (l : List UInt8) (b off cap : Nat) (w : World) (hl : l.length ≤ 4611686018427387904) (hc : BytesAt w b off l) (ht : Tabs w) :
    Calls Tryd.prog 9 #[.slice (some ⟨b, off, none⟩) l.length cap] w fun e w' => e = .returned (.int .u32 (Crc.crc l : Nat)) ∧ ∃ n, w' = w.drewN n := by
  have HC : Hid (BytesAt w b off l) := hc
  have HT : Hid (Tabs w) := ht
  clear hc ht
  go_enter Tryd.func9, Tryd.ntmps9
  go_wp2
  go_loopw [3, 8] (fun x y wr => ∃ R i n : Nat, x = .int .u32 R ∧ y = .int .i64 i ∧ i ≤ l.length ∧ R < 4294967296 ∧ R = Crc.reg Crc.ones (l.take i) ∧ wr = w.drewN n) (fun _ y _ => l.length - (intOf y).toNat)
  case atStart => exact ⟨4294967295, 0, 0, rfl, rfl, by omega, by omega, by rw [List.take_zero]; decide, rfl⟩
  case round =>
    obtain ⟨R, i, n, rfl, rfl, hi, hR, hrel, rfl⟩ := hrel
    have HR : Hid (R = Crc.reg Crc.ones (l.take i)) := hrel
    clear hrel
    by_cases h0 : i < l.length
    · obtain ⟨x, hx⟩ : ∃ x : UInt8, x = l[i] := ⟨_, rfl⟩
      have hcx : w.cell? ⟨b, off + i, none⟩ = some (.int .u8 (x.toNat)) := by rw [hx]; exact HC.out i h0
      have HX : Hid (x = l[i]) := hx
      clear hx
      obtain ⟨X, hX⟩ : ∃ X : Nat, X = x.toNat := ⟨_, rfl⟩
      have hX8 : X < 256 := by rw [hX]; exact x.toNat_lt
      rw [← hX] at hcx
      have HX2 : Hid (X = x.toNat) := hX
      clear hX
      obtain ⟨S, hS⟩ : ∃ S : Nat, S = R ^^^ X := ⟨_, rfl⟩
      have hS32 : S < 4294967296 := by rw [hS]; exact Crc.xlt hR (by omega)
      have e1 : bits .xor .u32 (R : Int) (X : Int) = (S : Int) := by rw [hS]; exact b_xor R X hR (by omega)
      have e2 : bits .and .u32 (S : Int) 15 = ((S % 16 : Nat) : Int) := b_and15 S hS32
      have e3 : bits .and .u32 ((S : Int) / 16) 15 = ((S / 16 % 16 : Nat) : Int) := b_and15 (S / 16) (by omega)
      have c1 := HT.out.1 (S % 16) (by omega)
      have c2 := HT.out.2 (S / 16 % 16) (by omega)
      have HS : Hid (S = R ^^^ X) := hS
      clear hS
      have hlt1 : (((S % 16 : Nat) : Int)) < 16 := by omega
      have hlt2 : (((S / 16 % 16 : Nat) : Int)) < 16 := by omega
      go_wp2
      go_quiet (fail)
      go_wp2
      go_roundw
      case rel => exact ⟨Crc.txn 8 S, i + 1, n + nq, val_u32 (table_bits S hS32), by go_num, by omega, Crc.txn_lt 8 hS32, by rw [List.take_succ_eq_append_getElem h0, Crc.reg_snoc, ← HR.out, ← HX.out, ← HX2.out, ← HS.out], rfl⟩
      case measure => simp [intOf]; omega
    · have hi' : i = l.length := by omega
      have HI : Hid (i = l.length) := hi'
      clear hi'
      go_wp2
      go_ret
      refine ⟨ret_u32 ?_, n, rfl⟩
      have h := HR.out
      rw [HI.out, List.take_length] at h
      have hm : IntKind.u32.max = ((4294967295 : Nat) : Int) := by decide
      show bits .xor .u32 IntKind.u32.max (R : Int) = _
      rw [hm, b_xor _ _ (by omega) hR, Nat.xor_comm, h]
      rfl
end Go.Proofs.YtppmjdmdflcoiaaDoor
