/-
  code.addText, code.check, code.Key: the walks.
-/
import Derived.Test.YtppmjdmdflcoiaaDoorKey
namespace Go.Proofs.YtppmjdmdflcoiaaDoor
open Go.ChangeShapes Go.WideShapes Go.ChangeAt Go.RowKit
set_option linter.unusedVariables false

theorem succ_byte (c : UInt8) (h : (c.toNat : Int) ≤ 1) : Value.int .u8 ((c.toNat : Int) + 1) = .int .u8 ((c + 1).toNat : Int) := by
  congr 1
  rw [UInt8.toNat_add]
  show _ = (((c.toNat + 1) % 256 : Nat) : Int)
  omega

set_option maxRecDepth 1000000 in
set_option maxHeartbeats 1600000 in
theorem addText_any (t : ByteArray) (l : List UInt8) (v : Value) (base : Nat) (w : World) (ht : t.size ≤ 1000000) (hl : l.length ≤ 1000000) (hbase : base ≤ w.heap.size) (hown : Owns w base v l) :
    Calls Tryd.prog 28 #[v, .string t] w fun e w' => ∃ v', e = .returned v' ∧ Owns w' base v' (l ++ encText (bl t)) ∧ Below base w w' ∧ v' ≠ .slice none 0 0 := by
  have HAL : Hid (Owns (w.alloc (.cells #[.int .u8 9] 5)) base v l) := hown.alloc _
  have HLT : Hid ((bl t).length = t.size) := bl_length t
  clear hown
  go_enter Tryd.func28, Tryd.ntmps28
  go_wp2_with (at_builtin; refine wpList_add rfl (.tmp 6) (.tmp 7) rfl base v l rfl HAL.out w.heap.size 0 1 1 [9] rfl rfl (one_bytes w 9 _ rfl _ rfl) (by simp; omega) (by simp; omega) ?_; intro v1 w1 hown1 hbel1 hnil1)
  have HO1 : Hid (Owns w1 base v1 (l ++ [9])) := hown1
  have HB1 : Hid (Below base w w1) := ((Below.refl base w).alloc hbase _).trans hbel1
  have hb1 : base ≤ w1.heap.size := Nat.le_trans hbase HB1.out.size
  clear hown1 hbel1 hnil1 HAL
  go_wp2
  go_loopw [0, 11] (fun o i wr => ∃ (k : Nat) (vo : Value), vo = o ∧ i = .int .i64 k ∧ k ≤ t.size ∧ Owns wr base vo (l ++ [9] ++ ((bl t).take k).flatMap esc) ∧ Below base w wr) (fun _ i _ => t.size - (intOf i).toNat)
  case atStart => exact ⟨0, _, rfl, rfl, by omega, by simpa using HO1.out, HB1.out⟩
  case round =>
    obtain ⟨k, v0, rfl, rfl, hk, hown, hbel⟩ := hrel
    have HOW : Hid (Owns wr base v0 (l ++ [9] ++ ((bl t).take k).flatMap esc)) := hown
    have HBL : Hid (Below base w wr) := hbel
    have hbw : base ≤ wr.heap.size := Nat.le_trans hbase hbel.size
    have hle : (((bl t).take k).flatMap esc).length ≤ 2 * t.size := by
      have h1 := escs_length ((bl t).take k)
      have h2 : ((bl t).take k).length ≤ (bl t).length := List.length_take_le' _ _
      rw [HLT.out] at h2; omega
    obtain ⟨D, hD⟩ : ∃ D, D = ((bl t).take k).flatMap esc := ⟨_, rfl⟩
    have HD : Hid (D = ((bl t).take k).flatMap esc) := hD
    rw [← hD] at hle HOW
    clear hown hbel hD
    by_cases hlt : k < t.size
    · have hlt' : k < (bl t).length := by rw [HLT.out]; exact hlt
      have ets : Hid (((bl t).take (k + 1)).flatMap esc = D ++ esc ((bl t)[k])) := by
        show _ = _
        rw [List.take_succ_eq_append_getElem hlt', List.flatMap_append, HD.out]; simp
      by_cases h1 : (t[k].toNat : Int) ≤ 1
      · have ee : Hid (esc ((bl t)[k]) = [1, t[k] + 1]) := by
          show esc (t[k]) = _
          unfold esc
          rw [if_pos (by rw [UInt8.le_iff_toNat_le]; show t[k].toNat ≤ 1; omega)]
        have HAL : Hid (Owns (wr.alloc (.cells #[.int .u8 1, .int .u8 ((t[k].toNat : Int) + 1)] 5)) base v0 (l ++ [9] ++ D)) := HOW.out.alloc _
        go_wp2_with (at_builtin; refine wpList_add rfl (.tmp 18) (.tmp 23) rfl base v0 (l ++ [9] ++ D) rfl HAL.out wr.heap.size 0 2 2 [1, t[k] + 1] rfl rfl (two_bytes wr 1 (t[k] + 1) _ _ rfl (succ_byte _ h1) _ rfl) (by simp; omega) (by simp; omega) ?_; intro v2 w2 hown2 hbel2 hnil2)
        have HO2 : Hid (Owns w2 base v2 (l ++ [9] ++ ((bl t).take (k + 1)).flatMap esc)) := by
          show Owns w2 base v2 (l ++ [9] ++ ((bl t).take (k + 1)).flatMap esc)
          rw [ets.out, ee.out, ← List.append_assoc]; exact hown2
        have HB2 : Hid (Below base w w2) := (HBL.out.alloc hbw _).trans hbel2
        clear hown2 hbel2 hnil2
        go_wp2
        go_roundw
        case rel => exact ⟨k + 1, _, rfl, by go_num, by omega, HO2.out, HB2.out⟩
        case measure => simp [intOf]; omega
      · have ee : Hid (esc ((bl t)[k]) = [t[k]]) := by
          show esc (t[k]) = _
          unfold esc
          rw [if_neg (by rw [UInt8.le_iff_toNat_le]; show ¬ t[k].toNat ≤ 1; omega)]
        have HAL : Hid (Owns (wr.alloc (.cells #[.int .u8 (t[k].toNat : Int)] 5)) base v0 (l ++ [9] ++ D)) := HOW.out.alloc _
        go_wp2_with (at_builtin; refine wpList_add rfl (.tmp 25) (.tmp 29) rfl base v0 (l ++ [9] ++ D) rfl HAL.out wr.heap.size 0 1 1 [t[k]] rfl rfl (one_bytes wr (t[k]) _ rfl _ rfl) (by simp; omega) (by simp; omega) ?_; intro v2 w2 hown2 hbel2 hnil2)
        have HO2 : Hid (Owns w2 base v2 (l ++ [9] ++ ((bl t).take (k + 1)).flatMap esc)) := by
          show Owns w2 base v2 (l ++ [9] ++ ((bl t).take (k + 1)).flatMap esc)
          rw [ets.out, ee.out, ← List.append_assoc]; exact hown2
        have HB2 : Hid (Below base w w2) := (HBL.out.alloc hbw _).trans hbel2
        clear hown2 hbel2 hnil2
        go_wp2
        go_roundw
        case rel => exact ⟨k + 1, _, rfl, by go_num, by omega, HO2.out, HB2.out⟩
        case measure => simp [intOf]; omega
    · have HK : Hid (D = (bl t).flatMap esc) := by show D = _; rw [HD.out, List.take_of_length_le (by rw [HLT.out]; omega)]
      have HAL : Hid (Owns (wr.alloc (.cells #[.int .u8 0] 5)) base v0 (l ++ [9] ++ D)) := HOW.out.alloc _
      go_wp2_with (at_builtin; refine wpList_add rfl (.tmp 32) (.tmp 33) rfl base v0 (l ++ [9] ++ D) rfl HAL.out wr.heap.size 0 1 1 [0] rfl rfl (one_bytes wr 0 _ rfl _ rfl) (by simp; omega) (by simp; omega) ?_; intro v2 w2 hown2 hbel2 hnil2)
      have HO2 : Hid (Owns w2 base v2 (l ++ encText (bl t))) := by
        show Owns w2 base v2 _
        rw [HK.out] at hown2
        simpa [encText] using hown2
      have HB2 : Hid (Below base w w2) := (HBL.out.alloc hbw _).trans hbel2
      have HN2 : Hid (v2 ≠ .slice none 0 0) := fun e => by have := (hnil2.1 e).2; omega
      clear hown2 hbel2 hnil2
      go_wp2
      go_ret
      exact ⟨_, rfl, HO2.out, HB2.out, HN2.out⟩

/-- A part as a value. -/
def partV (k : Int) (n : Nat) (t : ByteArray) : Value := .agg #[.int .i64 k, .int .u64 n, .string t]
def partD (k : Int) (n : Nat) (t : ByteArray) : PartD := ⟨k, n, bl t⟩
theorem bl_nil {t : ByteArray} (h : t = ByteArray.empty) : bl t = [] := by subst h; rfl
theorem bl_ne {t : ByteArray} (h : t ≠ ByteArray.empty) : bl t ≠ [] := by
  intro e
  apply h
  have : t.data = #[] := by have := congrArg List.toArray e; simpa [bl] using this
  cases t; simp at this; subst this; rfl
/-- An error as a value. -/
def errV (c : Int) : Value := if c = 0 then .nilIface else .iface 31 (.int .i64 c)

theorem check_any (k : Int) (n : Nat) (t : ByteArray) (w : World) (hn : n < 18446744073709551616) :
    Calls Tryd.prog 26 #[partV k n t] w fun e w' => e = .returned (errV (partD k n t).err) ∧ Below w.heap.size w w' := by
  unfold partV
  by_cases k1 : k = 1
  · have hk : (k == 1) = true := by simp [k1]
    by_cases ht : t = ByteArray.empty
    · have he : (partD k n t).err = 0 := by simp [PartD.err, partD, k1, bl_nil ht]
      rw [he]
      subst ht
      clear k1 he
      go_enter Tryd.func26, Tryd.ntmps26
      go_wp2
      go_ret
      exact ⟨rfl, (Below.refl _ _).alloc (Nat.le_refl _) _⟩
    · have he : (partD k n t).err = 5 := by simp [PartD.err, partD, k1, bl_ne ht]
      have hne : t.toList.isEmpty = false := by rw [ByteArray.toList_eq, List.isEmpty_eq_false_iff]; exact bl_ne ht
      rw [he]
      clear k1 he
      go_enter Tryd.func26, Tryd.ntmps26
      go_wp2
      go_ret
      exact ⟨rfl, (Below.refl _ _).alloc (Nat.le_refl _) _⟩
  · have hk : (k == 1) = false := by simpa using k1
    by_cases k2 : k = 2
    · have hk2 : (k == 2) = true := by simp [k2]
      by_cases hn0 : n = 0
      · by_cases h60 : t.size ≤ 60
        · have he : (partD k n t).err = 0 := by simp [PartD.err, partD, k2, hn0, h60]
          have h60' : ¬ (60 : Int) < (t.size : Int) := by omega
          have hn0' : (n : Int) = 0 := by omega
          rw [he]
          clear k1 k2 he hn0
          go_enter Tryd.func26, Tryd.ntmps26
          go_wp2
          go_ret
          exact ⟨rfl, (Below.refl _ _).alloc (Nat.le_refl _) _⟩
        · have he : (partD k n t).err = 6 := by simp [PartD.err, partD, k2, hn0, h60]
          have h60' : (60 : Int) < (t.size : Int) := by omega
          have hn0' : (n : Int) = 0 := by omega
          rw [he]
          clear k1 k2 he hn0
          go_enter Tryd.func26, Tryd.ntmps26
          go_wp2
          go_ret
          exact ⟨rfl, (Below.refl _ _).alloc (Nat.le_refl _) _⟩
      · have he : (partD k n t).err = 5 := by simp [PartD.err, partD, k2, hn0]
        have hn0' : (n : Int) ≠ 0 := by omega
        rw [he]
        clear k1 k2 he hn0
        go_enter Tryd.func26, Tryd.ntmps26
        go_wp2
        go_ret
        exact ⟨rfl, (Below.refl _ _).alloc (Nat.le_refl _) _⟩
    · have he : (partD k n t).err = 5 := by simp [PartD.err, partD, k1, k2]
      have hk2 : (k == 2) = false := by simpa using k2
      rw [he]
      clear k1 k2 he
      go_enter Tryd.func26, Tryd.ntmps26
      go_wp2
      go_ret
      exact ⟨rfl, (Below.refl _ _).alloc (Nat.le_refl _) _⟩
end Go.Proofs.YtppmjdmdflcoiaaDoor
