/-
  CodeSqueezes: the walk.
-/
import Derived.Test.YtppmjdmdflcoiabDoorSq6
namespace Go.Proofs.YtppmjdmdflcoiabDoor
open Go.ChangeShapes Go.WideShapes Go.ChangeAt Go.RowKit
set_option linter.unusedVariables false

theorem tmod_facts (n : Int) (k : Nat) (hk : 0 < k) : (0 ≤ n.tmod k → n.tmod k = n % (k : Int)) ∧ (n.tmod k < 0 → n.tmod k + k = n % (k : Int)) ∧ -(k : Int) < n.tmod k ∧ n.tmod k < k := by
  have h1 := Int.tmod_eq_emod (a := n) (b := k)
  have h2 := Int.emod_nonneg n (b := (k : Int)) (by omega)
  have h3 := Int.emod_lt_of_pos n (b := (k : Int)) (by omega)
  have h4 : ((k : Int).natAbs : Int) = k := by omega
  split at h1 <;> omega
theorem pick_any (n : Int) (k : Nat) (hk : 0 < k) (hk2 : k ≤ 4611686018427387904) (h1 : -9223372036854775808 ≤ n) (h2 : n ≤ 9223372036854775807) (w : World) :
    Calls Tryd.prog 10 #[.int .i64 n, .int .i64 k] w fun e w' => e = .returned (.int .i64 (n % (k : Int))) ∧ w' = w := by
  obtain ⟨f1, f2, f3, f4⟩ := tmod_facts n k hk
  have hne : ((k : Int) == 0) = false := by simp; omega
  have hk0 : ¬ ((k : Int) = 0) := by omega
  by_cases hlt : n.tmod k < 0
  · have HE : Hid (n.tmod k + k = n % (k : Int)) := f2 hlt
    clear f1 f2
    go_enter Tryd.func10, Tryd.ntmps10
    go_wp2
    go_ret
    exact ⟨ret_int HE.out, rfl⟩
  · have HE : Hid (n.tmod k = n % (k : Int)) := f1 (by omega)
    clear f1 f2
    go_enter Tryd.func10, Tryd.ntmps10
    go_wp2
    go_ret
    exact ⟨ret_int HE.out, rfl⟩
theorem pick200 (n : Int) (h1 : -9223372036854775808 ≤ n) (h2 : n ≤ 9223372036854775807) : ∃ j : Nat, j < 200 ∧ ∀ w, Calls Tryd.prog 10 #[.int .i64 n, .int .i64 200] w fun e w' => e = .returned (.int .i64 j) ∧ w' = w := by
  have a1 := Int.emod_nonneg n (b := ((200 : Nat) : Int)) (by omega)
  have a2 := Int.emod_lt_of_pos n (b := ((200 : Nat) : Int)) (by omega)
  obtain ⟨j, hj⟩ := Int.eq_ofNat_of_zero_le a1
  refine ⟨j, by omega, fun w => ?_⟩
  have h := pick_any n 200 (by omega) (by omega) h1 h2 w
  rw [hj] at h
  exact h

theorem refSwell_nil (M : Nat) (w : World) : Calls Tryd.prog 8 #[.slice none 0 0, .int .i64 M] w (CSPost (swell M [] []) w) := by
  rw [swell_nil]
  go_enter Tryd.func8, Tryd.ntmps8
  go_wp2
  refine wp_loop_rounds 1 ?_
  rw [rounds_succ]
  go_wp2
  go_ret2
  exact csp_good rfl (owns_nil _ _) (Below.refl _ _)
theorem refSwell_owns (out : List UInt8) (M base : Nat) (v : Value) (w : World) (hl : out.length ≤ 140737488355328) (hM : M ≤ 1048576) (ho : Owns w base v out) : Calls Tryd.prog 8 #[v, .int .i64 M] w (CSPost (swell M out []) w) := by
  obtain ⟨ao, ac, rfl⟩ := ho.shape
  cases ao with
  | none =>
    obtain ⟨rfl, _, rfl⟩ := ho.none
    exact refSwell_nil M w
  | some x =>
    obtain ⟨g, rfl, _, _, hg, _⟩ := ho.some
    exact refSwell_any out _ g ac M w rfl hl hM hg ho.at
set_option maxRecDepth 1000000 in
set_option maxHeartbeats 3200000 in
theorem codeSqueezes_walk (a : ByteArray) (times : Int) (ha : a.size ≤ 140737488355328) (h1 : -9223372036854775808 ≤ times) (h2 : times ≤ 9223372036854775807) (w : World) (hT : ErrT w) :
    Calls Tryd.prog 4 #[.string a, .int .i64 times] w fun e w' => e = .returned (.bool true) ∧ Below w.heap.size w w' := by
  have HT : Hid (ErrT w) := hT
  have hgz := hT.size
  clear hT
  obtain ⟨N, hN, hpick⟩ := pick200 times h1 h2
  have HPK := hid_mk hpick
  clear hpick h1 h2
  go_enter Tryd.func4, Tryd.ntmps4
  go_wp2_with (go_at_call 10; refine (HPK.out _).mono ?_; rintro e w' ⟨rfl, rfl⟩)
  go_loopw [6, 7] (fun x y wr => ∃ (t : ByteArray) (k : Nat), x = .string t ∧ y = .int .i64 k ∧ k ≤ N ∧ a.size ≤ t.size ∧ (t.size ≤ a.size ∨ t.size ≤ 16384) ∧ wr = w') (fun _ y _ => N - (intOf y).toNat)
  case atStart => exact ⟨a, 0, rfl, rfl, by omega, by omega, .inl (Nat.le_refl _), rfl⟩
  case round =>
    obtain ⟨t, k, rfl, rfl, hk, hta, ht, rfl⟩ := hrel
    by_cases hgo : k < N ∧ t.size ≤ 8192
    · obtain ⟨g1, g2⟩ := hgo
      have g1' : (k : Int) < (N : Int) := by omega
      have g2' : (t.size : Int) ≤ 8192 := by omega
      go_wp2
      go_roundw
      case rel => exact ⟨t ++ a, k + 1, rfl, by go_num, by omega, by rw [ByteArray.size_append]; omega, .inr (by rw [ByteArray.size_append]; omega), trivial⟩
      case measure => simp [intOf]; omega
    · have ht47 : t.size ≤ 140737488355328 := by omega
      have kc := run_bw
      have HL : Hid ((bl t).length = t.size) := bl_length t
      have HL47 : Hid ((bl t).length ≤ 140737488355328) := by show _ ≤ _; rw [HL.out]; omega
      have HB0 : Hid (Below wr.heap.size wr (bw wr t)) := below_bw (Below.refl _ _) (Nat.le_refl _) t
      have ks := bw_size
      by_cases hkN : (k : Int) < (N : Int)
      · have h8 : ¬ (t.size : Int) ≤ 8192 := by omega
        go_wp2_with fail
        refine (lent_n (bl t) _ _ 0 _ (bw wr t) HL.out.symm HL47.out (by rw [bw_size]; omega) (bw_bytes wr t)).mono ?_
        rintro e w1 ⟨rfl, hB, hbel⟩
        rw [bw_size] at hB hbel
        have HB1 : Hid (Below wr.heap.size wr w1) := HB0.out.trans (hbel.mono (by omega))
        have HBK : Hid (Block w1 (wr.heap.size + 1) (bl t ++ List.replicate 9 77)) := hB
        have hz1 : wr.heap.size + 1 < w1.heap.size := hB.size
        clear hB hbel
        by_cases hlong : 4096 < t.size
        · have hlong' : (4096 : Int) < (t.size : Int) := by omega
          go_wp2_with fail
          refine (codeSqueeze_long _ _ _ w1 hlong (HT.out.below HB1.out hgz)).mono ?_
          rintro e w2 ⟨rfl, hb2⟩
          have HB2 : Hid (Below w1.heap.size w1 w2) := hb2
          have hz2 : w1.heap.size ≤ w2.heap.size := hb2.size
          clear hb2
          have b3 := below_bw (Below.refl w2.heap.size w2) (Nat.le_refl _) t
          have HB3 : Hid (Below wr.heap.size wr (bw w2 t)) := (HB1.out.trans (HB2.out.mono (by omega))).trans (b3.mono (by omega))
          have HBK3 : Hid (Block (bw w2 t) (wr.heap.size + 1) (bl t ++ List.replicate 9 77)) := (HBK.out.below HB2.out hz1).below b3 (by omega)
          clear b3
          go_wp2_with fail
          refine (back_n (bl t) _ _ (wr.heap.size + 1) _ 0 _ (bw w2 t) HL.out.symm rfl HL47.out HBK3.out (bw_bytes w2 t)).mono ?_
          rintro e w3 ⟨rfl, hg⟩
          have HB4 : Hid (Below wr.heap.size wr w3) := HB3.out.trans (grown_below hg (by omega) (by rw [bw_size]; omega))
          clear hg
          go_wp2
          go_ret
          exact ⟨rfl, HB4.out⟩
        · omega
      · go_wp2_with fail
        refine (lent_n (bl t) _ _ 0 _ (bw wr t) HL.out.symm HL47.out (by rw [bw_size]; omega) (bw_bytes wr t)).mono ?_
        rintro e w1 ⟨rfl, hB, hbel⟩
        rw [bw_size] at hB hbel
        have HB1 : Hid (Below wr.heap.size wr w1) := HB0.out.trans (hbel.mono (by omega))
        have HBK : Hid (Block w1 (wr.heap.size + 1) (bl t ++ List.replicate 9 77)) := hB
        have hz1 : wr.heap.size + 1 < w1.heap.size := hB.size
        clear hB hbel
        by_cases hlong : 4096 < t.size
        · have hlong' : (4096 : Int) < (t.size : Int) := by omega
          go_wp2_with fail
          refine (codeSqueeze_long _ _ _ w1 hlong (HT.out.below HB1.out hgz)).mono ?_
          rintro e w2 ⟨rfl, hb2⟩
          have HB2 : Hid (Below w1.heap.size w1 w2) := hb2
          have hz2 : w1.heap.size ≤ w2.heap.size := hb2.size
          clear hb2
          have b3 := below_bw (Below.refl w2.heap.size w2) (Nat.le_refl _) t
          have HB3 : Hid (Below wr.heap.size wr (bw w2 t)) := (HB1.out.trans (HB2.out.mono (by omega))).trans (b3.mono (by omega))
          have HBK3 : Hid (Block (bw w2 t) (wr.heap.size + 1) (bl t ++ List.replicate 9 77)) := (HBK.out.below HB2.out hz1).below b3 (by omega)
          clear b3
          go_wp2_with fail
          refine (back_n (bl t) _ _ (wr.heap.size + 1) _ 0 _ (bw w2 t) HL.out.symm rfl HL47.out HBK3.out (bw_bytes w2 t)).mono ?_
          rintro e w3 ⟨rfl, hg⟩
          have HB4 : Hid (Below wr.heap.size wr w3) := HB3.out.trans (grown_below hg (by omega) (by rw [bw_size]; omega))
          clear hg
          go_wp2
          go_ret
          exact ⟨rfl, HB4.out⟩
        · have hlong' : ¬ (4096 : Int) < (t.size : Int) := by omega
          have hbl : (bl t).length ≤ 4096 := by rw [HL.out]; omega
          have HBL4 : Hid ((bl t).length ≤ 4096) := hbl
          clear hbl
          go_wp2_with fail
          refine (codeSqueeze_any (bl t) _ _ _ w1 HL.out.symm HBL4.out (by rw [HL.out]; omega) hz1 HBK.out.bytes).mono ?_
          rintro e w2 ⟨v, out, rfl, hown, hsq, hb2⟩
          have HSQ : Hid (Squ (bl t) out) := hsq
          have HB2 : Hid (Below w1.heap.size w1 w2) := hb2
          have HO2 : Hid (Owns w2 w1.heap.size v out) := hown
          have hz2 : w1.heap.size ≤ w2.heap.size := hb2.size
          clear hb2 hown hsq
          have b3 := below_bw (Below.refl w2.heap.size w2) (Nat.le_refl _) t
          have HB3 : Hid (Below wr.heap.size wr (bw w2 t)) := (HB1.out.trans (HB2.out.mono (by omega))).trans (b3.mono (by omega))
          have HBK3 : Hid (Block (bw w2 t) (wr.heap.size + 1) (bl t ++ List.replicate 9 77)) := (HBK.out.below HB2.out hz1).below b3 (by omega)
          have HO3 : Hid (Owns (bw w2 t) w1.heap.size v out) := HO2.out.below b3
          clear b3
          go_wp2_with fail
          refine (back_n (bl t) _ _ (wr.heap.size + 1) _ 0 _ (bw w2 t) HL.out.symm rfl HL47.out HBK3.out (bw_bytes w2 t)).mono ?_
          rintro e w3 ⟨rfl, hg⟩
          have HB4 : Hid (Below wr.heap.size wr w3) := HB3.out.trans (grown_below hg (by omega) (by rw [bw_size]; omega))
          have HO4 : Hid (Owns w3 w1.heap.size v out) := owns_grown HO3.out (by omega) hg
          clear hg
          have b5 := below_bw (Below.refl w3.heap.size w3) (Nat.le_refl _) t
          have HB5 : Hid (Below wr.heap.size wr (bw w3 t)) := HB4.out.trans (b5.mono HB4.out.size)
          have HO5 : Hid (Owns (bw w3 t) w1.heap.size v out) := HO4.out.below b5
          clear b5
          obtain ⟨vo, vc, rfl⟩ := HO5.out.shape
          go_wp2_with fail
          refine (short_any (bl t) _ _ _ (bw w3 t) HL.out.symm HBL4.out (by rw [bw_size]; omega) (bw_bytes w3 t)).mono ?_
          rintro e w4 ⟨s, rfl, hroom, hb6⟩
          have hos := hroom out HSQ.out
          have HB6 : Hid (Below wr.heap.size wr w4) := HB5.out.trans (hb6.mono HB5.out.size)
          have HO6 : Hid (Owns w4 w1.heap.size (.slice vo out.length vc) out) := HO5.out.below hb6
          have hob : out.length ≤ 140737488355328 := by have := HSQ.out.2.1; have := HBL4.out; omega
          clear hroom hb6
          have HRS := hid_mk (refSwell_owns out t.size w1.heap.size _ w4 hob (by omega) HO6.out)
          have HSW : Hid (swell t.size out [] = (0, bl t)) := by
            show _ = _
            rw [← HL.out]; exact HSQ.out.1
          go_wp2_with fail
          refine HRS.out.mono ?_
          rintro e w5 ⟨u, l', rfl, hl', hown, hb7⟩
          rw [HSW.out] at hl' ⊢
          have hl2 : l' = bl t := hl'
          subst hl2
          have HB7 : Hid (Below wr.heap.size wr w5) := HB6.out.trans (hb7.mono HB6.out.size)
          obtain ⟨uo, uc, rfl⟩ := Owns.shape hown
          have hcv := owns_text hown
          rw [str_bl, HL.out] at hcv
          rw [HL.out]
          clear hl' hown hb7
          go_wp2
          go_ret
          exact ⟨rfl, HB7.out⟩
end Go.Proofs.YtppmjdmdflcoiabDoor
