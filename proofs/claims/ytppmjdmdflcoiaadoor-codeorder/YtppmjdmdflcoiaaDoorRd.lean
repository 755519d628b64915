/-
  code.kindOf, firstNumber, firstText: the walks.
-/
import Derived.Test.YtppmjdmdflcoiaaDoorKey4
import Derived.Test.YtppmjdmdflcoiaaDoorDec2
namespace Go.Proofs.YtppmjdmdflcoiaaDoor
open Go.ChangeShapes Go.WideShapes Go.ChangeAt Go.RowKit
set_option linter.unusedVariables false

def kindN (m : Nat) : Int := if m ≤ 8 then 1 else if m = 9 then 2 else 0
theorem kindOf_any (m : Nat) (hm : m < 256) (w : World) : Calls Tryd.prog 33 #[.int .u8 m] w fun e w' => e = .returned (.int .i64 (kindN m)) ∧ w' = w := by
  by_cases h8 : m ≤ 8
  · have h : (m : Int) ≤ 8 := by omega
    rw [kindN, if_pos h8]
    go_enter Tryd.func33, Tryd.ntmps33
    go_wp2
    go_ret
    exact ⟨rfl, rfl⟩
  · have h : ¬ (m : Int) ≤ 8 := by omega
    rw [kindN, if_neg h8]
    by_cases h9 : m = 9
    · have h9' : ((m : Int) == 9) = true := by simp; omega
      rw [if_pos h9]
      clear h9
      go_enter Tryd.func33, Tryd.ntmps33
      go_wp2
      go_ret
      exact ⟨rfl, rfl⟩
    · have h9' : ((m : Int) == 9) = false := by simp; omega
      rw [if_neg h9]
      clear h9
      go_enter Tryd.func33, Tryd.ntmps33
      go_wp2
      go_ret
      exact ⟨rfl, rfl⟩

theorem or_bytes (n x : Nat) (hn : n * 256 < 18446744073709551616) (hx : x < 256) : bits .or .u64 ((n : Int) * 256) (x : Int) = ((n * 256 + x : Nat) : Int) := by
  have e : ((n : Int) * 256) = ((n * 256 : Nat) : Int) := by omega
  rw [e, u64_or_nat _ _ hn (by omega)]
  congr 1
  have h := Nat.two_pow_add_eq_or_of_lt (i := 8) (b := x) (by omega) n
  rw [Nat.mul_comm n 256]
  simpa using h.symm

/-- The number at the head of these bytes (whose first one is at most 8). -/
theorem firstNumber_any (m : UInt8) (r : List UInt8) (b off cap : Nat) (w : World) (hm : m.toNat ≤ 8) (hl : (m :: r).length ≤ 140737488355328) (hcap : (m :: r).length ≤ cap) (hc : BytesAt w b off (m :: r)) :
    Calls Tryd.prog 34 #[.slice (some ⟨b, off, none⟩) (r.length + 1) cap] w fun e w' =>
      e = .returned (.tuple #[.int .u64 ((if (m :: r).length < 1 + m.toNat ∨ (0 < m.toNat ∧ r.head? = some 0) then 0 else val (r.take m.toNat) : Nat) : Int), .int .i64 ((if (m :: r).length < 1 + m.toNat ∨ (0 < m.toNat ∧ r.head? = some 0) then 0 else 1 + m.toNat : Nat) : Int)]) ∧ w' = w := by
  have c0 : w.cell? ⟨b, off, none⟩ = some (.int .u8 (m.toNat : Int)) := by have h := hc 0 (by simp); simpa using h
  obtain ⟨M, hM⟩ : ∃ M : Nat, M = m.toNat := ⟨_, rfl⟩
  rw [← hM] at c0 hm ⊢
  have HC : Hid (BytesAt w b off (m :: r)) := hc
  have hr : r.length + 1 ≤ 140737488355328 := by simpa using hl
  have hcap' : r.length + 1 ≤ cap := by simpa using hcap
  clear hc hM hl hcap
  by_cases h1 : (m :: r).length < 1 + M
  · have h1' : (r.length : Int) + 1 < 1 + (M : Int) := by simp at h1; omega
    have hcond : ((m :: r).length < 1 + M ∨ (0 < M ∧ r.head? = some 0)) := .inl h1
    rw [if_pos hcond, if_pos hcond]
    clear hcond h1
    go_enter Tryd.func34, Tryd.ntmps34
    go_wp2
    go_ret2
    exact ⟨rfl, rfl⟩
  · have h1' : ¬ (r.length : Int) + 1 < 1 + (M : Int) := by simp at h1; omega
    have hMr : M ≤ r.length := by simp at h1; omega
    by_cases h2 : 0 < M ∧ r.head? = some 0
    · have hcond : ((m :: r).length < 1 + M ∨ (0 < M ∧ r.head? = some 0)) := .inr h2
      rw [if_pos hcond, if_pos hcond]
      have c1 : w.cell? ⟨b, off + 1, none⟩ = some (.int .u8 0) := by
        have h := HC.out 1 (by simp; omega)
        rw [h]
        cases r with
        | nil => simp at h2
        | cons x r' =>
          obtain ⟨_, hx⟩ := h2
          simp at hx
          subst hx
          rfl
      have h0 : (1 : Int) < 1 + (M : Int) := by omega
      have hlt : (1 : Int) < (r.length : Int) + 1 := by omega
      clear hcond h2 h1
      go_enter Tryd.func34, Tryd.ntmps34
      go_wp2
      go_ret2
      exact ⟨rfl, rfl⟩
    · have hcond : ¬ ((m :: r).length < 1 + M ∨ (0 < M ∧ r.head? = some 0)) := by rintro (h | h); exact h1 h; exact h2 h
      rw [if_neg hcond, if_neg hcond]
      have hg : Hid ((0 : Int) < (M : Int) → ∃ x : Nat, w.cell? ⟨b, off + 1, none⟩ = some (.int .u8 (x : Int)) ∧ ((x : Int) == 0) = false) := by
        intro h0
        have h := HC.out 1 (by simp; omega)
        cases r with
        | nil => simp at hMr; omega
        | cons y r' =>
          refine ⟨y.toNat, h, ?_⟩
          rw [beq_eq_false_iff_ne]
          intro e
          exact h2 ⟨by omega, by rw [List.head?_cons, UInt8.toNat_inj.1 (show y.toNat = (0 : UInt8).toNat by simp; omega)]⟩
      have HV : Hid (∀ k, (hk : k < M) → w.cell? ⟨b, off + 1 + k, none⟩ = some (.int .u8 ((r[k]'(by omega)).toNat : Int))) := fun k hk => by
        have h := HC.out (k + 1) (by simp; omega)
        rw [show off + 1 + k = off + (k + 1) by omega, h]
        rfl
      obtain ⟨W, hW⟩ : ∃ W : Nat, W = val (r.take M) := ⟨_, rfl⟩
      rw [← hW]
      have HW : Hid (W = val (r.take M)) := hW
      clear hcond h2 h1 hW
      by_cases hM0 : (0 : Int) < (M : Int)
      · obtain ⟨x, hx1, hx2⟩ := hg.out hM0
        have h0 : (1 : Int) < 1 + (M : Int) := by omega
        have hlt : (1 : Int) < (r.length : Int) + 1 := by omega
        have hnc : ¬ (cap = 1) := by omega
        clear hg
        go_enter Tryd.func34, Tryd.ntmps34
        go_wp2
        go_loop [5, 31] (fun n i => ∃ k : Nat, i = .int .i64 k ∧ k ≤ M ∧ n = .int .u64 ((val (r.take k) : Nat) : Int)) (fun _ i => M - (intOf i).toNat)
        case atStart => exact ⟨0, rfl, by omega, rfl⟩
        case round =>
          obtain ⟨k, rfl, hk, rfl⟩ := hrel
          by_cases hkM : k < M
          · have hck := HV.out k hkM
            have hkr : k < r.length := by omega
            obtain ⟨N, hN⟩ : ∃ N : Nat, N = val (r.take k) := ⟨_, rfl⟩
            have hvl := val_lt (r.take k)
            have hpk : (256 : Nat) ^ (r.take k).length ≤ 256 ^ 7 := Nat.pow_le_pow_right (by omega) (by simp; omega)
            have e7 : (256 : Nat) ^ 7 = 72057594037927936 := by decide
            rw [e7] at hpk
            rw [← hN] at hvl ⊢
            have hN8 : N < 72057594037927936 := Nat.lt_of_lt_of_le hvl hpk
            obtain ⟨X, hX⟩ : ∃ X : Nat, X = (r[k]).toNat := ⟨_, rfl⟩
            have hX8 : X < 256 := by rw [hX]; exact (r[k]).toNat_lt
            rw [← hX] at hck
            have HN : Hid (N = val (r.take k)) := hN
            have HX : Hid (X = (r[k]).toNat) := hX
            have hob := or_bytes N X (by omega) hX8
            clear hN hvl hpk e7 hX
            go_wp2
            go_round
            case rel =>
              refine ⟨k + 1, by go_num, by omega, ?_⟩
              rw [List.take_succ_eq_append_getElem hkr, val_snoc, ← HN.out, ← HX.out]
              first | rfl | (congr 1; omega)
            case measure => simp [intOf]; omega
          · have hkk : k = M := by omega
            have HK : Hid (k = M) := hkk
            clear hkk
            go_wp2
            go_ret2
            exact ⟨by rw [HK.out, HW.out]; rfl, rfl⟩
      · have hM : M = 0 := by omega
        subst hM
        clear hg
        have HW0 : Hid (W = 0) := by show W = 0; rw [HW.out]; rfl
        go_enter Tryd.func34, Tryd.ntmps34
        go_wp2
        all_goals
          refine wp_loop_rounds 1 ?_
          rw [rounds_succ]
          go_wp2
          go_ret2
          exact ⟨by rw [HW0.out]; rfl, rfl⟩

theorem Owns.shape {w : World} {base : Nat} {v : Value} {l : List UInt8} (h : Owns w base v l) : ∃ ao cp, v = .slice ao l.length cp := by
  rcases h.2 with ⟨rfl, hn⟩ | ⟨g, c, cur, h3, _⟩
  · exact ⟨none, 0, by rw [hn]⟩
  · exact ⟨_, _, h3⟩
theorem Owns.at {w : World} {base : Nat} {g off cp : Nat} {l : List UInt8} (h : Owns w base (.slice (some ⟨g, off, none⟩) l.length cp) l) : BytesAt w g off l := by
  rcases h.2 with ⟨h2, hn⟩ | ⟨g', c, cur, h3, h4, h5, h6, h7, h8, h9⟩
  · cases h2
  · simp at h3
    obtain ⟨⟨rfl, rfl⟩, rfl⟩ := h3
    intro i hi
    have e : (cur.toList.take (l.length * 1))[i]? = some (by8 l[i]) := by rw [h9]; simp [hi]
    rw [List.getElem?_take_of_lt (by omega)] at e
    have e' : cur[i]? = some (by8 l[i]) := by simpa using e
    rw [Nat.zero_add]
    simp [World.cell?, h5, e', by8]
theorem Owns.some {w : World} {base : Nat} {x : Addr} {n cp : Nat} {l : List UInt8} (h : Owns w base (.slice (some x) n cp) l) : ∃ g, x = ⟨g, 0, none⟩ ∧ n = l.length ∧ base ≤ g ∧ g < w.heap.size ∧ n ≤ cp := by
  rcases h.2 with ⟨h2, hn⟩ | ⟨g', c, cur, h3, h4, h5, h6, _⟩
  · cases h2
  · simp at h3
    obtain ⟨rfl, rfl, rfl⟩ := h3
    exact ⟨g', rfl, rfl, h4, (Array.getElem?_eq_some_iff.1 h5).1, h6⟩
theorem Owns.none {w : World} {base : Nat} {n cp : Nat} {l : List UInt8} (h : Owns w base (.slice none n cp) l) : l = [] ∧ n = 0 ∧ cp = 0 := by
  rcases h.2 with ⟨h2, hn⟩ | ⟨g', c, cur, h3, _⟩
  · simp at h2
    exact ⟨List.eq_nil_of_length_eq_zero hn, h2.1, h2.2⟩
  · cases h3
/-- 'string(b)' of bytes that the call has made. -/
theorem owns_text {w : World} {base : Nat} {ao : Option Addr} {cp : Nat} {l : List UInt8} (h : Owns w base (.slice ao l.length cp) l) : (convert 22 9 (.slice ao l.length cp)).run Tryd.prog w = .ok (.string (str l)) w := by
  cases ao with
  | none =>
    obtain ⟨rfl, _, rfl⟩ := h.none
    exact run_convert_bytes_nil (P := Tryd.prog) (w := w) 22 5 Tryd.underlying22 Tryd.underlying5 0 0 9 Tryd.underlying9
  | some x =>
    obtain ⟨g, rfl, _, _, _, _⟩ := h.some
    exact run_convert_bytes_back (P := Tryd.prog) w 22 9 5 ⟨g, 0, none⟩ cp l Tryd.underlying22 Tryd.underlying5 Tryd.underlying9 (fun j hj => by rw [add_at]; exact h.at j hj)

set_option maxRecDepth 1000000 in
set_option maxHeartbeats 1600000 in
theorem firstText_any (m : UInt8) (r : List UInt8) (b off cap : Nat) (w : World) (hl : (m :: r).length ≤ 140737488355328) (hb : b < w.heap.size) (hc : BytesAt w b off (m :: r)) :
    Calls Tryd.prog 35 #[.slice (some ⟨b, off, none⟩) (r.length + 1) cap] w fun e w' =>
      e = .returned (.tuple #[.string (str (((decT r [] 1).map (·.1)).getD [])), .int .i64 ((((decT r [] 1).map (·.2)).getD 0 : Nat) : Int)]) ∧ Below w.heap.size w w' := by
  have HC : Hid (BytesAt w b off (m :: r)) := hc
  have hr : r.length + 1 ≤ 140737488355328 := by simpa using hl
  clear hc hl
  obtain ⟨T, hT⟩ : ∃ T, T = decT r [] 1 := ⟨_, rfl⟩
  rw [← hT]
  have HT : Hid (T = decT r [] 1) := hT
  clear hT
  go_enter Tryd.func35, Tryd.ntmps35
  go_wp2
  go_loopw [4, 5] (fun o i wr => ∃ (k : Nat) (acc : List UInt8) (vo : Value), vo = o ∧ i = .int .i64 ((k + 1 : Nat) : Int) ∧ k ≤ r.length ∧ acc.length ≤ 61 ∧ decT (r.drop k) acc (k + 1) = T ∧ Owns wr w.heap.size vo acc ∧ Below w.heap.size w wr) (fun _ i _ => r.length + 1 - (intOf i).toNat)
  case atStart => exact ⟨0, [], _, rfl, rfl, by omega, by simp, by rw [HT.out]; rfl, owns_nil _ _, Below.refl _ _⟩
  case round =>
    obtain ⟨k, acc, v0, rfl, rfl, hk, hacc, hdec, hown, hbel⟩ := hrel
    have HDC : Hid (decT (r.drop k) acc (k + 1) = T) := hdec
    have HOW : Hid (Owns wr w.heap.size v0 acc) := hown
    have HBL : Hid (Below w.heap.size w wr) := hbel
    have hbw : w.heap.size ≤ wr.heap.size := hbel.size
    clear hdec hown hbel
    obtain ⟨ao, cp, rfl⟩ := HOW.out.shape
    by_cases hlt : k < r.length
    · by_cases h60 : acc.length ≤ 60
      · obtain ⟨c, hc⟩ : ∃ c, c = r[k] := ⟨_, rfl⟩
        obtain ⟨X, hX⟩ : ∃ X : Nat, X = c.toNat := ⟨_, rfl⟩
        have hck : wr.cell? ⟨b, off + (k + 1), none⟩ = some (.int .u8 (X : Int)) := by
          have h := (HC.out.below HBL.out hb) (k + 1) (by simp; omega)
          rw [h, hX, hc]; rfl
        have hX8 : X < 256 := by rw [hX]; exact c.toNat_lt
        have HD : Hid (decT (c :: r.drop (k + 1)) acc (k + 1) = T) := by
          show _ = _
          rw [← HDC.out, List.drop_eq_getElem_cons hlt, ← hc]
        have HX : Hid (X = c.toNat) := hX
        clear HDC hc hX
        by_cases h0 : X = 0
        · have h0' : ((X : Int) == 0) = true := by rw [h0]; rfl
          have HTT : Hid (T = some (acc, k + 1 + 1)) := by
            show T = _
            rw [← HD.out, decT_cons, if_pos h60, if_pos (UInt8.toNat_inj.1 (show c.toNat = (0 : UInt8).toNat by rw [← HX.out, h0]; rfl))]
          have hcv := owns_text HOW.out
          clear h0
          go_wp2
          go_ret2
          exact ⟨by rw [HTT.out]; rfl, HBL.out⟩
        · have h0' : ((X : Int) == 0) = false := by rw [beq_eq_false_iff_ne]; omega
          have hc0 : ¬ c = 0 := fun e => h0 (by rw [HX.out, e]; rfl)
          by_cases h1 : X = 1
          · have h1' : ((X : Int) == 1) = true := by rw [h1]; rfl
            have hc1 : c = 1 := UInt8.toNat_inj.1 (show c.toNat = (1 : UInt8).toNat by rw [← HX.out, h1]; rfl)
            have HD2 : Hid (dec2 (r.drop (k + 1)) acc (k + 1) = T) := by
              show _ = _
              rw [← HD.out, hc1, decT_one _ _ _ h60]
            clear h0 h1 hc0 hc1 HD
            by_cases hlt2 : k + 1 < r.length
            · obtain ⟨y, hy⟩ : ∃ y, y = r[k + 1] := ⟨_, rfl⟩
              obtain ⟨Y, hY⟩ : ∃ Y : Nat, Y = y.toNat := ⟨_, rfl⟩
              have hcy : wr.cell? ⟨b, off + (k + 1 + 1), none⟩ = some (.int .u8 (Y : Int)) := by
                have h := (HC.out.below HBL.out hb) (k + 1 + 1) (by simp; omega)
                rw [h, hY, hy]; rfl
              have hY8 : Y < 256 := by rw [hY]; exact y.toNat_lt
              have HD3 : Hid ((if y = 0 ∨ 2 < y then none else decT (r.drop (k + 1 + 1)) (acc ++ [y - 1]) (k + 1 + 2)) = T) := by
                have h := HD2.out
                rw [List.drop_eq_getElem_cons hlt2, ← hy, dec2_cons] at h; exact h
              have HY : Hid (Y = y.toNat) := hY
              have hi2 : ¬ ((k : Int) + 1 + 1 = (r.length : Int) + 1) := by omega
              have hi3 : ((k : Int) + 1 + 1 == (r.length : Int) + 1) = false := by rw [beq_eq_false_iff_ne]; exact hi2
              clear hy hY HD2
              by_cases hbad : Y = 0 ∨ 2 < Y
              · have HTN : Hid (T = none) := by
                  have h := HD3.out
                  rw [if_pos] at h
                  · exact h.symm
                  · rcases hbad with e | e
                    · exact .inl (UInt8.toNat_inj.1 (show y.toNat = (0 : UInt8).toNat by rw [← HY.out, e]; rfl))
                    · exact .inr (by rw [UInt8.lt_iff_toNat_lt, ← HY.out]; exact e)
                by_cases hY0 : Y = 0
                all_goals try (have hY0' : ((Y : Int) == 0) = true := by rw [hY0]; rfl)
                all_goals try (have hY0' : ((Y : Int) == 0) = false := by rw [beq_eq_false_iff_ne]; omega)
                all_goals try (have hY2 : (2 : Int) < (Y : Int) := by omega)
                all_goals
                  clear hbad hY0
                  go_wp2
                  go_ret2
                  exact ⟨by rw [HTN.out]; rfl, HBL.out⟩
              · have hY0' : ((Y : Int) == 0) = false := by rw [beq_eq_false_iff_ne]; omega
                have hY2 : ¬ (2 : Int) < (Y : Int) := by omega
                have hY2d : decide ((2 : Int) < (Y : Int)) = false := by simpa using hY2
                have HD4 : Hid (decT (r.drop (k + 2)) (acc ++ [y - 1]) (k + 2 + 1) = T) := by
                  have h := HD3.out
                  rw [if_neg] at h
                  · exact h
                  · rintro (e | e)
                    · exact hbad (.inl (by rw [HY.out, e]; rfl))
                    · exact hbad (.inr (by rw [UInt8.lt_iff_toNat_lt, ← HY.out] at e; exact e))
                have HS : Hid ((y - 1).toNat = Y - 1) := by
                  show (y - 1).toNat = _
                  rw [HY.out]
                  exact UInt8.toNat_sub_of_le y 1 (by rw [UInt8.le_iff_toNat_le, ← HY.out]; show 1 ≤ Y; omega)
                have HAL : Hid (Owns (wr.alloc (.cells #[.int .u8 ((Y : Int) - 1)] 5)) w.heap.size (.slice ao acc.length cp) acc) := HOW.out.alloc _
                have hY1 : 1 ≤ Y := by omega
                clear HD3 hbad
                go_wp2_with (at_builtin; refine wpList_add rfl (.tmp 56) (.tmp 62) rfl w.heap.size _ acc rfl HAL.out wr.heap.size 0 1 1 [y - 1] rfl rfl (one_bytes wr (y - 1) _ (by rw [HS.out]; congr 1; omega) _ rfl) (by simp; omega) (by simp; omega) ?_; intro v2 w2 hown2 hbel2 hnil2)
                have HO2 : Hid (Owns w2 w.heap.size v2 (acc ++ [y - 1])) := hown2
                have HB2 : Hid (Below w.heap.size w w2) := (HBL.out.alloc hbw _).trans hbel2
                clear hown2 hbel2 hnil2
                go_wp2
                go_roundw
                case rel => exact ⟨k + 2, acc ++ [y - 1], _, rfl, by go_num, by omega, by simp; omega, HD4.out, HO2.out, HB2.out⟩
                case measure => simp [intOf]; omega
            · have HTN : Hid (T = none) := by
                have h := HD2.out
                rw [List.drop_eq_nil_of_le (by omega), dec2_nil] at h; exact h.symm
              have hi3 : ((k : Int) + 1 + 1 == (r.length : Int) + 1) = true := by rw [beq_iff_eq]; omega
              clear HD2
              go_wp2
              go_ret2
              exact ⟨by rw [HTN.out]; rfl, HBL.out⟩
          · have h1' : ((X : Int) == 1) = false := by rw [beq_eq_false_iff_ne]; omega
            have hc1 : ¬ c = 1 := fun e => h1 (by rw [HX.out, e]; rfl)
            have HD4 : Hid (decT (r.drop (k + 1)) (acc ++ [c]) (k + 1 + 1) = T) := by
              show _ = _
              rw [← HD.out, decT_other _ _ _ _ h60 hc0 hc1]
            have HAL : Hid (Owns (wr.alloc (.cells #[.int .u8 (X : Int)] 5)) w.heap.size (.slice ao acc.length cp) acc) := HOW.out.alloc _
            clear h0 h1 hc0 hc1 HD
            go_wp2_with (at_builtin; refine wpList_add rfl (.tmp 21) (.tmp 26) rfl w.heap.size _ acc rfl HAL.out wr.heap.size 0 1 1 [c] rfl rfl (one_bytes wr c _ (by rw [HX.out]) _ rfl) (by simp; omega) (by simp; omega) ?_; intro v2 w2 hown2 hbel2 hnil2)
            have HO2 : Hid (Owns w2 w.heap.size v2 (acc ++ [c])) := hown2
            have HB2 : Hid (Below w.heap.size w w2) := (HBL.out.alloc hbw _).trans hbel2
            clear hown2 hbel2 hnil2
            go_wp2
            go_roundw
            case rel => exact ⟨k + 1, acc ++ [c], _, rfl, by go_num, by omega, by simp; omega, HD4.out, HO2.out, HB2.out⟩
            case measure => simp [intOf]; omega
      · have HTN : Hid (T = none) := by show T = none; rw [← HDC.out, decT_long _ _ _ h60]
        have h60' : ¬ (acc.length : Int) ≤ 60 := by omega
        have hd60 : decide ((acc.length : Int) ≤ 60) = false := by simpa using h60'
        clear HDC
        go_wp2
        go_ret2
        exact ⟨by rw [HTN.out]; rfl, HBL.out⟩
    · have HTN : Hid (T = none) := by show T = none; rw [← HDC.out, List.drop_eq_nil_of_le (by omega)]; rfl
      clear HDC
      go_wp2
      go_ret2
      exact ⟨by rw [HTN.out]; rfl, HBL.out⟩
end Go.Proofs.YtppmjdmdflcoiaaDoor
