/-
  The document's Swell: the walk.
-/
import Derived.Test.YtppmjdmdflcoiabDoorSw2
namespace Go.Proofs.YtppmjdmdflcoiabDoor
open Go.ChangeShapes Go.WideShapes Go.ChangeAt Go.RowKit
set_option linter.unusedVariables false

set_option maxRecDepth 1000000 in
set_option maxHeartbeats 3200000 in
theorem refSwell_any (l : List UInt8) (n B cap M : Nat) (w : World) (hn : n = l.length) (hl : l.length ≤ 140737488355328) (hM : M ≤ 1048576) (hB : B < w.heap.size) (hc : BytesAt w B 0 l) :
    Calls Tryd.prog 8 #[.slice (some ⟨B, 0, none⟩) n cap, .int .i64 M] w (CSPost (swell M l []) w) := by
  subst hn
  have HC : Hid (BytesAt w B 0 l) := hc
  clear hc
  obtain ⟨T, hT⟩ : ∃ T, T = swell M l [] := ⟨_, rfl⟩
  rw [← hT]
  have HT : Hid (T = swell M l []) := hT
  clear hT
  go_enter Tryd.func8, Tryd.ntmps8
  go_wp2
  go_loopw [6, 7] (fun o i wr => ∃ (k : Nat) (out : List UInt8) (vo : Value), vo = o ∧ i = .int .i64 k ∧ k ≤ l.length ∧ swell M (l.drop k) out = T ∧ out.length ≤ M ∧ Owns wr w.heap.size vo out ∧ Below w.heap.size w wr) (fun _ i _ => l.length - (intOf i).toNat)
  case atStart => exact ⟨0, [], _, rfl, rfl, by omega, HT.out.symm, by simp, owns_nil _ _, Below.refl _ _⟩
  case round =>
    obtain ⟨k, out, v0, rfl, rfl, hk, hsw, hol, hown, hbel⟩ := hrel
    have HS : Hid (swell M (l.drop k) out = T) := hsw
    have HOW : Hid (Owns wr w.heap.size v0 out) := hown
    have HBL : Hid (Below w.heap.size w wr) := hbel
    clear hsw hown hbel
    by_cases hkl : k < l.length
    · obtain ⟨t, ht⟩ : ∃ t, t = l[k] := ⟨_, rfl⟩
      obtain ⟨r, hr⟩ : ∃ r, r = l.drop (k + 1) := ⟨_, rfl⟩
      have hrn : r.length = l.length - (k + 1) := by rw [hr, List.length_drop]
      have HD : Hid (l.drop k = t :: r) := by
        show _ = _
        rw [hr, ht]; exact List.drop_eq_getElem_cons hkl
      have HR : Hid (r = l.drop (k + 1)) := hr
      obtain ⟨X, hX⟩ : ∃ X : Nat, X = t.toNat := ⟨_, rfl⟩
      have hX8 : X < 256 := by rw [hX]; exact t.toNat_lt
      have c0 : wr.cell? ⟨B, k, none⟩ = some (.int .u8 (X : Int)) := by
        have h := (HC.out.below HBL.out hB) k hkl
        rw [Nat.zero_add] at h; rw [h, hX, ht]
      have HX : Hid (X = t.toNat) := hX
      have HST : Hid (∀ c o' r', st M X r out = (c, o', r') → (c = 0 → swell M r' o' = T) ∧ (c ≠ 0 → T.1 = c)) := by
        intro c o' r' h
        rw [HX.out] at h
        refine ⟨fun e => ?_, fun e => ?_⟩
        · subst e; rw [← HS.out, HD.out, swell_ok M t r out o' r' h]
        · rw [← HS.out, HD.out, swell_bad M t r out o' r' c e h]
      have HRN : Hid (r.length = l.length - (k + 1)) := hrn
      clear hX hr ht HS hrn
      by_cases h128 : X < 128
      · have h128' : (X : Int) < 128 := by omega
        by_cases hsz : r.length < X + 1
        · have HF : Hid (T.1 = 7) := (HST.out 7 [] [] (by rw [st, if_pos h128, if_pos hsz])).2 (by decide)
          have hsz' : (l.length : Int) < (k : Int) + 1 + (X : Int) + 1 := by have := HRN.out; omega
          go_wp2
          go_ret2
          exact csp_bad HF.out (by decide) HBL.out
        · have hsz' : ¬ (l.length : Int) < (k : Int) + 1 + (X : Int) + 1 := by have := HRN.out; omega
          have hXr : k + 1 + X + 1 ≤ l.length := by omega
          have HO0 : Hid (Owns wr w.heap.size v0 (out ++ r.take 0)) := by
            show Owns wr w.heap.size v0 (out ++ r.take 0)
            rw [List.take_zero, List.append_nil]; exact HOW.out
          go_wp2
          clear c0
          go_loopw [6, 7, 9] (fun o i kk wr => ∃ (j : Nat) (vo : Value), vo = o ∧ i = .int .i64 ((k + 1 + j : Nat) : Int) ∧ kk = .int .i64 j ∧ j ≤ X + 1 ∧ Owns wr w.heap.size vo (out ++ r.take j) ∧ Below w.heap.size w wr) (fun _ _ kk _ => X + 1 - (intOf kk).toNat)
          case atStart => exact ⟨0, _, rfl, by go_num, rfl, by omega, HO0.out, HBL.out⟩
          case round =>
            obtain ⟨j, v1, rfl, rfl, rfl, hj, hown, hbel⟩ := hrel
            have HOW1 : Hid (Owns wr w.heap.size v1 (out ++ r.take j)) := hown
            have HBL1 : Hid (Below w.heap.size w wr) := hbel
            have hbw : w.heap.size ≤ wr.heap.size := hbel.size
            clear hown hbel HOW HBL HO0
            obtain ⟨D, hD⟩ : ∃ D, D = out ++ r.take j := ⟨_, rfl⟩
            have HDD : Hid (D = out ++ r.take j) := hD
            have HDL : Hid (D.length = out.length + j) := by
              show _ = _
              rw [hD, List.length_append, List.length_take]; have := HRN.out; omega
            rw [← hD] at HOW1
            clear hD
            obtain ⟨ao, ac, rfl⟩ := HOW1.out.shape
            by_cases hjX : j ≤ X
            · obtain ⟨c, hc⟩ : ∃ c, c = r[j]'(by have := HRN.out; omega) := ⟨_, rfl⟩
              obtain ⟨Y, hY⟩ : ∃ Y : Nat, Y = c.toNat := ⟨_, rfl⟩
              have hcell : wr.cell? ⟨B, k + 1 + j, none⟩ = some (.int .u8 (Y : Int)) := by
                have h := (HC.out.below HBL1.out hB) (k + 1 + j) (by omega)
                rw [Nat.zero_add] at h; rw [h, hY, hc]
                simp [HR.out]
              have HY : Hid (Y = c.toNat) := hY
              have HN : Hid (D ++ [c] = out ++ r.take (j + 1)) := by
                show _ = _
                rw [HDD.out, List.append_assoc, hc, List.take_succ_eq_append_getElem (by have := HRN.out; omega)]
              have HAL : Hid (Owns (wr.alloc (.cells #[.int .u8 (Y : Int)] 5)) w.heap.size (.slice ao D.length ac) D) := HOW1.out.alloc _
              clear hc hY
              go_wp2_with (at_builtin; refine wpList_add rfl (.tmp 39) (.tmp 44) rfl w.heap.size _ D rfl HAL.out wr.heap.size 0 1 1 [c] rfl rfl (one_bytes wr c _ (by rw [HY.out]) _ rfl) (by have := HDL.out; simp; omega) (by simp; omega) ?_; intro v2 w2 hown2 hbel2 hnil2)
              have HO2 : Hid (Owns w2 w.heap.size v2 (out ++ r.take (j + 1))) := by
                show Owns _ _ _ _
                rw [← HN.out]; exact hown2
              have HB2 : Hid (Below w.heap.size w w2) := (HBL1.out.alloc hbw _).trans hbel2
              clear hown2 hbel2 hnil2
              go_wp2
              go_roundw
              case rel => exact ⟨j + 1, _, rfl, by go_num, by go_num, by omega, HO2.out, HB2.out⟩
              case measure => simp [intOf]; omega
            · have hjj : j = X + 1 := by omega
              subst hjj
              by_cases hm : M < D.length
              · have hm' : (M : Int) < (D.length : Int) := by omega
                have HF : Hid (T.1 = 6) := (HST.out 6 [] [] (by rw [st, if_pos h128, if_neg hsz, if_pos (by rw [← HDD.out]; exact hm)])).2 (by decide)
                go_wp2
                go_ret2
                exact csp_bad HF.out (by decide) HBL1.out
              · have hm' : ¬ (M : Int) < (D.length : Int) := by omega
                have HF : Hid (swell M (r.drop (X + 1)) D = T) := (HST.out 0 D (r.drop (X + 1)) (by rw [st, if_pos h128, if_neg hsz, if_neg (by rw [← HDD.out]; exact hm), HDD.out])).1 rfl
                go_wp2
                go_roundw
                case rel => exact ⟨k + 1 + (X + 1), D, _, rfl, by go_num, by omega, by rw [← HF.out, HR.out, List.drop_drop], by omega, HOW1.out, HBL1.out⟩
                case measure => simp [intOf]; omega
      · have h128' : ¬ (X : Int) < 128 := by omega
        by_cases hsz : r.length < 2
        · have HF : Hid (T.1 = 7) := (HST.out 7 [] [] (by rw [st, if_neg h128, if_pos hsz])).2 (by decide)
          have hsz' : (l.length : Int) < (k : Int) + 1 + 2 := by have := HRN.out; omega
          go_wp2
          go_ret2
          exact csp_bad HF.out (by decide) HBL.out
        · have hsz' : ¬ (l.length : Int) < (k : Int) + 1 + 2 := by have := HRN.out; omega
          have hk3 : k + 3 ≤ l.length := by omega
          obtain ⟨y, hy⟩ : ∃ y : Nat, y = (r.getD 0 0).toNat := ⟨_, rfl⟩
          obtain ⟨z, hz⟩ : ∃ z : Nat, z = (r.getD 1 0).toNat := ⟨_, rfl⟩
          have hy8 : y < 256 := by rw [hy]; exact (r.getD 0 0).toNat_lt
          have hz8 : z < 256 := by rw [hz]; exact (r.getD 1 0).toNat_lt
          have c1 : wr.cell? ⟨B, k + 1, none⟩ = some (.int .u8 (y : Int)) := by
            have h := (HC.out.below HBL.out hB) (k + 1) (by omega)
            rw [Nat.zero_add] at h
            rw [h, hy, HR.out]; simp [List.getD, List.getElem?_drop, List.getElem?_eq_getElem (show k + 1 < l.length by omega)]
          have c2 : wr.cell? ⟨B, k + 1 + 1, none⟩ = some (.int .u8 (z : Int)) := by
            have h := (HC.out.below HBL.out hB) (k + 1 + 1) (by omega)
            rw [Nat.zero_add] at h
            rw [h, hz, HR.out]; simp [List.getD, List.getElem?_drop, List.getElem?_eq_getElem (show k + 1 + 1 < l.length by omega)]
          have HST2 : Hid (st M X r out = if out.length < y + 256 * z + 1 then (7, [], []) else if M < (cp (y + 256 * z + 1) (X - 125) out).length then (6, [], []) else (0, cp (y + 256 * z + 1) (X - 125) out, r.drop 2)) := by
            show _ = _
            rw [st, if_neg h128, if_neg hsz, ← hy, ← hz]
          clear hy hz
          obtain ⟨ao, ac, rfl⟩ := HOW.out.shape
          by_cases hbk : out.length < y + 256 * z + 1
          · have HF : Hid (T.1 = 7) := (HST.out 7 [] [] (by rw [HST2.out, if_pos hbk])).2 (by decide)
            have hbk' : (out.length : Int) < (y : Int) + 256 * (z : Int) + 1 := by omega
            go_wp2
            go_quiet (fail)
            go_wp2
            go_ret2
            exact csp_bad HF.out (by decide) (HBL.out.trans (drewN_below _ _ _))
          · have hbk' : ¬ (out.length : Int) < (y : Int) + 256 * (z : Int) + 1 := by omega
            obtain ⟨bk, hbkd⟩ : ∃ bk, bk = y + 256 * z + 1 := ⟨_, rfl⟩
            rw [← hbkd] at HST2
            have hb1 : 1 ≤ bk := by omega
            have hb2 : bk ≤ out.length := by omega
            have HBD : Hid (bk = y + 256 * z + 1) := hbkd
            clear hbkd
            go_wp2
            go_quiet (fail)
            have HOQ : Hid (Owns (wr.drewN nq) w.heap.size (.slice ao out.length ac) out) := HOW.out
            have HBQ : Hid (Below w.heap.size w (wr.drewN nq)) := HBL.out.trans (drewN_below _ _ _)
            clear c0 c1 c2
            rw [show (y : Int) + 256 * (z : Int) + 1 = (bk : Int) by have := HBD.out; omega]
            go_wp2
            go_loopw [6, 11] (fun o kk wr => ∃ (j : Nat) (d : List UInt8) (vo : Value), vo = o ∧ kk = .int .i64 j ∧ j ≤ X - 125 ∧ d.length = out.length + j ∧ cp bk (X - 125 - j) d = cp bk (X - 125) out ∧ Owns wr w.heap.size vo d ∧ Below w.heap.size w wr) (fun _ kk _ => X - 125 - (intOf kk).toNat)
            case atStart => exact ⟨0, out, _, rfl, rfl, by omega, by omega, rfl, HOQ.out, HBQ.out⟩
            case round =>
              obtain ⟨j, d, v1, rfl, rfl, hj, hd, hcp, hown, hbel⟩ := hrel
              have HCP : Hid (cp bk (X - 125 - j) d = cp bk (X - 125) out) := hcp
              have HOW1 : Hid (Owns wr w.heap.size v1 d) := hown
              have HBL1 : Hid (Below w.heap.size w wr) := hbel
              have hbw : w.heap.size ≤ wr.heap.size := hbel.size
              have HDL : Hid (d.length = out.length + j) := hd
              have hdb1 : bk ≤ d.length := by omega
              have hdb2 : d.length ≤ 100001000 := by omega
              clear hcp hown hbel hd HOW HBL HOQ HBQ
              obtain ⟨ao1, ac1, rfl⟩ := HOW1.out.shape
              by_cases hlt : j < X - 125
              · have hlt' : (j : Int) < (X : Int) - 125 := by omega
                cases ao1 with
                | none => obtain ⟨rfl, _, _⟩ := HOW1.out.none; simp at hdb1; omega
                | some x =>
                  obtain ⟨g, rfl, _, _, hg, _⟩ := HOW1.out.some
                  have hidx : d.length - bk < d.length := by omega
                  obtain ⟨c, hc⟩ : ∃ c, c = d[d.length - bk] := ⟨_, rfl⟩
                  obtain ⟨Y, hY⟩ : ∃ Y : Nat, Y = c.toNat := ⟨_, rfl⟩
                  have hcell : wr.cell? ⟨g, d.length - bk, none⟩ = some (.int .u8 (Y : Int)) := by
                    have h := HOW1.out.at (d.length - bk) hidx
                    rw [Nat.zero_add] at h; rw [h, hY, hc]
                  have HY : Hid (Y = c.toNat) := hY
                  have HST3 : Hid (cp bk (X - 125 - (j + 1)) (d ++ [c]) = cp bk (X - 125) out) := by
                    have h := HCP.out
                    rw [show X - 125 - j = (X - 125 - (j + 1)) + 1 by omega, cp] at h
                    rw [← h, hc]
                    show _ = cp bk _ _
                    congr 2
                    simp [List.getD, List.getElem?_eq_getElem hidx]
                  have HAL : Hid (Owns (wr.alloc (.cells #[.int .u8 (Y : Int)] 5)) w.heap.size (.slice (some ⟨g, 0, none⟩) d.length ac1) d) := HOW1.out.alloc _
                  have hd1 : (bk : Int) ≤ (d.length : Int) := by omega
                  have hd2 : (d.length : Int) - (bk : Int) < (d.length : Int) := by omega
                  clear hc hY
                  go_wp2_with (at_builtin; refine wpList_add rfl (.tmp 79) (.tmp 87) rfl w.heap.size _ d rfl HAL.out wr.heap.size 0 1 1 [c] rfl rfl (one_bytes wr c _ (by rw [HY.out]) _ rfl) (by simp; omega) (by simp; omega) ?_; intro v2 w2 hown2 hbel2 hnil2)
                  have HO2 : Hid (Owns w2 w.heap.size v2 (d ++ [c])) := hown2
                  have HB2 : Hid (Below w.heap.size w w2) := (HBL1.out.alloc hbw _).trans hbel2
                  clear hown2 hbel2 hnil2
                  go_wp2
                  go_roundw
                  case rel => exact ⟨j + 1, by omega, by omega, d ++ [c], by have := HDL.out; simp; omega, HST3.out, HO2.out, HB2.out⟩
                  case measure => simp [intOf]; omega
              · have hlt' : ¬ (j : Int) < (X : Int) - 125 := by omega
                have HDD : Hid (d = cp bk (X - 125) out) := by
                  have h := HCP.out
                  rw [show X - 125 - j = 0 by omega] at h; exact h
                by_cases hm : M < d.length
                · have hm' : (M : Int) < (d.length : Int) := by omega
                  have HF : Hid (T.1 = 6) := (HST.out 6 [] [] (by rw [HST2.out, if_neg (by omega), if_pos (by rw [← HDD.out]; exact hm)])).2 (by decide)
                  go_wp2
                  go_ret2
                  exact csp_bad HF.out (by decide) HBL1.out
                · have hm' : ¬ (M : Int) < (d.length : Int) := by omega
                  have HF : Hid (swell M (r.drop 2) d = T) := (HST.out 0 d (r.drop 2) (by rw [HST2.out, if_neg (by omega), if_neg (by rw [← HDD.out]; exact hm), ← HDD.out])).1 rfl
                  go_wp2
                  go_roundw
                  case rel => exact ⟨k + 1 + 2, d, _, rfl, by go_num, by omega, by rw [← HF.out, HR.out, List.drop_drop], by omega, HOW1.out, HBL1.out⟩
                  case measure => simp [intOf]; omega
    · have HF : Hid (T = (0, out)) := by
        have h := HS.out
        rw [List.drop_eq_nil_of_le (by omega), swell_nil] at h; exact h.symm
      go_wp2
      go_ret2
      exact csp_good HF.out HOW.out HBL.out
end Go.Proofs.YtppmjdmdflcoiabDoor
