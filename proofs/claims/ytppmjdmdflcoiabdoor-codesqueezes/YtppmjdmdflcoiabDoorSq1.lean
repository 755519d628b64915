/-
  code.addPlain, places.same: the walks.
-/
import Derived.Test.YtppmjdmdflcoiabDoorSq0
import Derived.Test.YtppmjdmdflcoiabDoorSw4
namespace Go.Proofs.YtppmjdmdflcoiabDoor
open Go.ChangeShapes Go.WideShapes Go.ChangeAt Go.RowKit
set_option linter.unusedVariables false

set_option maxRecDepth 1000000 in
set_option maxHeartbeats 1600000 in
theorem addPlain_any (l out : List UInt8) (v : Value) (n B off cap base : Nat) (w : World) (hn : n = l.length) (hl : l.length ≤ 1000000) (hol : out.length ≤ 1000000) (hcap : l.length ≤ cap) (hbase : base ≤ w.heap.size) (hB : B < base) (hc : BytesAt w B off l) (hown : Owns w base v out) :
    Calls Tryd.prog 21 #[v, .slice (some ⟨B, off, none⟩) n cap] w fun e w' => ∃ v' f, e = .returned v' ∧ Dec f l ∧ f.length = l.length + (l.length + 127) / 128 ∧ Owns w' base v' (out ++ f) ∧ Below base w w' := by
  subst hn
  have HC : Hid (BytesAt w B off l) := hc
  have HO : Hid (Owns w base v out) := hown
  have HO0 : Hid (Owns w base v (out ++ [])) := by show Owns _ _ _ _; rw [List.append_nil]; exact hown
  clear hc hown
  go_enter Tryd.func21, Tryd.ntmps21
  go_wp2
  go_loopw [0, 1] (fun o x wr => ∃ (k of cpp : Nat) (f rest : List UInt8) (vo : Value), vo = o ∧ x = .slice (some ⟨B, of, none⟩) rest.length cpp ∧ rest.length ≤ cpp ∧ k + rest.length = l.length ∧ rest = l.drop k ∧ (k % 128 = 0 ∨ rest.length = 0) ∧ BytesAt w B of rest ∧ Dec f (l.take k) ∧ f.length = k + (k + 127) / 128 ∧ Owns wr base vo (out ++ f) ∧ Below base w wr) (fun _ x _ => lenOfV x)
  case atStart => exact ⟨0, off, cap, [], l, _, rfl, rfl, hcap, by omega, by simp, .inl rfl, HC.out, dec_nil, rfl, HO0.out, Below.refl _ _⟩
  case round =>
    obtain ⟨k, of, cpp, f, rest, v0, rfl, rfl, hrc, hkr, hrd, hk8, hby, hdec, hfl, hown, hbel⟩ := hrel
    have HBY : Hid (BytesAt w B of rest) := hby
    have HDEC : Hid (Dec f (l.take k)) := hdec
    have HOW : Hid (Owns wr base v0 (out ++ f)) := hown
    have HBL : Hid (Below base w wr) := hbel
    have HRD : Hid (rest = l.drop k) := hrd
    have hbw : base ≤ wr.heap.size := Nat.le_trans hbase hbel.size
    have HFL : Hid (f.length = k + (k + 127) / 128) := hfl
    have hfl2 : (out ++ f).length ≤ 10000000 := by rw [List.length_append, hfl]; omega
    have HKR : Hid (k + rest.length = l.length) := hkr
    clear hby hdec hown hbel hrd hfl hkr
    obtain ⟨D, hD⟩ : ∃ D, D = out ++ f := ⟨_, rfl⟩
    have HD : Hid (D = out ++ f) := hD
    rw [← hD] at HOW hfl2
    clear hD
    obtain ⟨ao, ac, rfl⟩ := HOW.out.shape
    by_cases h0 : 0 < rest.length
    · have h0' : (0 : Int) < (rest.length : Int) := by omega
      by_cases hbig : (128 : Int) < (rest.length : Int)
      · obtain ⟨c, hc⟩ : ∃ c, c = UInt8.ofNat (128 - 1) := ⟨_, rfl⟩
        have hc8 : c.toNat = 128 - 1 := by rw [hc, UInt8.toNat_ofNat']; try omega
        have HV : Hid (Value.int .u8 (127) = .int .u8 ((c.toNat : Nat) : Int)) := by
          show _ = _
          rw [hc8]; congr 1; try omega
        have HCC : Hid (c = UInt8.ofNat (128 - 1)) := hc
        clear hc hc8
        have HAL : Hid (Owns (wr.alloc (.cells #[.int .u8 (127)] 5)) base (.slice ao D.length ac) D) := HOW.out.alloc _
        have HTL : Hid ((rest.take (128)).length = 128) := by show _ = _; rw [List.length_take]; omega
        have HNW : Hid (BytesAt w B of (rest.take (128))) := by
          intro i hi
          have hi' : i < rest.length := by rw [List.length_take] at hi; omega
          rw [HBY.out i hi']; simp
        have hqc : (128 : Int) ≤ (cpp : Int) := by omega
        have HF2 : Hid (Dec (f ++ (c :: rest.take (128))) (l.take (k + 128)) ∧ (f ++ (c :: rest.take (128))).length = k + 128 + (k + 128 + 127) / 128) := by
          refine ⟨?_, ?_⟩
          · have e : l.take (k + 128) = l.take k ++ rest.take (128) := by rw [List.take_add, ← HRD.out]
            rw [e]
            refine HDEC.out.append ?_
            have h := dec_chunk (rest.take (128)) (by rw [HTL.out]; omega) (by rw [HTL.out]; omega)
            rw [HTL.out, ← HCC.out] at h; exact h
          · rw [List.length_append, List.length_cons, HTL.out, HFL.out]
            rcases hk8 with h | h <;> omega
        have hmx : 0 < cpp := by omega
        go_wp2_with (first
          | (at_builtin; refine wpList_add rfl (.tmp 12) (.tmp 16) rfl base _ D rfl HAL.out wr.heap.size 0 1 1 [c] rfl rfl (one_bytes wr c _ HV.out _ rfl) (by simp; omega) (by simp; omega) ?_; intro v2 w2 hown2 hbel2 hnil2; have HB2 : Hid (Below base w w2) := (HBL.out.alloc hbw _).trans hbel2; have HO2 : Hid (Owns w2 base v2 (D ++ [c])) := hown2; have hz2 : base ≤ w2.heap.size := Nat.le_trans hbase HB2.out.size; clear hown2 hbel2 hnil2)
          | (at_builtin; refine wpList_add rfl (.tmp 18) (.tmp 21) rfl base _ (D ++ [c]) rfl HO2.out B of _ _ (rest.take (128)) rfl HTL.out (HNW.out.below HB2.out hB) (by rw [HTL.out]; simp; omega) hz2 ?_; intro v3 w3 hown3 hbel3 hnil3; have HB3 : Hid (Below base w w3) := HB2.out.trans hbel3; have HO3 : Hid (Owns w3 base v3 (D ++ [c] ++ rest.take (128))) := hown3; clear hown3 hbel3 hnil3))
        go_roundw
        case rel =>
          have hdl : (rest.drop (128)).length = rest.length - 128 := by rw [List.length_drop]
          have e3 : D ++ [c] ++ rest.take (128) = out ++ (f ++ (c :: rest.take (128))) := by rw [HD.out]; simp
          refine ⟨k + 128, of + 128, cpp - 128, f ++ (c :: rest.take (128)), rest.drop (128), _, rfl, ?_, by rw [hdl]; omega, by rw [hdl]; have := HKR.out; omega, ?_, ?_, ?_, HF2.out.1, HF2.out.2, by rw [← e3]; exact HO3.out, HB3.out⟩
          · rw [hdl]
          · rw [HRD.out, List.drop_drop]
          · rw [hdl]; rcases hk8 with h | h <;> omega
          · intro i hi
            rw [hdl] at hi
            have h := HBY.out (128 + i) (by omega)
            rw [show of + 128 + i = of + (128 + i) by omega, h, List.getElem_drop]
        case measure => simp [lenOfV]; omega
      · obtain ⟨c, hc⟩ : ∃ c, c = UInt8.ofNat (rest.length - 1) := ⟨_, rfl⟩
        have hc8 : c.toNat = rest.length - 1 := by rw [hc, UInt8.toNat_ofNat']; try omega
        have HV : Hid (Value.int .u8 ((rest.length : Int) - 1) = .int .u8 ((c.toNat : Nat) : Int)) := by
          show _ = _
          rw [hc8]; congr 1; try omega
        have HCC : Hid (c = UInt8.ofNat (rest.length - 1)) := hc
        clear hc hc8
        have HAL : Hid (Owns (wr.alloc (.cells #[.int .u8 ((rest.length : Int) - 1)] 5)) base (.slice ao D.length ac) D) := HOW.out.alloc _
        have HTL : Hid ((rest.take (rest.length)).length = rest.length) := by show _ = _; rw [List.length_take]; omega
        have HNW : Hid (BytesAt w B of (rest.take (rest.length))) := by
          intro i hi
          have hi' : i < rest.length := by rw [List.length_take] at hi; omega
          rw [HBY.out i hi']; simp
        have hqc : (rest.length : Int) ≤ (cpp : Int) := by omega
        have HF2 : Hid (Dec (f ++ (c :: rest.take (rest.length))) (l.take (k + rest.length)) ∧ (f ++ (c :: rest.take (rest.length))).length = k + rest.length + (k + rest.length + 127) / 128) := by
          refine ⟨?_, ?_⟩
          · have e : l.take (k + rest.length) = l.take k ++ rest.take (rest.length) := by rw [List.take_add, ← HRD.out]
            rw [e]
            refine HDEC.out.append ?_
            have h := dec_chunk (rest.take (rest.length)) (by rw [HTL.out]; omega) (by rw [HTL.out]; omega)
            rw [HTL.out, ← HCC.out] at h; exact h
          · rw [List.length_append, List.length_cons, HTL.out, HFL.out]
            rcases hk8 with h | h <;> omega
        have hmx : 0 < cpp := by omega
        go_wp2_with (first
          | (at_builtin; refine wpList_add rfl (.tmp 12) (.tmp 16) rfl base _ D rfl HAL.out wr.heap.size 0 1 1 [c] rfl rfl (one_bytes wr c _ HV.out _ rfl) (by simp; omega) (by simp; omega) ?_; intro v2 w2 hown2 hbel2 hnil2; have HB2 : Hid (Below base w w2) := (HBL.out.alloc hbw _).trans hbel2; have HO2 : Hid (Owns w2 base v2 (D ++ [c])) := hown2; have hz2 : base ≤ w2.heap.size := Nat.le_trans hbase HB2.out.size; clear hown2 hbel2 hnil2)
          | (at_builtin; refine wpList_add rfl (.tmp 18) (.tmp 21) rfl base _ (D ++ [c]) rfl HO2.out B of _ _ (rest.take (rest.length)) rfl HTL.out (HNW.out.below HB2.out hB) (by rw [HTL.out]; simp; omega) hz2 ?_; intro v3 w3 hown3 hbel3 hnil3; have HB3 : Hid (Below base w w3) := HB2.out.trans hbel3; have HO3 : Hid (Owns w3 base v3 (D ++ [c] ++ rest.take (rest.length))) := hown3; clear hown3 hbel3 hnil3))
        go_roundw
        case rel =>
          have hdl : (rest.drop (rest.length)).length = rest.length - rest.length := by rw [List.length_drop]
          have e3 : D ++ [c] ++ rest.take (rest.length) = out ++ (f ++ (c :: rest.take (rest.length))) := by rw [HD.out]; simp
          refine ⟨k + rest.length, if cpp = rest.length then of else of + rest.length, cpp - rest.length, f ++ (c :: rest.take (rest.length)), rest.drop (rest.length), _, rfl, ?_, by rw [hdl]; omega, by rw [hdl]; have := HKR.out; omega, ?_, ?_, ?_, HF2.out.1, HF2.out.2, by rw [← e3]; exact HO3.out, HB3.out⟩
          · rw [hdl, Nat.sub_self]; split <;> rfl
          · rw [HRD.out, List.drop_drop]
          · rw [hdl]; rcases hk8 with h | h <;> omega
          · intro i hi
            rw [hdl] at hi
            rw [if_neg (by omega)]
            have h := HBY.out (rest.length + i) (by omega)
            rw [show of + rest.length + i = of + (rest.length + i) by omega, h, List.getElem_drop]
        case measure => simp [lenOfV]; omega
    · have HF : Hid (f.length = l.length + (l.length + 127) / 128 ∧ Dec f l) := by
        have hk : k = l.length := by have := HKR.out; omega
        refine ⟨by rw [HFL.out, hk], ?_⟩
        have h := HDEC.out
        rw [hk, List.take_length] at h; exact h
      have h0' : (rest.length : Int) ≤ 0 := by omega
      go_wp2
      go_ret
      exact ⟨_, f, rfl, HF.out.2, HF.out.1, by rw [← HD.out]; exact HOW.out, HBL.out⟩

/-- How many bytes are the same. -/
def Same (b : List UInt8) (at_ i most n : Nat) : Prop := n ≤ most ∧ (∀ k, k < n → b.getD (at_ + k) 0 = b.getD (i + k) 0) ∧ (n < most → b.getD (at_ + n) 0 ≠ b.getD (i + n) 0)
theorem byte_at {w : World} {B : Nat} {l : List UInt8} (h : BytesAt w B 0 l) (i : Nat) (hi : i < l.length) : w.cell? ⟨B, i, none⟩ = some (.int .u8 (((l.getD i 0).toNat : Nat) : Int)) := by
  have := h i hi
  rw [Nat.zero_add] at this
  rw [this]
  simp [List.getD, List.getElem?_eq_getElem hi]
set_option maxRecDepth 1000000 in
set_option maxHeartbeats 1600000 in
theorem psame_any (b : List UInt8) (a i most n B cap : Nat) (fv : Value) (w : World) (hn : n = b.length) (hl : b.length ≤ 100000) (ha : a < i) (him : i + most ≤ b.length) (hB : B < w.heap.size) (hc : BytesAt w B 0 b) :
    Calls Tryd.prog 23 #[.agg #[.slice (some ⟨B, 0, none⟩) n cap, fv], .int .i64 a, .int .i64 i, .int .i64 most] w fun e w' => ∃ n : Nat, e = .returned (.int .i64 n) ∧ Same b a i most n ∧ Below w.heap.size w w' := by
  subst hn
  have HC : Hid (BytesAt w B 0 b) := hc
  clear hc
  go_enter Tryd.func23, Tryd.ntmps23
  go_wp2
  have hbox : (w.alloc (Obj.cells #[Value.slice (some { block := B, off := 0 }) b.length cap, fv] 43)).cell? ⟨w.heap.size, 0, none⟩ = some (.slice (some ⟨B, 0, none⟩) b.length cap) := by simp
  have HB0 : Hid (Below w.heap.size w (w.alloc (Obj.cells #[Value.slice (some { block := B, off := 0 }) b.length cap, fv] 43))) := (Below.refl _ _).alloc (Nat.le_refl _) _
  go_loopw [9] (fun x wr => ∃ n : Nat, x = .int .i64 n ∧ n ≤ most ∧ (∀ k, k < n → b.getD (a + k) 0 = b.getD (i + k) 0) ∧ wr.cell? ⟨w.heap.size, 0, none⟩ = some (.slice (some ⟨B, 0, none⟩) b.length cap) ∧ Below w.heap.size w wr) (fun x _ => most - (intOf x).toNat)
  case atStart => exact ⟨0, rfl, by omega, fun k h => by omega, hbox, HB0.out⟩
  case round =>
    obtain ⟨n, rfl, hn, hsame, hbx, hbel⟩ := hrel
    have HS : Hid (∀ k, k < n → b.getD (a + k) 0 = b.getD (i + k) 0) := hsame
    have HBL : Hid (Below w.heap.size w wr) := hbel
    clear hsame hbox hbel
    by_cases hlt : n < most
    · have hlt' : (n : Int) < (most : Int) := by omega
      obtain ⟨X, hX⟩ : ∃ X, X = b.getD (a + n) 0 := ⟨_, rfl⟩
      obtain ⟨Y, hY⟩ : ∃ Y, Y = b.getD (i + n) 0 := ⟨_, rfl⟩
      have c1 : wr.cell? ⟨B, a + n, none⟩ = some (.int .u8 ((X.toNat : Nat) : Int)) := by
        rw [hX]; exact byte_at (HC.out.below HBL.out hB) _ (by omega)
      have c2 : wr.cell? ⟨B, i + n, none⟩ = some (.int .u8 ((Y.toNat : Nat) : Int)) := by
        rw [hY]; exact byte_at (HC.out.below HBL.out hB) _ (by omega)
      have HX : Hid (X = b.getD (a + n) 0) := hX
      have HY : Hid (Y = b.getD (i + n) 0) := hY
      clear hX hY
      by_cases hxy : X = Y
      · subst hxy
        have hd : (((X.toNat : Nat) : Int) == ((X.toNat : Nat) : Int)) = true := by simp
        go_wp2
        go_quiet (fail)
        go_wp2
        go_roundw
        case rel => exact ⟨n + 1, by go_num, by omega, fun k hk => by
            rcases Nat.lt_or_ge k n with h | h
            · exact HS.out k h
            · obtain rfl : k = n := by omega
              rw [← HX.out, ← HY.out], hbx, HBL.out.trans (drewN_below _ _ _)⟩
        case measure => simp [intOf]; omega
      · have hne : ¬ X.toNat = Y.toNat := fun h => hxy (UInt8.toNat_inj.1 h)
        have hd : (((X.toNat : Nat) : Int) == ((Y.toNat : Nat) : Int)) = false := by simp; omega
        go_wp2
        go_quiet (fail)
        go_wp2
        go_ret
        exact ⟨n, rfl, ⟨by omega, HS.out, fun _ h => hxy (by rw [HX.out, HY.out]; exact h)⟩, HBL.out.trans (drewN_below _ _ _)⟩
    · have hd : decide ((n : Int) < (most : Int)) = false := by simp; omega
      go_wp2
      go_quiet (fail)
      go_wp2
      go_ret
      exact ⟨n, rfl, ⟨by omega, HS.out, fun h => absurd h hlt⟩, HBL.out.trans (drewN_below _ _ _)⟩
end Go.Proofs.YtppmjdmdflcoiabDoor
