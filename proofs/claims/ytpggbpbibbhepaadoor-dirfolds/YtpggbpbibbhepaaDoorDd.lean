/-
  The reference's Fold.
-/
import Derived.Test.YtpggbpbibbhepaaDoorDc
namespace Go.Proofs.YtpggbpbibbhepaaDoor
open Go.ChangeShapes Go.WideShapes Go.ChangeAt Go.RowKit
set_option linter.unusedVariables false

theorem cells_by8 (r : Int) : Lib.runeCells r = (Lib.encodeRune r).map by8 := by
  rw [← Lib.byteCells_encodeRune]; rfl
theorem tabs_below {g3 g4 B : Nat} {w w' : World} (h : Lib.Utf8Tabs g3 g4 w) (hb : Below B w w') (h3 : g3 < B) (h4 : g4 < B) : Lib.Utf8Tabs g3 g4 w' :=
  ⟨fun c hc => (hb.cell (p := ⟨g3, c, none⟩) h3).trans (h.1 c hc), fun i hi => ⟨(hb.cell (p := ⟨g4, 2 * i, none⟩) h4).trans (h.2 i hi).1, (hb.cell (p := ⟨g4, 2 * i + 1, none⟩) h4).trans (h.2 i hi).2⟩⟩
/-- AppendRune onto bytes that the call has made. -/
theorem appendRune (B : Nat) (v : Value) (l : List UInt8) (r : Int) (h0 : 0 ≤ r) (h1 : r ≤ 1114111) (w : World) (hown : Owns w B v l) (hlen : l.length + 4 ≤ 140737488355328) (hB : B ≤ w.heap.size) :
    Calls Tryd.prog 11 #[v, .int .i32 r] w fun e w' => ∃ v', e = .returned v' ∧ Owns w' B v' (l ++ Lib.encodeRune r) ∧ Below B w w' := by
  refine (Tryd.utf8_AppendRune_plain B v l.length (l.map by8) r (by omega) (by omega) w hown hlen hB).mono ?_
  rintro e w' ⟨v', rfl, h, o, hg⟩
  refine ⟨v', rfl, ?_, ((Below.refl B w).alloc hB o).grown hg (by simp; omega) hown.block⟩
  unfold Owns
  rw [List.length_append, List.map_append, ← cells_by8, ← Lib.runeCells_length]
  exact h
/-- What the reference's decoder tells of the rest of a text. -/
theorem decodeAt (s : ByteArray) (k : Nat) (hk : k < s.size) (R K : Nat) (hR : (dec s k).1 = R) (hK : (dec s k).2 = K) (w : World) (hT : Lib.Utf8Tabs 0 1 w) :
    Calls Tryd.prog 10 #[.string (s.extract k s.size)] w fun e w' => e = .returned (.tuple #[.int .i32 R, .int .i64 K]) ∧ Below w.heap.size w w' := by
  have h := Tryd.utf8_DecodeRuneInString (s.extract k s.size) w hT
  rw [dec_tail s k hk, hR, hK] at h
  exact h

set_option maxRecDepth 1000000 in
set_option maxHeartbeats 4000000 in
theorem refFold (s : ByteArray) (w : World) (hs : s.size + 4 ≤ 140737488355328) (hT : Lib.Utf8Tabs 0 1 w) (h2 : 2 ≤ w.heap.size) :
    Calls Tryd.prog 5 #[.string s] w fun e w' => e = .returned (.string (str (fold s 0))) ∧ Below w.heap.size w w' := by
  have HT : Hid (Lib.Utf8Tabs 0 1 w) := hT
  clear hT
  go_enter Tryd.func5, Tryd.ntmps5
  go_wp2
  go_loopw [3, 4] (fun v i wr => ∃ (k : Nat) (l : List UInt8) (v' : Value), v' = v ∧ i = .int .i64 k ∧ k ≤ s.size ∧ l ++ fold s k = fold s 0 ∧ l.length = k ∧ Owns wr w.heap.size v' l ∧ Below w.heap.size w wr) (fun _ i _ => s.size - (intOf i).toNat)
  case atStart => exact ⟨0, [], _, rfl, rfl, by omega, rfl, rfl, owns_nil _ _, Below.refl _ _⟩
  case round =>
    obtain ⟨k, l, v0, rfl, rfl, hk, hl, hn, hown, hbel⟩ := hrel
    have HL : Hid (l ++ fold s k = fold s 0) := hl
    have HN : Hid (l.length = k) := hn
    have HO : Hid (Owns wr w.heap.size v0 l) := hown
    have HBL : Hid (Below w.heap.size w wr) := hbel
    have hsz : w.heap.size ≤ wr.heap.size := hbel.size
    clear hl hown hbel hn
    obtain ⟨ao, ac, rfl⟩ := HO.out.shape
    by_cases hlt : k < s.size
    · obtain ⟨R, hR⟩ : ∃ R, (dec s k).1 = R := ⟨_, rfl⟩
      obtain ⟨K, hK⟩ : ∃ K, (dec s k).2 = K := ⟨_, rfl⟩
      have hd := dec_pos s k hlt
      have HP : Hid (piece s k = if R = 65533 ∧ K = 1 then [s.get! k] else Lib.encodeRune (lowZ R)) := by show piece s k = _; rw [piece, hR, hK]
      have HS : Hid (fold s k = piece s k ++ fold s (k + K)) := by show fold s k = _; rw [fold_step s k hlt, hK]
      have HPL : Hid ((piece s k).length = K) := by show (piece s k).length = K; rw [piece_length s k hlt, hK]
      have cD : Hid (Calls Tryd.prog 10 #[.string (s.extract k s.size)] wr fun e w' => e = .returned (.tuple #[.int .i32 R, .int .i64 K]) ∧ Below wr.heap.size wr w') := decodeAt s k hlt R K hR hK wr (tabs_below HT.out HBL.out (by omega) (by omega))
      rw [hR, hK] at hd
      obtain ⟨hd1, hd2, hd3, hd4⟩ := hd
      clear hR hK
      have hkI : (k : Int) < (s.size : Int) := by omega
      by_cases hc : R = 65533 ∧ K = 1
      · obtain ⟨rfl, rfl⟩ := hc
        have HPc : Hid (piece s k = [s[k]'hlt]) := by show piece s k = _; rw [HP.out, if_pos ⟨rfl, rfl⟩, Utf8W.get!_of_lt s k hlt]
        clear HP
        go_wp2_with (first
          | (go_at_call 10; refine cD.out.mono ?_; rintro e w1 ⟨rfl, hb1⟩
             have HB1 : Hid (Below w.heap.size w w1) := HBL.out.trans (hb1.mono hsz)
             have hs1 : w.heap.size ≤ w1.heap.size := HB1.out.size
             have HO1 : Hid (Owns (w1.alloc (.cells #[.int .u8 ((s[k]'hlt).toNat : Int)] 5)) w.heap.size (.slice ao l.length ac) l) := (HO.out.below hb1).alloc _
             clear hb1)
          | (at_builtin; refine wpList_add rfl (.tmp 24) (.tmp 28) rfl w.heap.size _ l rfl HO1.out w1.heap.size 0 1 1 [s[k]'hlt] rfl rfl (one_bytes w1 (s[k]'hlt) _ rfl _ rfl) (by have := HN.out; simp; omega) (by simp; omega) ?_; intro v2 w2 hown2 hbel2 hnil2))
        have HO2 : Hid (Owns w2 w.heap.size v2 (l ++ [s[k]'hlt])) := hown2
        have HB2 : Hid (Below w.heap.size w w2) := (HB1.out.alloc hs1 _).trans hbel2
        clear hown2 hbel2 hnil2
        go_wp2
        go_roundw
        case rel => exact ⟨k + 1, l ++ [s[k]'hlt], _, rfl, by go_num, by omega, by rw [← HL.out, HS.out, HPc.out, List.append_assoc], by have := HN.out; simp; omega, HO2.out, HB2.out⟩
        case measure => simp [intOf]; omega
      · obtain ⟨L, hL⟩ : ∃ L, lowZ R = L := ⟨_, rfl⟩
        have HPc : Hid (piece s k = Lib.encodeRune L) := by show piece s k = _; rw [HP.out, if_neg hc, hL]
        have hlb := low_bound (r := (R : Int)) (by omega) (by omega)
        rw [hL] at hlb
        have cL : Hid (∀ w, Calls Tryd.prog 12 #[.int .i64 R] w fun e w' => e = .returned (.int .i64 L) ∧ w' = w) := by
          intro w; rw [← hL]; exact refLower _ w (by omega)
        have hw : wrap32 L = L := by unfold wrap32; omega
        clear HP hL
        by_cases hr : R = 65533
        · have hk1 : ((K : Int) == 1) = false := by rw [beq_eq_false_iff_ne]; omega
          have hr1 : ((R : Int) == 65533) = true := by rw [beq_iff_eq]; omega
          clear hc hr
          go_wp2_with (first
            | (go_at_call 10; refine cD.out.mono ?_; rintro e w1 ⟨rfl, hb1⟩
               have HB1 : Hid (Below w.heap.size w w1) := HBL.out.trans (hb1.mono hsz)
               have hs1 : w.heap.size ≤ w1.heap.size := HB1.out.size
               have HO1 : Hid (Owns w1 w.heap.size (.slice ao l.length ac) l) := HO.out.below hb1
               clear hb1)
            | (go_at_call 12; refine (cL.out w1).mono ?_; rintro e w2 ⟨rfl, rfl⟩)
            | (go_at_call 11; refine (appendRune w.heap.size _ l L hlb.1 hlb.2 _ HO1.out (by have := HN.out; omega) hs1).mono ?_; rintro e w3 ⟨v3, rfl, ho3, hb3⟩
               have HO3 : Hid (Owns w3 w.heap.size v3 (l ++ Lib.encodeRune L)) := ho3
               have HB3 : Hid (Below w.heap.size w w3) := HB1.out.trans hb3
               clear ho3 hb3))
          go_roundw
          case rel => exact ⟨k + K, l ++ Lib.encodeRune L, _, rfl, by go_num, by omega, by rw [← HL.out, HS.out, HPc.out, List.append_assoc], by rw [List.length_append, ← HPc.out, HPL.out, HN.out], HO3.out, HB3.out⟩
          case measure => simp [intOf]; omega
        · have hr1 : ((R : Int) == 65533) = false := by rw [beq_eq_false_iff_ne]; omega
          clear hc hr
          go_wp2_with (first
            | (go_at_call 10; refine cD.out.mono ?_; rintro e w1 ⟨rfl, hb1⟩
               have HB1 : Hid (Below w.heap.size w w1) := HBL.out.trans (hb1.mono hsz)
               have hs1 : w.heap.size ≤ w1.heap.size := HB1.out.size
               have HO1 : Hid (Owns w1 w.heap.size (.slice ao l.length ac) l) := HO.out.below hb1
               clear hb1)
            | (go_at_call 12; refine (cL.out w1).mono ?_; rintro e w2 ⟨rfl, rfl⟩)
            | (go_at_call 11; refine (appendRune w.heap.size _ l L hlb.1 hlb.2 _ HO1.out (by have := HN.out; omega) hs1).mono ?_; rintro e w3 ⟨v3, rfl, ho3, hb3⟩
               have HO3 : Hid (Owns w3 w.heap.size v3 (l ++ Lib.encodeRune L)) := ho3
               have HB3 : Hid (Below w.heap.size w w3) := HB1.out.trans hb3
               clear ho3 hb3))
          go_roundw
          case rel => exact ⟨k + K, l ++ Lib.encodeRune L, _, rfl, by go_num, by omega, by rw [← HL.out, HS.out, HPc.out, List.append_assoc], by rw [List.length_append, ← HPc.out, HPL.out, HN.out], HO3.out, HB3.out⟩
          case measure => simp [intOf]; omega
    · have HF : Hid (l = fold s 0) := by
        have h := HL.out
        rw [fold_end s k (by omega), List.append_nil] at h; exact h
      have hte := owns_text HO.out
      go_wp2
      go_ret
      exact ⟨by rw [← HF.out]; rfl, HBL.out⟩
end Go.Proofs.YtpggbpbibbhepaaDoor
