/-
  CodeSwells: the walk.
-/
import Derived.Test.YtppmjdmdflcoiabDoorSw3
namespace Go.Proofs.YtppmjdmdflcoiabDoor
open Go.ChangeShapes Go.WideShapes Go.ChangeAt Go.RowKit
set_option linter.unusedVariables false

theorem refSwell_i (l : List UInt8) (most : Int) (n B cap : Nat) (w : World) (hn : n = l.length) (hl : l.length ≤ 140737488355328) (hM : most ≤ 1048576) (hB : B < w.heap.size) (hc : BytesAt w B 0 l) :
    Calls Tryd.prog 8 #[.slice (some ⟨B, 0, none⟩) n cap, .int .i64 most] w (CSPost (swellI most l) w) := by
  by_cases h : most < 0
  · rw [swellI, if_pos h]
    exact refSwell_neg most _ w h
  · obtain ⟨M, rfl⟩ := Int.eq_ofNat_of_zero_le (show 0 ≤ most by omega)
    rw [swellI, if_neg h]
    exact refSwell_any l n B cap M w hn hl (by omega) hB hc
theorem owns_grown {w w' : World} {base B : Nat} {v : Value} {l : List UInt8} (h : Owns w base v l) (hB : B < base) (hg : w.grownBy w' (some B)) : Owns w' base v l := by
  refine ⟨h.1, ?_⟩
  rcases h.2 with hn | ⟨g, c, cur, h3, h4, h5, h6⟩
  · exact .inl hn
  · exact .inr ⟨g, c, cur, h3, h4, by rw [hg.block g (Array.getElem?_eq_some_iff.1 h5).1 (by intro e; have := Option.some.inj e; omega)]; exact h5, h6⟩

set_option maxRecDepth 1000000 in
set_option maxHeartbeats 1600000 in
theorem codeSwells_walk (a : ByteArray) (longest : Int) (ha : a.size ≤ 140737488355328) (w : World) (hT : ErrT w) :
    Calls Tryd.prog 3 #[.string a, .int .i64 longest] w fun e w' => e = .returned (.bool true) ∧ Below w.heap.size w w' := by
  have kc := run_bw
  have ks := bw_size
  have HL : Hid ((bl a).length = a.size) := bl_length a
  have HT : Hid (ErrT w) := hT
  have hgz := hT.size
  clear hT
  have HB0 : Hid (Below w.heap.size w (bw w a)) := below_bw (Below.refl _ _) (Nat.le_refl _) a
  have hl47 : (bl a).length ≤ 140737488355328 := by rw [HL.out]; exact ha
  have HL47 : Hid ((bl a).length ≤ 140737488355328) := hl47
  clear hl47
  by_cases hlo : longest > 1048576
  · have hm : (1048576 : Int) ≤ 1048576 := Int.le_refl _
    have HCS : Hid (∀ (B cap : Nat) (w : World), (bl a).length ≤ cap → B < w.heap.size → BytesAt w B 0 (bl a) → ErrT w → Calls Tryd.prog 6 #[.slice (some ⟨B, 0, none⟩) a.size cap, .int .i64 (1048576)] w (CSPost (swellI (1048576) (bl a)) w)) := fun B cap w h1 h2 h3 h4 => codeSwell_any (bl a) (1048576) _ B cap w HL.out.symm HL47.out h1 hm h2 h3 h4
    have HRS : Hid (∀ (B cap : Nat) (w : World), B < w.heap.size → BytesAt w B 0 (bl a) → Calls Tryd.prog 8 #[.slice (some ⟨B, 0, none⟩) a.size cap, .int .i64 (1048576)] w (CSPost (swellI (1048576) (bl a)) w)) := fun B cap w h2 h3 => refSwell_i (bl a) (1048576) _ B cap w HL.out.symm HL47.out hm h2 h3
    obtain ⟨T, hTT⟩ : ∃ T, T = swellI (1048576) (bl a) := ⟨_, rfl⟩
    rw [← hTT] at HCS HRS
    clear hTT hm
    go_enter Tryd.func3, Tryd.ntmps3
    go_wp2_with fail
    refine (lent_n (bl a) _ _ 0 _ (bw w a) HL.out.symm HL47.out (by rw [bw_size]; omega) (bw_bytes w a)).mono ?_
    rintro e w1 ⟨rfl, hB, hbel⟩
    rw [bw_size] at hB hbel
    have HB1 : Hid (Below w.heap.size w w1) := HB0.out.trans (hbel.mono (by omega))
    have HBK : Hid (Block w1 (w.heap.size + 1) (bl a ++ List.replicate 9 77)) := hB
    have hz1 : w.heap.size + 1 < w1.heap.size := hB.size
    clear hB hbel
    go_wp2_with fail
    refine (HCS.out _ _ w1 (by rw [HL.out]; omega) hz1 HBK.out.bytes (HT.out.below HB1.out hgz)).mono ?_
    rintro e w2 ⟨v, l, rfl, hl, hown, hb2⟩
    have HLL : Hid (l = if T.1 = 0 then T.2 else []) := hl
    have HB2 : Hid (Below w1.heap.size w1 w2) := hb2
    have HO2 : Hid (Owns w2 w1.heap.size v l) := hown
    have hz2 : w1.heap.size ≤ w2.heap.size := hb2.size
    clear hb2 hown hl
    have b3 := below_bw (Below.refl w2.heap.size w2) (Nat.le_refl _) a
    have HB3 : Hid (Below w.heap.size w (bw w2 a)) := (HB1.out.trans (HB2.out.mono (by omega))).trans (b3.mono (by omega))
    have HBK3 : Hid (Block (bw w2 a) (w.heap.size + 1) (bl a ++ List.replicate 9 77)) := (HBK.out.below HB2.out hz1).below b3 (by omega)
    have HO3 : Hid (Owns (bw w2 a) w1.heap.size v l) := HO2.out.below b3
    clear b3
    go_wp2_with fail
    refine (back_n (bl a) _ _ (w.heap.size + 1) _ 0 _ (bw w2 a) HL.out.symm rfl HL47.out HBK3.out (bw_bytes w2 a)).mono ?_
    rintro e w3 ⟨rfl, hg⟩
    have HB4 : Hid (Below w.heap.size w w3) := HB3.out.trans (grown_below hg (by omega) (by rw [bw_size]; omega))
    have HO4 : Hid (Owns w3 w1.heap.size v l) := owns_grown HO3.out (by omega) hg
    clear hg
    have b5 := below_bw (Below.refl w3.heap.size w3) (Nat.le_refl _) a
    have HB5 : Hid (Below w.heap.size w (bw w3 a)) := HB4.out.trans (b5.mono HB4.out.size)
    have HO5 : Hid (Owns (bw w3 a) w1.heap.size v l) := HO4.out.below b5
    clear b5
    go_wp2_with fail
    refine (HRS.out _ _ (bw w3 a) (by rw [bw_size]; omega) (bw_bytes w3 a)).mono ?_
    rintro e w4 ⟨u, l', rfl, hl', hown, hb6⟩
    obtain rfl : l' = l := hl'.trans HLL.out.symm
    have HB6 : Hid (Below w.heap.size w w4) := HB5.out.trans (hb6.mono HB5.out.size)
    have HO6 : Hid (Owns w4 w1.heap.size v l') := HO5.out.below hb6
    have HOU : Hid (Owns w4 (bw w3 a).heap.size u l') := hown
    clear hb6 hown hl'
    obtain ⟨c, hc⟩ : ∃ c, c = T.1 := ⟨_, rfl⟩
    rw [← hc]
    clear hc
    go_wp2_with (go_at_call 9; refine (same_owns l' _ _ _ _ _ HO6.out HOU.out).mono ?_; rintro e w5 ⟨rfl, rfl⟩)
    go_ret
    exact ⟨rfl, HB6.out⟩
  · have hm : longest ≤ 1048576 := by omega
    have HCS : Hid (∀ (B cap : Nat) (w : World), (bl a).length ≤ cap → B < w.heap.size → BytesAt w B 0 (bl a) → ErrT w → Calls Tryd.prog 6 #[.slice (some ⟨B, 0, none⟩) a.size cap, .int .i64 (longest)] w (CSPost (swellI (longest) (bl a)) w)) := fun B cap w h1 h2 h3 h4 => codeSwell_any (bl a) (longest) _ B cap w HL.out.symm HL47.out h1 hm h2 h3 h4
    have HRS : Hid (∀ (B cap : Nat) (w : World), B < w.heap.size → BytesAt w B 0 (bl a) → Calls Tryd.prog 8 #[.slice (some ⟨B, 0, none⟩) a.size cap, .int .i64 (longest)] w (CSPost (swellI (longest) (bl a)) w)) := fun B cap w h2 h3 => refSwell_i (bl a) (longest) _ B cap w HL.out.symm HL47.out hm h2 h3
    obtain ⟨T, hTT⟩ : ∃ T, T = swellI (longest) (bl a) := ⟨_, rfl⟩
    rw [← hTT] at HCS HRS
    clear hTT hm
    go_enter Tryd.func3, Tryd.ntmps3
    go_wp2_with fail
    refine (lent_n (bl a) _ _ 0 _ (bw w a) HL.out.symm HL47.out (by rw [bw_size]; omega) (bw_bytes w a)).mono ?_
    rintro e w1 ⟨rfl, hB, hbel⟩
    rw [bw_size] at hB hbel
    have HB1 : Hid (Below w.heap.size w w1) := HB0.out.trans (hbel.mono (by omega))
    have HBK : Hid (Block w1 (w.heap.size + 1) (bl a ++ List.replicate 9 77)) := hB
    have hz1 : w.heap.size + 1 < w1.heap.size := hB.size
    clear hB hbel
    go_wp2_with fail
    refine (HCS.out _ _ w1 (by rw [HL.out]; omega) hz1 HBK.out.bytes (HT.out.below HB1.out hgz)).mono ?_
    rintro e w2 ⟨v, l, rfl, hl, hown, hb2⟩
    have HLL : Hid (l = if T.1 = 0 then T.2 else []) := hl
    have HB2 : Hid (Below w1.heap.size w1 w2) := hb2
    have HO2 : Hid (Owns w2 w1.heap.size v l) := hown
    have hz2 : w1.heap.size ≤ w2.heap.size := hb2.size
    clear hb2 hown hl
    have b3 := below_bw (Below.refl w2.heap.size w2) (Nat.le_refl _) a
    have HB3 : Hid (Below w.heap.size w (bw w2 a)) := (HB1.out.trans (HB2.out.mono (by omega))).trans (b3.mono (by omega))
    have HBK3 : Hid (Block (bw w2 a) (w.heap.size + 1) (bl a ++ List.replicate 9 77)) := (HBK.out.below HB2.out hz1).below b3 (by omega)
    have HO3 : Hid (Owns (bw w2 a) w1.heap.size v l) := HO2.out.below b3
    clear b3
    go_wp2_with fail
    refine (back_n (bl a) _ _ (w.heap.size + 1) _ 0 _ (bw w2 a) HL.out.symm rfl HL47.out HBK3.out (bw_bytes w2 a)).mono ?_
    rintro e w3 ⟨rfl, hg⟩
    have HB4 : Hid (Below w.heap.size w w3) := HB3.out.trans (grown_below hg (by omega) (by rw [bw_size]; omega))
    have HO4 : Hid (Owns w3 w1.heap.size v l) := owns_grown HO3.out (by omega) hg
    clear hg
    have b5 := below_bw (Below.refl w3.heap.size w3) (Nat.le_refl _) a
    have HB5 : Hid (Below w.heap.size w (bw w3 a)) := HB4.out.trans (b5.mono HB4.out.size)
    have HO5 : Hid (Owns (bw w3 a) w1.heap.size v l) := HO4.out.below b5
    clear b5
    go_wp2_with fail
    refine (HRS.out _ _ (bw w3 a) (by rw [bw_size]; omega) (bw_bytes w3 a)).mono ?_
    rintro e w4 ⟨u, l', rfl, hl', hown, hb6⟩
    obtain rfl : l' = l := hl'.trans HLL.out.symm
    have HB6 : Hid (Below w.heap.size w w4) := HB5.out.trans (hb6.mono HB5.out.size)
    have HO6 : Hid (Owns w4 w1.heap.size v l') := HO5.out.below hb6
    have HOU : Hid (Owns w4 (bw w3 a).heap.size u l') := hown
    clear hb6 hown hl'
    obtain ⟨c, hc⟩ : ∃ c, c = T.1 := ⟨_, rfl⟩
    rw [← hc]
    clear hc
    go_wp2_with (go_at_call 9; refine (same_owns l' _ _ _ _ _ HO6.out HOU.out).mono ?_; rintro e w5 ⟨rfl, rfl⟩)
    go_ret
    exact ⟨rfl, HB6.out⟩
end Go.Proofs.YtppmjdmdflcoiabDoor
