/-
  CodeReads: the walk.
-/
import Derived.Test.YtppmjdmdflcoiaaDoorRd3
namespace Go.Proofs.YtppmjdmdflcoiaaDoor
open Go.ChangeShapes Go.WideShapes Go.ChangeAt Go.RowKit
set_option linter.unusedVariables false

theorem PSlice.grown {w w' : World} {base B : Nat} {v : Value} {ps : List PartD} (h : POwns w base v ps) (hB : B < base) (hg : w.grownBy w' (some B)) : PSlice w' v ps := by
  have h' : POwns w' base v ps := by
    refine ⟨h.1, ?_⟩
    rcases h.2 with hn | ⟨g, c, cur, h3, h4, h5, h6⟩
    · exact .inl hn
    · exact .inr ⟨g, c, cur, h3, h4, by rw [hg.block g (Array.getElem?_eq_some_iff.1 h5).1 (by intro e; have := Option.some.inj e; omega)]; exact h5, h6⟩
  exact h'.slice

set_option maxRecDepth 1000000 in
set_option maxHeartbeats 1600000 in
theorem codeReads_walk (a : ByteArray) (ha : a.size ≤ 140737488355328) (w : World) (hT : ErrT w) :
    Calls Tryd.prog 7 #[.string a] w fun e w' => e = .returned (.bool true) ∧ Below w.heap.size w w' := by
  have kc := run_bw
  have ks := bw_size
  have HL : Hid ((bl a).length = a.size) := bl_length a
  have HT : Hid (ErrT w) := hT
  have hgz := hT.size
  clear hT
  have HB0 : Hid (Below w.heap.size w (bw w a)) := below_bw (Below.refl _ _) (Nat.le_refl _) a
  have hl47 : (bl a).length ≤ 140737488355328 := by rw [HL.out]; exact ha
  have HL47 : Hid ((bl a).length ≤ 140737488355328) := hl47
  clear hl47
  go_enter Tryd.func7, Tryd.ntmps7
  go_wp2_with fail
  refine (lent_n (bl a) _ _ 0 _ (bw w a) HL.out.symm HL47.out (by rw [bw_size]; omega) (bw_bytes w a)).mono ?_
  rintro e w1 ⟨rfl, hB, hbel⟩
  rw [bw_size] at hB hbel
  have HB1 : Hid (Below w.heap.size w w1) := HB0.out.trans (hbel.mono (by omega))
  have HBK : Hid (Block w1 (w.heap.size + 1) (bl a ++ List.replicate 9 77)) := hB
  have hz1 : w.heap.size + 1 < w1.heap.size := hB.size
  clear hB hbel
  go_wp2_with fail
  refine (codeParts_any (bl a) _ _ _ w1 HL.out.symm HL47.out (by rw [HL.out]; omega) hz1 HBK.out.bytes (HT.out.below HB1.out hgz)).mono ?_
  rintro e w2 ⟨hb2, ⟨ps, v, rfl, h1, h2, h3, h4⟩ | ⟨rfl, h⟩⟩
  · have HB2 : Hid (Below w1.heap.size w1 w2) := hb2
    have H1 : Hid (POwns w2 w1.heap.size v ps) := h1
    have H2 : Hid (Reads (bl a) ps) := h2
    have H3 : Hid (∀ p ∈ ps, p.wf) := h3
    have hz2 : w1.heap.size ≤ w2.heap.size := hb2.size
    clear hb2 h1 h2 h3 h4
    have b3 := below_bw (Below.refl w2.heap.size w2) (Nat.le_refl _) a
    have HB3 : Hid (Below w.heap.size w (bw w2 a)) := (HB1.out.trans (HB2.out.mono (by omega))).trans (b3.mono (by omega))
    have HBK3 : Hid (Block (bw w2 a) (w.heap.size + 1) (bl a ++ List.replicate 9 77)) := (HBK.out.below HB2.out hz1).below b3 (by omega)
    have H13 : Hid (POwns (bw w2 a) w1.heap.size v ps) := H1.out.below b3
    clear b3
    go_wp2_with fail
    refine (back_n (bl a) _ _ (w.heap.size + 1) _ 0 _ (bw w2 a) HL.out.symm rfl HL47.out HBK3.out (bw_bytes w2 a)).mono ?_
    rintro e w3 ⟨rfl, hg⟩
    have HB4 : Hid (Below w.heap.size w w3) := HB3.out.trans (grown_below hg (by omega) (by rw [bw_size]; omega))
    have HPS : Hid (PSlice w3 v ps) := PSlice.grown H13.out (by omega) hg
    have HCK : Hid (Calls Tryd.prog 13 #[v] w3 (CodeKeyPost ps w3)) := codeKey_any ps v w3 HPS.out H3.out (HT.out.below HB4.out hgz)
    have HK0 : Hid (keyErr ps = 0) := by
      show keyErr ps = 0
      rw [keyErr, if_neg (by have := H2.out.2.1; omega)]; exact H2.out.1
    clear hg
    go_wp2_with fail
    refine HCK.out.mono ?_
    rintro e w4 ⟨u, rfl, ho, hno, hb4⟩
    rw [HK0.out]
    have HOW : Hid (Owns w4 w3.heap.size u (bl a)) := by
      have h := ho HK0.out
      rw [H2.out.2.2.2] at h; exact h
    have HB5 : Hid (Below w.heap.size w w4) := HB4.out.trans (hb4.mono HB4.out.size)
    clear ho hno hb4
    obtain ⟨ao, cp, rfl⟩ := HOW.out.shape
    have hcv := owns_text HOW.out
    rw [str_bl, HL.out] at hcv
    rw [HL.out]
    go_wp2
    go_ret
    exact ⟨rfl, HB5.out⟩
  · have HB2 : Hid (Below w1.heap.size w1 w2) := hb2
    have hz2 : w1.heap.size ≤ w2.heap.size := hb2.size
    clear hb2 h
    have b3 := below_bw (Below.refl w2.heap.size w2) (Nat.le_refl _) a
    have HB3 : Hid (Below w.heap.size w (bw w2 a)) := (HB1.out.trans (HB2.out.mono (by omega))).trans (b3.mono (by omega))
    have HBK3 : Hid (Block (bw w2 a) (w.heap.size + 1) (bl a ++ List.replicate 9 77)) := (HBK.out.below HB2.out hz1).below b3 (by omega)
    clear b3
    go_wp2_with fail
    refine (back_n (bl a) _ _ (w.heap.size + 1) _ 0 _ (bw w2 a) HL.out.symm rfl HL47.out HBK3.out (bw_bytes w2 a)).mono ?_
    rintro e w3 ⟨rfl, hg⟩
    have HB4 : Hid (Below w.heap.size w w3) := HB3.out.trans (grown_below hg (by omega) (by rw [bw_size]; omega))
    clear hg
    go_wp2
    go_ret
    exact ⟨rfl, HB4.out⟩
end Go.Proofs.YtppmjdmdflcoiaaDoor
