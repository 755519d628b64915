/-
  CodeKeys: the walk.
-/
import Derived.Test.YtppmjdmdflcoiaaDoorCk1
import Derived.Test.YtppmjdmdflcoiaaDoorLentN
import Derived.Test.YtppmjdmdflcoiaaDoorCr
namespace Go.Proofs.YtppmjdmdflcoiaaDoor
open Go.ChangeShapes Go.WideShapes Go.ChangeAt Go.RowKit
set_option linter.unusedVariables false

theorem PSlice.take {w : World} {b off cap : Nat} {ps : List PartD} (n : Nat) (hn : n ≤ ps.length) (hb : b < w.heap.size) (hc : PartsAt w b off ps) : PSlice w (.slice (some ⟨b, off, none⟩) n cap) (ps.take n) := by
  refine .inl ⟨b, off, cap, by rw [List.length_take, Nat.min_eq_left hn], hb, ?_⟩
  intro i hi
  have hi' : i < ps.length := by rw [List.length_take] at hi; omega
  have h := hc i hi'
  simpa [List.getElem_take] using h
theorem POwns.psBelow {w w' : World} {base : Nat} {v : Value} {ps : List PartD} (h : POwns w base v ps) (hb : Below w.heap.size w w') : PSlice w' v ps := (h.below hb).slice
/-- lent, of bytes that Key has made (nil or not). -/
theorem lent_key (l : List UInt8) (v : Value) (base : Nat) (w : World) (hown : Owns w base v l) (hl : l.length ≤ 140737488355328) :
    Calls Tryd.prog 8 #[v] w fun e w' => e = .returned (.slice (some ⟨w.heap.size, 0, none⟩) l.length (l.length + 9)) ∧ Block w' w.heap.size (l ++ List.replicate 9 77) ∧ Below w.heap.size w w' := by
  by_cases hv : v = .slice none 0 0
  · subst hv
    obtain ⟨rfl, _, _⟩ := hown.none
    exact lent_nil w
  · exact lent_own l v base w hown hv hl
theorem back_key (l : List UInt8) (B c : Nat) (v : Value) (base : Nat) (w : World) (hc : c = l.length + 9) (hown : Owns w base v l) (hB : Block w B (l ++ List.replicate 9 77)) (hl : l.length ≤ 140737488355328) :
    Calls Tryd.prog 10 #[.slice (some ⟨B, 0, none⟩) l.length c, v] w fun e w' => e = .returned (.bool true) ∧ w.grownBy w' (some B) := by
  subst hc
  obtain ⟨ao, cp, rfl⟩ := hown.shape
  cases ao with
  | none =>
    obtain ⟨rfl, _, rfl⟩ := hown.none
    exact back_nil B w hB
  | some x =>
    obtain ⟨g, rfl, _, _, hg, _⟩ := hown.some
    exact back_any l B g 0 cp w hl hB hown.at
theorem PSlice.keep {w w' : World} {B : Nat} {v : Value} {ps : List PartD} (h : PSlice w v ps) (hg : w.grownBy w' (some B)) (hne : ∀ b off cap, v = .slice (some ⟨b, off, none⟩) ps.length cap → b ≠ B) : PSlice w' v ps := by
  rcases h with ⟨b, off, cap, rfl, hb, hc⟩ | h
  · have hbe := hne b off cap rfl
    have hk : ∀ j, w'.cell? ⟨b, j, none⟩ = w.cell? ⟨b, j, none⟩ := fun j => World.cell?_of_block (a := ⟨b, j, none⟩) (hg.block b hb (by simpa using hbe))
    exact .inl ⟨b, off, cap, rfl, Nat.lt_of_lt_of_le hb hg.size, fun i hi => ⟨(hk _).trans (hc i hi).1, (hk _).trans (hc i hi).2.1, (hk _).trans (hc i hi).2.2⟩⟩
  · exact .inr h

set_option maxRecDepth 1000000 in
set_option maxHeartbeats 3200000 in
theorem codeKeys_walk (ps : List PartD) (v : Value) (w : World) (hwf : ∀ p ∈ ps, p.wf) (hps : ps.length ≤ 140737488355328) (hv : PSlice w v ps) (hcap : ∀ b off cap, v = .slice (some ⟨b, off, none⟩) ps.length cap → ps.length ≤ cap) (hT : ErrT w) :
    Calls Tryd.prog 5 #[v] w fun e w' => e = .returned (.bool true) ∧ Below w.heap.size w w' := by
  have HT : Hid (ErrT w) := hT
  have hgz := hT.size
  clear hT
  have hown0 : Hid (POwns (w.alloc (.cells #[] 54)) w.heap.size (.slice (some ⟨w.heap.size, 0, none⟩) 0 0) []) := World.ownsRow_lit w #[] 0 (Nat.le_refl _) (by unfold maxLen; omega) rfl
  have HB0 : Hid (Below w.heap.size w (w.alloc (.cells #[] 54))) := (Below.refl _ _).alloc (Nat.le_refl _) _
  by_cases hlong : 1000 < ps.length
  · rcases hv with ⟨b, off, cap, rfl, hb, hc⟩ | ⟨ao, cp, rfl, _, rfl⟩
    · have hlong' : (1000 : Int) < (ps.length : Int) := by omega
      have HV : Hid (PSlice w (.slice (some ⟨b, off, none⟩) 1000 cap) (ps.take 1000)) := PSlice.take 1000 (by omega) hb hc
      have HQ : Hid (∀ q ∈ ps.take 1000, q.wf) := fun q hq => hwf q (List.mem_of_mem_take hq)
      have hql : (ps.take 1000).length ≤ 1000 := by rw [List.length_take]; omega
      have hown2 := hown0
      clear hown2
      have HV0 : Hid (PSlice (w.alloc (.cells #[] 54)) (.slice (some ⟨b, off, none⟩) 1000 cap) (ps.take 1000)) := HV.out.below HB0.out
      have hqe : Hid (keyErr (ps.take 1000) = 14) := if_pos (by rw [List.length_take]; omega)
      obtain ⟨QS, hQS⟩ : ∃ qs, qs = ps.take 1000 := ⟨_, rfl⟩
      rw [← hQS] at HV HQ hql HV0 hqe
      have hcap1 : (1000 : Int) ≤ (cap : Int) := by have := hcap b off cap rfl; omega
      clear hQS hwf hc hcap
      go_enter Tryd.func5, Tryd.ntmps5
      go_wp2_with (at_builtin; refine wpList_addPS rfl (.tmp 15) (.tmp 16) rfl w.heap.size _ [] rfl hown0.out _ QS rfl HV0.out (by simp; omega) (by simp) ?_; intro v2 w2 hown2 hbel2 hnil2)
      have HOW2 : Hid (POwns w2 w.heap.size v2 QS) := by rw [List.nil_append] at hown2; exact hown2
      have HB2 : Hid (Below w.heap.size w w2) := HB0.out.trans hbel2
      have hz2 : w.heap.size ≤ w2.heap.size := HB2.out.size
      clear hown2 hbel2 hnil2
      refine (codeKey_any QS v2 w2 HOW2.out.slice HQ.out (HT.out.below HB2.out hgz)).mono ?_
      rintro e w3 ⟨u, rfl, ho, hu, hb3⟩
      have HO3 : Hid (keyErr QS = 0 → Owns w3 w2.heap.size u (encKey QS)) := ho
      have HU3 : Hid (keyErr QS ≠ 0 → u = .slice none 0 0) := hu
      have HB3 : Hid (Below w2.heap.size w2 w3) := hb3
      have HBW3 : Hid (Below w.heap.size w w3) := HB2.out.trans (hb3.mono hz2)
      have hz3 : w2.heap.size ≤ w3.heap.size := hb3.size
      clear ho hu hb3
      obtain ⟨E, hE⟩ : ∃ E, E = keyErr QS := ⟨_, rfl⟩
      rw [← hE]
      have HE : Hid (E = keyErr QS) := hE
      clear hE
      go_wp2_with fail
      refine (refParts_ps QS _ w3 HQ.out (HV.out.below HBW3.out)).mono ?_
      rintro e w4 ⟨rfl, hb4⟩
      rw [← HE.out]
      have HB4 : Hid (Below w3.heap.size w3 w4) := hb4
      have HBW4 : Hid (Below w.heap.size w w4) := HBW3.out.trans (hb4.mono (by omega))
      have hz4 : w3.heap.size ≤ w4.heap.size := hb4.size
      have HPS4 : Hid (PSlice w4 v2 QS) := (HOW2.out.below (HB3.out.trans (hb4.mono hz3))).slice
      clear hb4
      go_wp2_with fail
      refine (order_ps QS QS _ _ w4 (by omega) (by omega) HPS4.out (HV.out.below HBW4.out)).mono ?_
      rintro e w5 ⟨r, rfl, hr, hb5⟩
      have hr0 := ordR_same hr
      subst hr0
      have HB5 : Hid (Below w4.heap.size w4 w5) := hb5
      have HBW5 : Hid (Below w.heap.size w w5) := HBW4.out.trans (hb5.mono (by omega))
      have hz5 : w4.heap.size ≤ w5.heap.size := hb5.size
      clear hr hb5
      have hEE : E = 14 := HE.out.trans hqe.out
      subst hEE
      have hun := HU3.out (by rw [← HE.out]; decide)
      subst hun
      go_wp2
      go_ret
      exact ⟨rfl, HBW5.out⟩
    · simp at hlong
  · obtain ⟨ao, cp, rfl⟩ := hv.shape
    have hlong' : ¬ (1000 : Int) < (ps.length : Int) := by omega
    have HV : Hid (PSlice w (.slice ao ps.length cp) ps) := hv
    have HV0 : Hid (PSlice (w.alloc (.cells #[] 54)) (.slice ao ps.length cp) ps) := hv.below HB0.out
    have HQ : Hid (∀ q ∈ ps, q.wf) := hwf
    clear hwf hv hcap
    obtain ⟨QS, hQS⟩ : ∃ qs, qs = ps := ⟨_, rfl⟩
    rw [← hQS] at HV HQ HV0 hlong hlong' hps ⊢
    clear hQS
    go_enter Tryd.func5, Tryd.ntmps5
    go_wp2_with (at_builtin; refine wpList_addPS rfl (.tmp 15) (.tmp 16) rfl w.heap.size _ [] rfl hown0.out _ QS rfl HV0.out (by simp; omega) (by simp) ?_; intro v2 w2 hown2 hbel2 hnil2)
    have HOW2 : Hid (POwns w2 w.heap.size v2 QS) := by rw [List.nil_append] at hown2; exact hown2
    have HB2 : Hid (Below w.heap.size w w2) := HB0.out.trans hbel2
    have hz2 : w.heap.size ≤ w2.heap.size := HB2.out.size
    clear hown2 hbel2 hnil2
    refine (codeKey_any QS v2 w2 HOW2.out.slice HQ.out (HT.out.below HB2.out hgz)).mono ?_
    rintro e w3 ⟨u, rfl, ho, hu, hb3⟩
    have HO3 : Hid (keyErr QS = 0 → Owns w3 w2.heap.size u (encKey QS)) := ho
    have HU3 : Hid (keyErr QS ≠ 0 → u = .slice none 0 0) := hu
    have HB3 : Hid (Below w2.heap.size w2 w3) := hb3
    have HBW3 : Hid (Below w.heap.size w w3) := HB2.out.trans (hb3.mono hz2)
    have hz3 : w2.heap.size ≤ w3.heap.size := hb3.size
    clear ho hu hb3
    obtain ⟨E, hE⟩ : ∃ E, E = keyErr QS := ⟨_, rfl⟩
    rw [← hE]
    have HE : Hid (E = keyErr QS) := hE
    clear hE
    go_wp2_with fail
    refine (refParts_ps QS _ w3 HQ.out (HV.out.below HBW3.out)).mono ?_
    rintro e w4 ⟨rfl, hb4⟩
    rw [← HE.out]
    have HB4 : Hid (Below w3.heap.size w3 w4) := hb4
    have HBW4 : Hid (Below w.heap.size w w4) := HBW3.out.trans (hb4.mono (by omega))
    have hz4 : w3.heap.size ≤ w4.heap.size := hb4.size
    have HPS4 : Hid (PSlice w4 v2 QS) := (HOW2.out.below (HB3.out.trans (hb4.mono hz3))).slice
    clear hb4
    go_wp2_with fail
    refine (order_ps QS QS _ _ w4 (by omega) (by omega) HPS4.out (HV.out.below HBW4.out)).mono ?_
    rintro e w5 ⟨r, rfl, hr, hb5⟩
    have hr0 := ordR_same hr
    subst hr0
    have HB5 : Hid (Below w4.heap.size w4 w5) := hb5
    have HBW5 : Hid (Below w.heap.size w w5) := HBW4.out.trans (hb5.mono (by omega))
    have hz5 : w4.heap.size ≤ w5.heap.size := hb5.size
    clear hr hb5
    by_cases hE0 : E = 0
    · subst hE0
      have hk0 : Hid (keyErr QS = 0) := HE.out.symm
      have HO5 : Hid (Owns w5 w2.heap.size u (encKey QS)) := (HO3.out hk0.out).below (HB4.out.trans (HB5.out.mono hz4))
      have h8 : QS.length ≤ 8 := by
        have h := hk0.out
        unfold keyErr at h
        split at h
        · omega
        · omega
      have herr : errs QS = 0 := by have h := hk0.out; rw [keyErr, if_neg (by omega)] at h; exact h
      have hroom := roomOf_le QS herr
      have HRD : Hid (Reads (encKey QS) QS) := ⟨herr, h8, fun q hq => (HQ.out q hq).2.2.1, rfl⟩
      obtain ⟨L, hL⟩ : ∃ L, L = encKey QS := ⟨_, rfl⟩
      rw [← hL] at HO5 HRD hroom
      obtain ⟨uo, uc, hu⟩ := HO5.out.shape
      subst hu
      have hLl : L.length ≤ 140737488355328 := by omega
      have hRR : (L.length : Int) ≤ ((roomOf QS : Nat) : Int) := by omega
      clear hL herr HU3 HO3
      go_wp2_with fail
      refine (lent_key L _ w2.heap.size w5 HO5.out hLl).mono ?_
      rintro e w6 ⟨rfl, hB6, hb6⟩
      have HBK6 : Hid (Block w6 w5.heap.size (L ++ List.replicate 9 77)) := hB6
      have HB6 : Hid (Below w5.heap.size w5 w6) := hb6
      have HBW6 : Hid (Below w.heap.size w w6) := HBW5.out.trans (hb6.mono (by omega))
      have hz6 : w5.heap.size < w6.heap.size := hB6.size
      clear hB6 hb6
      go_wp2_with fail
      refine (codeParts_any L _ _ _ w6 rfl hLl (by omega) hz6 HBK6.out.bytes (HT.out.below HBW6.out hgz)).mono ?_
      rintro e w7 ⟨hb7, ⟨ps', v7, rfl, h1, h2, h3, h4⟩ | ⟨rfl, h⟩⟩
      · have hpq := h4 QS HRD.out
        subst hpq
        have HOW7 : Hid (POwns w7 w6.heap.size v7 QS) := h1
        have HB7 : Hid (Below w6.heap.size w6 w7) := hb7
        have HBW7 : Hid (Below w.heap.size w w7) := HBW6.out.trans (hb7.mono (by omega))
        have HBK7 : Hid (Block w7 w5.heap.size (L ++ List.replicate 9 77)) := HBK6.out.below hb7 hz6
        have HO7 : Hid (Owns w7 w2.heap.size (.slice uo L.length uc) L) := HO5.out.below (HB6.out.trans (hb7.mono (by omega)))
        have hz7 : w6.heap.size ≤ w7.heap.size := hb7.size
        clear h1 h2 h3 h4 hb7
        go_wp2_with fail
        refine (back_key L _ _ _ w2.heap.size w7 rfl HO7.out HBK7.out hLl).mono ?_
        rintro e w8 ⟨rfl, hg8⟩
        have HBW8 : Hid (Below w.heap.size w w8) := HBW7.out.trans (grown_below hg8 (by omega) (by omega))
        have HP8 : Hid (PSlice w8 v7 QS) := PSlice.grown HOW7.out (by omega) hg8
        have hz8 : w.heap.size ≤ w8.heap.size := HBW8.out.size
        clear hg8
        obtain ⟨vo, vc, hv7⟩ := HP8.out.shape
        subst hv7
        go_wp2_with fail
        refine (room_ps QS _ w8 hk0.out (HV.out.below HBW8.out)).mono ?_
        rintro e w9 ⟨rfl, rfl⟩
        go_wp2_with fail
        refine (order_ps QS QS _ _ w9 (by omega) (by omega) HP8.out (HV.out.below HBW8.out)).mono ?_
        rintro e w10 ⟨r, rfl, hr, hb10⟩
        have hr0 := ordR_same hr
        subst hr0
        have HBW10 : Hid (Below w.heap.size w w10) := HBW8.out.trans (hb10.mono hz8)
        clear hr hb10
        go_wp2
        go_ret
        exact ⟨rfl, HBW10.out⟩
      · exact absurd HRD.out (h QS)
    · have hun := HU3.out (by rw [← HE.out]; exact hE0)
      subst hun
      have hE0' : (E != 0) = true := by simpa using hE0
      go_wp2
      go_ret
      exact ⟨rfl, HBW5.out⟩
end Go.Proofs.YtppmjdmdflcoiaaDoor
