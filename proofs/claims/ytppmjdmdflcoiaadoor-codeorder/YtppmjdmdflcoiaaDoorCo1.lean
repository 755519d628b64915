/-
  CodeOrder: the walk.
-/
import Derived.Test.YtppmjdmdflcoiaaDoorCk2
import Derived.Test.YtppmjdmdflcoiaaDoorCo0
import Derived.Laws.Cover1
namespace Go.Proofs.YtppmjdmdflcoiaaDoor
open Go.ChangeShapes Go.WideShapes Go.ChangeAt Go.RowKit
set_option linter.unusedVariables false

theorem ret_int' {k : IntKind} {a b : Int} (h : a = b) : Ending.returned (.int k a) = .returned (.int k b) := by rw [h]
theorem tmod_facts (n : Int) (k : Nat) (hk : 0 < k) : (0 ≤ n.tmod k → n.tmod k = n % (k : Int)) ∧ (n.tmod k < 0 → n.tmod k + k = n % (k : Int)) ∧ -(k : Int) < n.tmod k ∧ n.tmod k < k := by
  have h1 := Int.tmod_eq_emod (a := n) (b := k)
  have h2 := Int.emod_nonneg n (b := (k : Int)) (by omega)
  have h3 := Int.emod_lt_of_pos n (b := (k : Int)) (by omega)
  have h4 : ((k : Int).natAbs : Int) = k := by omega
  split at h1 <;> omega
theorem pick_any (n : Int) (k : Nat) (hk : 0 < k) (hk2 : k ≤ 4611686018427387904) (h1 : -9223372036854775808 ≤ n) (h2 : n ≤ 9223372036854775807) (w : World) :
    Calls Tryd.prog 18 #[.int .i64 n, .int .i64 k] w fun e w' => e = .returned (.int .i64 (n % (k : Int))) ∧ w' = w := by
  obtain ⟨f1, f2, f3, f4⟩ := tmod_facts n k hk
  have hne : ((k : Int) == 0) = false := by simp; omega
  have hk0 : ¬ ((k : Int) = 0) := by omega
  by_cases hlt : n.tmod k < 0
  · have HE : Hid (n.tmod k + k = n % (k : Int)) := f2 hlt
    clear f1 f2
    go_enter Tryd.func18, Tryd.ntmps18
    go_wp2
    go_ret
    exact ⟨ret_int' HE.out, rfl⟩
  · have HE : Hid (n.tmod k = n % (k : Int)) := f1 (by omega)
    clear f1 f2
    go_enter Tryd.func18, Tryd.ntmps18
    go_wp2
    go_ret
    exact ⟨ret_int' HE.out, rfl⟩
/-- One of so many. -/
theorem pick_nat (n : Int) (k : Nat) (hk2 : k ≤ 140737488355328) (h1 : -9223372036854775808 ≤ n) (h2 : n ≤ 9223372036854775807) : ∃ j : Nat, j ≤ k ∧ ∀ w, Calls Tryd.prog 18 #[.int .i64 n, .int .i64 ((k : Int) + 1)] w fun e w' => e = .returned (.int .i64 j) ∧ w' = w := by
  have a1 := Int.emod_nonneg n (b := ((k + 1 : Nat) : Int)) (by omega)
  have a2 := Int.emod_lt_of_pos n (b := ((k + 1 : Nat) : Int)) (by omega)
  obtain ⟨j, hj⟩ := Int.eq_ofNat_of_zero_le a1
  refine ⟨j, by omega, fun w => ?_⟩
  have h := pick_any n (k + 1) (by omega) (by omega) h1 h2 w
  rw [hj] at h
  exact h
/-- The beginning of bytes is the same as they are. -/
theorem same_begin (Z X : List UInt8) (base base' : Nat) (v : Value) (xo : Option Addr) (xc : Nat) (w : World) (hZ : Owns w base v Z) (hX : Owns w base' (.slice xo X.length xc) X) (hp : Z <+: X) :
    Calls Tryd.prog 19 #[v, .slice xo Z.length xc] w fun e w' => e = .returned (.bool true) ∧ w' = w := by
  obtain ⟨ao, ac, rfl⟩ := hZ.shape
  have k1 := owns_text hZ
  have k2 : (convert 22 9 (.slice xo Z.length xc)).run Tryd.prog w = .ok (.string (str Z)) w := by
    cases xo with
    | none =>
      obtain ⟨rfl, _, rfl⟩ := hX.none
      obtain rfl : Z = [] := by simpa using hp
      exact run_convert_bytes_nil (P := Tryd.prog) (w := w) 22 5 Tryd.underlying22 Tryd.underlying5 0 0 9 Tryd.underlying9
    | some x =>
      obtain ⟨g, rfl, _, _, _, _⟩ := hX.some
      refine run_convert_bytes_back (P := Tryd.prog) w 22 9 5 ⟨g, 0, none⟩ xc Z Tryd.underlying22 Tryd.underlying5 Tryd.underlying9 (fun j hj => ?_)
      have hl := hp.length_le
      rw [add_at, hX.at j (by omega), hp.getElem hj]
  clear hZ hX
  go_enter Tryd.func19, Tryd.ntmps19
  go_wp2
  go_ret
  exact ⟨rfl, rfl⟩
theorem owns_room {w : World} {base : Nat} {v : Value} {l : List UInt8} (h : Owns w base v l) : ∃ ao cp, v = .slice ao l.length cp ∧ l.length ≤ cp := by
  rcases h.2 with ⟨rfl, hn⟩ | ⟨g, c, cur, h3, h4, h5, h6, _⟩
  · exact ⟨none, 0, by rw [hn], by omega⟩
  · exact ⟨_, _, h3, h6⟩
theorem POwns.room {w : World} {base : Nat} {v : Value} {ps : List PartD} (h : POwns w base v ps) : ∃ ao cp, v = .slice ao ps.length cp ∧ ps.length ≤ cp := by
  rcases h.2 with ⟨rfl, hn⟩ | ⟨g, c, cur, h3, h4, h5, h6, _⟩
  · exact ⟨none, 0, by rw [hn], by omega⟩
  · exact ⟨_, _, h3, h6⟩
theorem PSlice.cut {w : World} {ao : Option Addr} {cp : Nat} {ps : List PartD} (h : PSlice w (.slice ao ps.length cp) ps) (n : Nat) (hn : n ≤ ps.length) : PSlice w (.slice ao n cp) (ps.take n) := by
  rcases h with ⟨b, off, cap, e, hb, hc⟩ | ⟨ao', cp', e, hcp, rfl⟩
  · simp at e
    obtain ⟨rfl, rfl⟩ := e
    exact PSlice.take n hn hb hc
  · simp at e hn
    obtain ⟨rfl, rfl⟩ := e
    subst hn
    exact .inr ⟨ao, cp, rfl, hcp, by simp⟩

set_option maxRecDepth 1000000 in
set_option maxHeartbeats 3200000 in
theorem codeOrder_walk (ps qs : List PartD) (v u : Value) (n : Int) (w : World) (hpw : ∀ p ∈ ps, p.wf) (hqw : ∀ p ∈ qs, p.wf) (hps : ps.length * 32 ≤ 140737488355328) (hqs : qs.length * 32 ≤ 140737488355328) (hn1 : -9223372036854775808 ≤ n) (hn2 : n ≤ 9223372036854775807) (hv : PSlice w v ps) (hu : PSlice w u qs) (hT : ErrT w) :
    Calls Tryd.prog 6 #[v, u, .int .i64 n] w fun e w' => e = .returned (.bool true) ∧ Below w.heap.size w w' := by
  have HT : Hid (ErrT w) := hT
  have hgz := hT.size
  have HPW : Hid (∀ p ∈ ps, p.wf) := hpw
  have HQW : Hid (∀ p ∈ qs, p.wf) := hqw
  have HU : Hid (PSlice w u qs) := hu
  have hown0 : Hid (POwns (w.alloc (.cells #[] 54)) w.heap.size (.slice (some ⟨w.heap.size, 0, none⟩) 0 0) []) := World.ownsRow_lit w #[] 0 (Nat.le_refl _) (by unfold maxLen; omega) rfl
  have HB0 : Hid (Below w.heap.size w (w.alloc (.cells #[] 54))) := (Below.refl _ _).alloc (Nat.le_refl _) _
  have HV0 : Hid (PSlice (w.alloc (.cells #[] 54)) v ps) := hv.below HB0.out
  obtain ⟨j, hj, hpick⟩ := pick_nat n ps.length (by omega) hn1 hn2
  have HPK : Hid (∀ w, Calls Tryd.prog 18 #[.int .i64 n, .int .i64 ((ps.length : Int) + 1)] w fun e w' => e = .returned (.int .i64 j) ∧ w' = w) := hpick
  clear hT hpw hqw hu hv hpick
  go_enter Tryd.func6, Tryd.ntmps6
  go_wp2_with (first
    | (at_builtin; refine wpList_addPS rfl (.tmp 14) (.tmp 15) rfl w.heap.size _ [] rfl hown0.out _ ps rfl HV0.out (by simp; omega) (by simp) ?_; intro v2 w2 hown2 hbel2 hnil2; rw [List.nil_append] at hown2; have HOW2 : Hid (POwns w2 w.heap.size v2 ps) := hown2; have HB2 : Hid (Below w.heap.size w w2) := HB0.out.trans hbel2; have hz2 : w.heap.size ≤ w2.heap.size := HB2.out.size; clear hown2 hbel2 hnil2)
    | (at_builtin; refine wpList_addPS rfl (.tmp 17) (.tmp 18) rfl w2.heap.size _ [] rfl (World.ownsRow_lit w2 #[] 0 (Nat.le_refl _) (by unfold maxLen; omega) rfl) _ qs rfl (HU.out.below (HB2.out.alloc hz2 _)) (by simp; omega) (by simp) ?_; intro u3 w3 hown3 hbel3 hnil3))
  rw [List.nil_append] at hown3
  have HOW3 : Hid (POwns w3 w2.heap.size u3 qs) := hown3
  have HB3 : Hid (Below w2.heap.size w2 w3) := ((Below.refl w2.heap.size w2).alloc (Nat.le_refl _) _).trans hbel3
  have HBW3 : Hid (Below w.heap.size w w3) := HB2.out.trans (HB3.out.mono hz2)
  have HOV3 : Hid (POwns w3 w.heap.size v2 ps) := HOW2.out.below HB3.out
  have hz3 : w.heap.size ≤ w3.heap.size := HBW3.out.size
  clear hown3 hbel3 hnil3 HOW2
  refine (codeKey_any ps v2 w3 HOV3.out.slice HPW.out (HT.out.below HBW3.out hgz)).mono ?_
  rintro e w4 ⟨x, rfl, ho, hx, hb4⟩
  have HO4 : Hid (keyErr ps = 0 → Owns w4 w3.heap.size x (encKey ps)) := ho
  have HB4 : Hid (Below w3.heap.size w3 w4) := hb4
  have HBW4 : Hid (Below w.heap.size w w4) := HBW3.out.trans (hb4.mono hz3)
  have HOV4 : Hid (POwns w4 w.heap.size v2 ps) := HOV3.out.below hb4
  have HOU4 : Hid (POwns w4 w2.heap.size u3 qs) := HOW3.out.below hb4
  have hz4 : w.heap.size ≤ w4.heap.size := HBW4.out.size
  clear ho hx hb4 HOV3 HOW3
  obtain ⟨E, hE⟩ : ∃ E, E = keyErr ps := ⟨_, rfl⟩
  rw [← hE]
  have HE : Hid (E = keyErr ps) := hE
  clear hE
  go_wp2_with fail
  refine (codeKey_any qs u3 w4 HOU4.out.slice HQW.out (HT.out.below HBW4.out hgz)).mono ?_
  rintro e w5 ⟨y, rfl, ho, hx, hb5⟩
  have HO5 : Hid (keyErr qs = 0 → Owns w5 w4.heap.size y (encKey qs)) := ho
  have HB5 : Hid (Below w4.heap.size w4 w5) := hb5
  have HBW5 : Hid (Below w.heap.size w w5) := HBW4.out.trans (hb5.mono hz4)
  have HOV5 : Hid (POwns w5 w.heap.size v2 ps) := HOV4.out.below hb5
  have HOU5 : Hid (POwns w5 w2.heap.size u3 qs) := HOU4.out.below hb5
  have hz5 : w.heap.size ≤ w5.heap.size := HBW5.out.size
  clear ho hx hb5 HOV4 HOU4
  obtain ⟨F, hF⟩ : ∃ F, F = keyErr qs := ⟨_, rfl⟩
  rw [← hF]
  have HF : Hid (F = keyErr qs) := hF
  clear hF
  by_cases h00 : E = 0 ∧ F = 0
  · obtain ⟨rfl, rfl⟩ := h00
    have HKP : Hid (keyErr ps = 0) := HE.out.symm
    have HKQ : Hid (keyErr qs = 0) := HF.out.symm
    have HOX : Hid (Owns w5 w3.heap.size x (encKey ps)) := (HO4.out HKP.out).below HB5.out
    have HOY : Hid (Owns w5 w4.heap.size y (encKey qs)) := HO5.out HKQ.out
    have HZZ : Hid (keyErr (ps.take j) = 0) := (key_begin ps j HKP.out).1
    have HPRE : Hid (encKey (ps.take j) <+: encKey ps) := (key_begin ps j HKP.out).2
    have errs0 : ∀ l : List PartD, keyErr l = 0 → errs l = 0 := fun l h => by
      unfold keyErr at h
      split at h
      · omega
      · exact h
    have HORD : Hid (∀ r, OrdR ps qs r → r = cmpB (encKey ps) (encKey qs)) := fun r h => key_order ps qs (errs0 _ HKP.out) (errs0 _ HKQ.out) (fun p hp => (HPW.out p hp).2.2.1) (fun p hp => (HQW.out p hp).2.2.1) r h
    have HJW : Hid (∀ p ∈ ps.take j, p.wf) := fun p hp => HPW.out p (List.mem_of_mem_take hp)
    obtain ⟨X, hX⟩ : ∃ X, X = encKey ps := ⟨_, rfl⟩
    obtain ⟨Y, hY⟩ : ∃ Y, Y = encKey qs := ⟨_, rfl⟩
    rw [← hX] at HOX HPRE HORD
    rw [← hY] at HOY HORD
    clear hX hY errs0 HO4 HO5 HE HF
    obtain ⟨xo, xc, rfl, hxc⟩ := owns_room HOX.out
    obtain ⟨yo, yc, rfl, hyc⟩ := owns_room HOY.out
    obtain ⟨vo, vc, rfl, hvc⟩ := HOV5.out.room
    have hcx := owns_text HOX.out
    have hcy := owns_text HOY.out
    have eX := str_toList X
    have eY := str_toList Y
    have hjv : (j : Int) ≤ (vc : Int) := by omega
    obtain ⟨Z, hZ⟩ : ∃ Z, Z = encKey (ps.take j) := ⟨_, rfl⟩
    rw [← hZ] at HPRE
    have HZ : Hid (Z = encKey (ps.take j)) := hZ
    have hzx : Z.length ≤ X.length := HPRE.out.length_le
    clear hZ
    have hzx1 : (Z.length : Int) ≤ (X.length : Int) := by omega
    have hzx2 : (Z.length : Int) ≤ (xc : Int) := by omega
    have HCUT : Hid (PSlice w5 (.slice vo j vc) (ps.take j)) := HOV5.out.slice.cut j hj
    have HTK : Hid (Calls Tryd.prog 13 #[.slice vo j vc] w5 (CodeKeyPost (ps.take j) w5)) := codeKey_any (ps.take j) _ w5 HCUT.out HJW.out (HT.out.below HBW5.out hgz)
    cases hbl : Op.bytesLess X Y with
    | true =>
      have HC : Hid (cmpB X Y = -1) := if_pos hbl
      go_wp2_with (go_at_call 18; refine (HPK.out _).mono ?_; rintro e w' ⟨rfl, rfl⟩)
      refine HTK.out.mono ?_
      rintro e w6 ⟨z, rfl, ho, hx, hb6⟩
      rw [HZZ.out]
      have HOZ6 : Hid (Owns w6 w'.heap.size z Z) := by
        show Owns _ _ _ _
        rw [HZ.out]; exact ho HZZ.out
      have HOX6 : Hid (Owns w6 w3.heap.size (.slice xo X.length xc) X) := HOX.out.below hb6
      have HBW6 : Hid (Below w.heap.size w w6) := HBW5.out.trans (hb6.mono hz5)
      have HOV6 : Hid (POwns w6 w.heap.size (.slice vo ps.length vc) ps) := HOV5.out.below hb6
      have HOU6 : Hid (POwns w6 w2.heap.size u3 qs) := HOU5.out.below hb6
      have hz6 : w.heap.size ≤ w6.heap.size := HBW6.out.size
      clear ho hx hb6 hcx hcy
      go_wp2_with fail
      refine (order_ps ps qs _ _ w6 (by omega) (by omega) HOV6.out.slice HOU6.out.slice).mono ?_
      rintro e w7 ⟨r, rfl, hr, hb7⟩
      have hrc : r = -1 := (HORD.out r hr).trans HC.out
      subst hrc
      have HBW7 : Hid (Below w.heap.size w w7) := HBW6.out.trans (hb7.mono hz6)
      have HOZ7 : Hid (Owns w7 w'.heap.size z Z) := HOZ6.out.below hb7
      have HOX7 : Hid (Owns w7 w3.heap.size (.slice xo X.length xc) X) := HOX6.out.below hb7
      clear hr hb7
      obtain ⟨zo, zc, rfl⟩ := HOZ7.out.shape
      go_wp2_with (go_at_call 19; refine (same_begin Z X _ _ _ xo xc _ HOZ7.out HOX7.out HPRE.out).mono ?_; rintro e w8 ⟨rfl, rfl⟩)
      go_ret
      exact ⟨rfl, HBW7.out⟩
    | false =>
     by_cases hxy : X = Y
     · have HC : Hid (cmpB X Y = 0) := by
        show _ = _
        rw [cmpB, hbl, if_neg (by decide), if_pos hxy]
       subst hxy
       have hxe : (X == X) = true := by simp
       go_wp2_with (go_at_call 18; refine (HPK.out _).mono ?_; rintro e w' ⟨rfl, rfl⟩)
       refine HTK.out.mono ?_
       rintro e w6 ⟨z, rfl, ho, hx, hb6⟩
       rw [HZZ.out]
       have HOZ6 : Hid (Owns w6 w'.heap.size z Z) := by
         show Owns _ _ _ _
         rw [HZ.out]; exact ho HZZ.out
       have HOX6 : Hid (Owns w6 w3.heap.size (.slice xo X.length xc) X) := HOX.out.below hb6
       have HBW6 : Hid (Below w.heap.size w w6) := HBW5.out.trans (hb6.mono hz5)
       have HOV6 : Hid (POwns w6 w.heap.size (.slice vo ps.length vc) ps) := HOV5.out.below hb6
       have HOU6 : Hid (POwns w6 w2.heap.size u3 qs) := HOU5.out.below hb6
       have hz6 : w.heap.size ≤ w6.heap.size := HBW6.out.size
       clear ho hx hb6 hcx hcy
       go_wp2_with fail
       refine (order_ps ps qs _ _ w6 (by omega) (by omega) HOV6.out.slice HOU6.out.slice).mono ?_
       rintro e w7 ⟨r, rfl, hr, hb7⟩
       have hrc : r = 0 := (HORD.out r hr).trans HC.out
       subst hrc
       have HBW7 : Hid (Below w.heap.size w w7) := HBW6.out.trans (hb7.mono hz6)
       have HOZ7 : Hid (Owns w7 w'.heap.size z Z) := HOZ6.out.below hb7
       have HOX7 : Hid (Owns w7 w3.heap.size (.slice xo X.length xc) X) := HOX6.out.below hb7
       clear hr hb7
       obtain ⟨zo, zc, rfl⟩ := HOZ7.out.shape
       go_wp2_with (go_at_call 19; refine (same_begin Z X _ _ _ xo xc _ HOZ7.out HOX7.out HPRE.out).mono ?_; rintro e w8 ⟨rfl, rfl⟩)
       go_ret
       exact ⟨rfl, HBW7.out⟩
     · have HC : Hid (cmpB X Y = 1) := by
        show _ = _
        rw [cmpB, hbl, if_neg (by decide), if_neg hxy]
       have hxe : (X == Y) = false := by simpa using hxy
       go_wp2_with (go_at_call 18; refine (HPK.out _).mono ?_; rintro e w' ⟨rfl, rfl⟩)
       refine HTK.out.mono ?_
       rintro e w6 ⟨z, rfl, ho, hx, hb6⟩
       rw [HZZ.out]
       have HOZ6 : Hid (Owns w6 w'.heap.size z Z) := by
         show Owns _ _ _ _
         rw [HZ.out]; exact ho HZZ.out
       have HOX6 : Hid (Owns w6 w3.heap.size (.slice xo X.length xc) X) := HOX.out.below hb6
       have HBW6 : Hid (Below w.heap.size w w6) := HBW5.out.trans (hb6.mono hz5)
       have HOV6 : Hid (POwns w6 w.heap.size (.slice vo ps.length vc) ps) := HOV5.out.below hb6
       have HOU6 : Hid (POwns w6 w2.heap.size u3 qs) := HOU5.out.below hb6
       have hz6 : w.heap.size ≤ w6.heap.size := HBW6.out.size
       clear ho hx hb6 hcx hcy
       go_wp2_with fail
       refine (order_ps ps qs _ _ w6 (by omega) (by omega) HOV6.out.slice HOU6.out.slice).mono ?_
       rintro e w7 ⟨r, rfl, hr, hb7⟩
       have hrc : r = 1 := (HORD.out r hr).trans HC.out
       subst hrc
       have HBW7 : Hid (Below w.heap.size w w7) := HBW6.out.trans (hb7.mono hz6)
       have HOZ7 : Hid (Owns w7 w'.heap.size z Z) := HOZ6.out.below hb7
       have HOX7 : Hid (Owns w7 w3.heap.size (.slice xo X.length xc) X) := HOX6.out.below hb7
       clear hr hb7
       obtain ⟨zo, zc, rfl⟩ := HOZ7.out.shape
       go_wp2_with (go_at_call 19; refine (same_begin Z X _ _ _ xo xc _ HOZ7.out HOX7.out HPRE.out).mono ?_; rintro e w8 ⟨rfl, rfl⟩)
       go_ret
       exact ⟨rfl, HBW7.out⟩
  · have hcond : (E != 0 || F != 0) = true := by
      by_cases h1 : E = 0
      · have h2 : ¬ F = 0 := fun h2 => h00 ⟨h1, h2⟩
        simp [h2]
      · simp [h1]
    by_cases hE0 : E = 0
    · have hF0 : ¬ F = 0 := fun h2 => h00 ⟨hE0, h2⟩
      have hF1 : (F != 0) = true := by simpa using hF0
      subst hE0
      clear h00 hcond
      go_wp2_with fail
      refine (refParts_ps ps _ w5 HPW.out HOV5.out.slice).mono ?_
      rintro e w6 ⟨rfl, hb6⟩
      rw [← HE.out]
      have HBW6 : Hid (Below w.heap.size w w6) := HBW5.out.trans (hb6.mono hz5)
      have HOU6 : Hid (POwns w6 w2.heap.size u3 qs) := HOU5.out.below hb6
      have hz6 : w.heap.size ≤ w6.heap.size := HBW6.out.size
      clear hb6
      go_wp2_with fail
      refine (refParts_ps qs _ w6 HQW.out HOU6.out.slice).mono ?_
      rintro e w7 ⟨rfl, hb7⟩
      rw [← HF.out]
      have HBW7 : Hid (Below w.heap.size w w7) := HBW6.out.trans (hb7.mono hz6)
      clear hb7
      go_wp2
      go_ret
      exact ⟨rfl, HBW7.out⟩
    · have hE1 : (E != 0) = true := by simpa using hE0
      clear h00 hcond
      go_wp2_with fail
      refine (refParts_ps ps _ w5 HPW.out HOV5.out.slice).mono ?_
      rintro e w6 ⟨rfl, hb6⟩
      rw [← HE.out]
      have HBW6 : Hid (Below w.heap.size w w6) := HBW5.out.trans (hb6.mono hz5)
      have HOU6 : Hid (POwns w6 w2.heap.size u3 qs) := HOU5.out.below hb6
      have hz6 : w.heap.size ≤ w6.heap.size := HBW6.out.size
      clear hb6
      go_wp2_with fail
      refine (refParts_ps qs _ w6 HQW.out HOU6.out.slice).mono ?_
      rintro e w7 ⟨rfl, hb7⟩
      rw [← HF.out]
      have HBW7 : Hid (Below w.heap.size w w7) := HBW6.out.trans (hb7.mono hz6)
      clear hb7
      go_wp2
      go_ret
      exact ⟨rfl, HBW7.out⟩
end Go.Proofs.YtppmjdmdflcoiaaDoor
