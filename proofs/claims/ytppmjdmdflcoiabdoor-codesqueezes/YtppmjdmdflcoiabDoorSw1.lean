/-
  code.stepBytes, addCopy, Swell: the walks.
-/
import Derived.Test.YtppmjdmdflcoiabDoorOwn
import Derived.Test.YtppmjdmdflcoiabDoorSw
import Derived.Test.YtppmjdmdflcoiabDoorTell
import Derived.Deep.QuietTactic
import Derived.BigQuiet
namespace Go.Proofs.YtppmjdmdflcoiabDoor
open Go.ChangeShapes Go.WideShapes Go.ChangeAt Go.RowKit
set_option linter.unusedVariables false

theorem hid_mk {p : Prop} (h : p) : Hid p := h
theorem drewN_below (B : Nat) (w : World) (n : Nat) : Below B w (w.drewN n) := ⟨rfl, rfl, rfl, Nat.le_refl _, fun _ _ => rfl⟩
theorem stepBytes_lo (t : Nat) (h : t < 128) (w : World) : Calls Tryd.prog 16 #[.int .u8 t] w fun e w' => e = .returned (.int .i64 ((t + 2 : Nat) : Int)) ∧ w' = w := by
  have h' : (t : Int) < 128 := by omega
  go_enter Tryd.func16, Tryd.ntmps16
  go_wp2
  go_ret
  exact ⟨ret_int (by show _ = _; omega), rfl⟩
theorem stepBytes_hi (t : Nat) (h : ¬ t < 128) (h2 : t < 256) (w : World) : Calls Tryd.prog 16 #[.int .u8 t] w fun e w' => e = .returned (.int .i64 3) ∧ w' = w := by
  have h' : ¬ (t : Int) < 128 := by omega
  go_enter Tryd.func16, Tryd.ntmps16
  go_wp2
  go_ret
  exact ⟨rfl, rfl⟩

set_option maxRecDepth 1000000 in
set_option maxHeartbeats 1600000 in
theorem addCopy_any (out : List UInt8) (v : Value) (back n base : Nat) (w : World) (h1 : 1 ≤ back) (h2 : back ≤ out.length) (hn : n ≤ 1000) (hl : out.length ≤ 100000000) (hbase : base ≤ w.heap.size) (hown : Owns w base v out) :
    Calls Tryd.prog 17 #[v, .int .i64 back, .int .i64 n] w fun e w' => ∃ v', e = .returned v' ∧ Owns w' base v' (cp back n out) ∧ Below base w w' := by
  have HO : Hid (Owns w base v out) := hown
  clear hown
  go_enter Tryd.func17, Tryd.ntmps17
  go_wp2
  go_loopw [0, 8] (fun o i wr => ∃ (k : Nat) (d : List UInt8) (vo : Value), vo = o ∧ i = .int .i64 k ∧ k ≤ n ∧ d.length = out.length + k ∧ cp back (n - k) d = cp back n out ∧ Owns wr base vo d ∧ Below base w wr) (fun _ i _ => n - (intOf i).toNat)
  case atStart => exact ⟨0, out, _, rfl, rfl, by omega, by omega, rfl, HO.out, Below.refl _ _⟩
  case round =>
    obtain ⟨k, d, v0, rfl, rfl, hk, hd, hcp, hown, hbel⟩ := hrel
    have HCP : Hid (cp back (n - k) d = cp back n out) := hcp
    have HOW : Hid (Owns wr base v0 d) := hown
    have HBL : Hid (Below base w wr) := hbel
    have hbw : base ≤ wr.heap.size := Nat.le_trans hbase hbel.size
    have HDL : Hid (d.length = out.length + k) := hd
    have hdb1 : back ≤ d.length := by omega
    have hdb2 : d.length ≤ 100001000 := by omega
    clear hcp hown hbel hd
    obtain ⟨ao, ac, rfl⟩ := HOW.out.shape
    by_cases hlt : k < n
    · cases ao with
      | none => obtain ⟨rfl, _, _⟩ := HOW.out.none; simp at hdb1; omega
      | some x =>
        obtain ⟨g, rfl, _, _, hg, _⟩ := HOW.out.some
        have hidx : d.length - back < d.length := by omega
        obtain ⟨c, hc⟩ : ∃ c, c = d[d.length - back] := ⟨_, rfl⟩
        obtain ⟨X, hX⟩ : ∃ X : Nat, X = c.toNat := ⟨_, rfl⟩
        have hcell : wr.cell? ⟨g, d.length - back, none⟩ = some (.int .u8 (X : Int)) := by
          have h := HOW.out.at (d.length - back) hidx
          rw [Nat.zero_add] at h; rw [h, hX, hc]
        have HX : Hid (X = c.toNat) := hX
        have HST : Hid (cp back (n - (k + 1)) (d ++ [c]) = cp back n out) := by
          have h := HCP.out
          rw [show n - k = (n - (k + 1)) + 1 by omega, cp] at h
          rw [← h, hc]
          show _ = cp back _ _
          congr 2
          simp [List.getD, List.getElem?_eq_getElem hidx]
        have HAL : Hid (Owns (wr.alloc (.cells #[.int .u8 (X : Int)] 5)) base (.slice (some ⟨g, 0, none⟩) d.length ac) d) := HOW.out.alloc _
        have hd1 : (back : Int) ≤ (d.length : Int) := by omega
        have hd2 : (d.length : Int) - (back : Int) < (d.length : Int) := by omega
        clear hc hX
        go_wp2_with (at_builtin; refine wpList_add rfl (.tmp 10) (.tmp 18) rfl base _ d rfl HAL.out wr.heap.size 0 1 1 [c] rfl rfl (one_bytes wr c _ (by rw [HX.out]) _ rfl) (by simp; omega) (by simp; omega) ?_; intro v2 w2 hown2 hbel2 hnil2)
        have HO2 : Hid (Owns w2 base v2 (d ++ [c])) := hown2
        have HB2 : Hid (Below base w w2) := (HBL.out.alloc hbw _).trans hbel2
        clear hown2 hbel2 hnil2
        go_wp2
        go_roundw
        case rel => exact ⟨k + 1, d ++ [c], _, rfl, by go_num, by omega, by have := HDL.out; simp; omega, HST.out, HO2.out, HB2.out⟩
        case measure => simp [intOf]; omega
    · have HF : Hid (d = cp back n out) := by
        have h := HCP.out
        rw [show n - k = 0 by omega] at h; exact h
      go_wp2
      go_ret
      exact ⟨_, rfl, by rw [← HF.out]; exact HOW.out, HBL.out⟩

theorem addCopy_i (out : List UInt8) (v : Value) (bi ni : Int) (back n base : Nat) (w : World) (hbi : bi = (back : Int)) (hni : ni = (n : Int)) (h1 : 1 ≤ back) (h2 : back ≤ out.length) (hn : n ≤ 1000) (hl : out.length ≤ 100000000) (hbase : base ≤ w.heap.size) (hown : Owns w base v out) :
    Calls Tryd.prog 17 #[v, .int .i64 bi, .int .i64 ni] w fun e w' => ∃ v', e = .returned v' ∧ Owns w' base v' (cp back n out) ∧ Below base w w' := by
  subst hbi hni
  exact addCopy_any out v back n base w h1 h2 hn hl hbase hown

/-- What Swell leaves. -/
def SwPost (T : Int × List UInt8) (w : World) (e : Ending) (w' : World) : Prop :=
  ∃ v, e = .returned (.tuple #[if T.1 = 0 then v else .slice none 0 0, if T.1 = 0 then .nilIface else .iface 24 (.int .i64 T.1)]) ∧ (T.1 = 0 → Owns w' w.heap.size v T.2) ∧ Below w.heap.size w w'
theorem swPost_bad {T : Int × List UInt8} {w w' : World} {c : Int} (h : T.1 = c) (hc : c ≠ 0) (hb : Below w.heap.size w w') : SwPost T w (.returned (.tuple #[.slice none 0 0, .iface 24 (.int .i64 c)])) w' :=
  ⟨.slice none 0 0, by rw [h, if_neg hc, if_neg hc], fun e => absurd (h.symm.trans e) hc, hb⟩
theorem swPost_good {T : Int × List UInt8} {w w' : World} {v : Value} {l : List UInt8} (h : T = (0, l)) (ho : Owns w' w.heap.size v l) (hb : Below w.heap.size w w') : SwPost T w (.returned (.tuple #[v, .nilIface])) w' :=
  ⟨v, by rw [h]; rfl, fun _ => by rw [h]; exact ho, hb⟩
def lenOfV : Value → Nat | .slice _ n _ => n | _ => 0

theorem swell_neg (most : Int) (v : Value) (w : World) (h : most < 0) : Calls Tryd.prog 13 #[v, .int .i64 most] w fun e w' => e = .returned (.tuple #[.slice none 0 0, .iface 24 (.int .i64 5)]) ∧ w' = w := by
  go_enter Tryd.func13, Tryd.ntmps13
  go_wp2
  go_ret2
  exact ⟨rfl, rfl⟩

set_option maxRecDepth 1000000 in
set_option maxHeartbeats 3200000 in
theorem swell_any (l : List UInt8) (n B cap M : Nat) (w : World) (hn : n = l.length) (hl : l.length ≤ 140737488355328) (hcap : l.length ≤ cap) (hM : M ≤ 1048576) (hB : B < w.heap.size) (hc : BytesAt w B 0 l) :
    Calls Tryd.prog 13 #[.slice (some ⟨B, 0, none⟩) n cap, .int .i64 M] w (SwPost (swell M l []) w) := by
  subst hn
  have HC : Hid (BytesAt w B 0 l) := hc
  clear hc
  obtain ⟨T, hT⟩ : ∃ T, T = swell M l [] := ⟨_, rfl⟩
  rw [← hT]
  have HT : Hid (T = swell M l []) := hT
  clear hT
  go_enter Tryd.func13, Tryd.ntmps13
  go_wp2
  go_loopw [0, 6] (fun x o wr => ∃ (of cpp : Nat) (rest out : List UInt8) (vo : Value), vo = o ∧ x = .slice (some ⟨B, of, none⟩) rest.length cpp ∧ rest.length ≤ cpp ∧ rest.length ≤ l.length ∧ BytesAt w B of rest ∧ swell M rest out = T ∧ out.length ≤ M ∧ Owns wr w.heap.size vo out ∧ Below w.heap.size w wr) (fun x _ _ => lenOfV x)
  case atStart => exact ⟨0, cap, l, [], _, rfl, rfl, hcap, Nat.le_refl _, HC.out, HT.out.symm, by simp, owns_nil _ _, Below.refl _ _⟩
  case round =>
    obtain ⟨of, cpp, rest, out, v0, rfl, rfl, hrc, hrl, hby, hsw, hol, hown, hbel⟩ := hrel
    have HBY : Hid (BytesAt w B of rest) := hby
    have HS : Hid (swell M rest out = T) := hsw
    have HOW : Hid (Owns wr w.heap.size v0 out) := hown
    have HBL : Hid (Below w.heap.size w wr) := hbel
    have hbw : w.heap.size ≤ wr.heap.size := hbel.size
    clear hby hsw hown hbel
    obtain ⟨ao, ac, rfl⟩ := HOW.out.shape
    cases rest with
    | nil =>
      have HF : Hid (T = (0, out)) := by have h := HS.out; rw [swell_nil] at h; exact h.symm
      go_wp2
      go_ret2
      exact swPost_good HF.out HOW.out HBL.out
    | cons t r =>
      obtain ⟨X, hX⟩ : ∃ X : Nat, X = t.toNat := ⟨_, rfl⟩
      have hX8 : X < 256 := by rw [hX]; exact t.toNat_lt
      have HBW : Hid (BytesAt wr B of (t :: r)) := HBY.out.below HBL.out hB
      have c0 : wr.cell? ⟨B, of, none⟩ = some (.int .u8 (X : Int)) := by have h := HBW.out 0 (by simp); rw [hX]; simpa using h
      have HX : Hid (X = t.toNat) := hX
      have hr0 : (0 : Int) < (r.length : Int) + 1 := by omega
      have hrl' : r.length + 1 ≤ l.length := by simpa using hrl
      have hrc' : r.length + 1 ≤ cpp := by simpa using hrc
      have HST : Hid (∀ c o' r', st M X r out = (c, o', r') → (c = 0 → swell M r' o' = T) ∧ (c ≠ 0 → T.1 = c)) := by
        intro c o' r' h
        rw [HX.out] at h
        refine ⟨fun e => ?_, fun e => ?_⟩
        · subst e; rw [← HS.out, swell_ok M t r out o' r' h]
        · rw [← HS.out, swell_bad M t r out o' r' c e h]
      clear hX hrl hrc HS
      simp only [List.length_cons]
      by_cases h128 : X < 128
      · have h128' : (X : Int) < 128 := by omega
        by_cases hsz : r.length < X + 1
        · have HF : Hid (T.1 = 7) := (HST.out 7 [] [] (by rw [st, if_pos h128, if_pos hsz])).2 (by decide)
          have hsz' : (r.length : Int) + 1 < ((X + 2 : Nat) : Int) := by omega
          go_wp2_with (go_at_call 16; refine (stepBytes_lo X h128 _).mono ?_; rintro e w' ⟨rfl, rfl⟩)
          go_ret2
          exact swPost_bad HF.out (by decide) HBL.out
        · have hsz' : ¬ (r.length : Int) + 1 < ((X + 2 : Nat) : Int) := by omega
          have HNW : Hid (BytesAt wr B (of + 1) (r.take (X + 1))) := by
            intro i hi
            have hi' : i < r.length := by rw [List.length_take] at hi; omega
            have h := HBW.out (i + 1) (by simp; omega)
            rw [show of + 1 + i = of + (i + 1) by omega, h]
            simp
          have htl : (r.take (X + 1)).length = X + 1 := by rw [List.length_take]; omega
          have HTL : Hid ((r.take (X + 1)).length = X + 1) := htl
          have hnc : ¬ cpp = 1 := by omega
          clear htl
          obtain ⟨O2, hO2⟩ : ∃ O2, O2 = out ++ r.take (X + 1) := ⟨_, rfl⟩
          have HO2 : Hid (O2 = out ++ r.take (X + 1)) := hO2
          have HOL : Hid (O2.length = out.length + (X + 1)) := by rw [hO2, List.length_append, HTL.out]; rfl
          clear hO2
          by_cases hm : M < O2.length
          · have hm' : (M : Int) < (O2.length : Int) := by omega
            have HF : Hid (T.1 = 6) := (HST.out 6 [] [] (by rw [st, if_pos h128, if_neg hsz, if_pos (by rw [← HO2.out]; exact hm)])).2 (by decide)
            go_wp2_with (first | (go_at_call 16; refine (stepBytes_lo X h128 _).mono ?_; rintro e w' ⟨rfl, rfl⟩) | (at_builtin; refine wpList_add rfl (.tmp 28) (.tmp 31) rfl w.heap.size _ out rfl HOW.out B (of + 1) _ _ (r.take (X + 1)) rfl (by rw [HTL.out]; omega) HNW.out (by rw [HTL.out]; omega) hbw ?_; intro v2 w2 hown2 hbel2 hnil2; rw [← HO2.out] at hown2; obtain ⟨ao2, ac2, rfl⟩ := Owns.shape hown2; have HB2 : Hid (Below w.heap.size w w2) := HBL.out.trans hbel2; clear hown2 hbel2 hnil2))
            go_ret2
            exact swPost_bad HF.out (by decide) HB2.out
          · have hm' : ¬ (M : Int) < (O2.length : Int) := by omega
            have HF : Hid (swell M (r.drop (X + 1)) O2 = T) := (HST.out 0 O2 (r.drop (X + 1)) (by rw [st, if_pos h128, if_neg hsz, if_neg (by rw [← HO2.out]; exact hm), HO2.out])).1 rfl
            go_wp2_with (first | (go_at_call 16; refine (stepBytes_lo X h128 _).mono ?_; rintro e w' ⟨rfl, rfl⟩) | (at_builtin; refine wpList_add rfl (.tmp 28) (.tmp 31) rfl w.heap.size _ out rfl HOW.out B (of + 1) _ _ (r.take (X + 1)) rfl (by rw [HTL.out]; omega) HNW.out (by rw [HTL.out]; omega) hbw ?_; intro v2 w2 hown2 hbel2 hnil2; rw [← HO2.out] at hown2; obtain ⟨ao2, ac2, rfl⟩ := Owns.shape hown2; have HB2 : Hid (Below w.heap.size w w2) := HBL.out.trans hbel2; have HOW2 : Hid (Owns w2 w.heap.size (.slice ao2 O2.length ac2) O2) := hown2; clear hown2 hbel2 hnil2))
            go_roundw
            case rel =>
              have hdl : (r.drop (X + 1)).length = r.length + 1 - (X + 2) := by rw [List.length_drop]; omega
              refine ⟨if cpp = X + 2 then of else of + (X + 2), cpp - (X + 2), r.drop (X + 1), O2, _, rfl, ?_, by rw [hdl]; omega, by rw [hdl]; omega, ?_, HF.out, by omega, HOW2.out, HB2.out⟩
              · rw [hdl]; split <;> rfl
              · intro i hi
                rw [hdl] at hi
                rw [if_neg (by omega)]
                have h := HBY.out ((X + 1 + i) + 1) (by simp; omega)
                rw [show of + (X + 2) + i = of + ((X + 1 + i) + 1) by omega, h, List.getElem_drop]
                rfl
            case measure => simp [lenOfV]; omega
      · have h128' : ¬ (X : Int) < 128 := by omega
        by_cases hsz : r.length < 2
        · have HF : Hid (T.1 = 7) := (HST.out 7 [] [] (by rw [st, if_neg h128, if_pos hsz])).2 (by decide)
          have hsz' : (r.length : Int) + 1 < 3 := by omega
          go_wp2_with (go_at_call 16; refine (stepBytes_hi X h128 hX8 _).mono ?_; rintro e w' ⟨rfl, rfl⟩)
          go_ret2
          exact swPost_bad HF.out (by decide) HBL.out
        · have hsz' : ¬ (r.length : Int) + 1 < 3 := by omega
          obtain ⟨y, hy⟩ : ∃ y : Nat, y = (r.getD 0 0).toNat := ⟨_, rfl⟩
          obtain ⟨z, hz⟩ : ∃ z : Nat, z = (r.getD 1 0).toNat := ⟨_, rfl⟩
          have hy8 : y < 256 := by rw [hy]; exact (r.getD 0 0).toNat_lt
          have hz8 : z < 256 := by rw [hz]; exact (r.getD 1 0).toNat_lt
          have c1 : wr.cell? ⟨B, of + 1, none⟩ = some (.int .u8 (y : Int)) := by
            have h := HBW.out 1 (by simp; omega)
            rw [h, hy]; simp [List.getD, List.getElem?_eq_getElem (show 0 < r.length by omega)]
          have c2 : wr.cell? ⟨B, of + 2, none⟩ = some (.int .u8 (z : Int)) := by
            have h := HBW.out 2 (by simp; omega)
            rw [h, hz]; simp [List.getD, List.getElem?_eq_getElem (show 1 < r.length by omega)]
          have HST2 : Hid (st M X r out = if out.length < y + 256 * z + 1 then (7, [], []) else if M < (cp (y + 256 * z + 1) (X - 125) out).length then (6, [], []) else (0, cp (y + 256 * z + 1) (X - 125) out, r.drop 2)) := by
            show _ = _
            rw [st, if_neg h128, if_neg hsz, ← hy, ← hz]
          have hl1 : (1 : Int) < (r.length : Int) + 1 := by omega
          have hl2 : (2 : Int) < (r.length : Int) + 1 := by omega
          clear hy hz
          by_cases hbk : out.length < y + 256 * z + 1
          · have HF : Hid (T.1 = 7) := (HST.out 7 [] [] (by rw [HST2.out, if_pos hbk])).2 (by decide)
            have hbk' : (out.length : Int) < 1 + (y : Int) + (z : Int) * 256 := by omega
            go_wp2_with (go_at_call 16; refine (stepBytes_hi X h128 hX8 _).mono ?_; rintro e w' ⟨rfl, rfl⟩)
            go_quiet (fail)
            go_wp2
            go_ret2
            exact swPost_bad HF.out (by decide) (HBL.out.trans (drewN_below _ _ _))
          · have hbk' : ¬ (out.length : Int) < 1 + (y : Int) + (z : Int) * 256 := by omega
            obtain ⟨O2, hO2⟩ : ∃ O2, O2 = cp (y + 256 * z + 1) (X - 125) out := ⟨_, rfl⟩
            have HO2 : Hid (O2 = cp (y + 256 * z + 1) (X - 125) out) := hO2
            have HOL : Hid (O2.length = out.length + (X - 125)) := by rw [hO2]; exact cp_length _ _ _
            rw [← hO2] at HST2
            clear hO2
            by_cases hm : M < O2.length
            · have hm' : (M : Int) < (O2.length : Int) := by omega
              have HF : Hid (T.1 = 6) := (HST.out 6 [] [] (by rw [HST2.out, if_neg hbk, if_pos hm])).2 (by decide)
              go_wp2_with (go_at_call 16; refine (stepBytes_hi X h128 hX8 _).mono ?_; rintro e w' ⟨rfl, rfl⟩)
              go_quiet (fail)
              have HOQ : Hid (Owns (w'.drewN nq) w.heap.size (.slice ao out.length ac) out) := HOW.out
              have HBQ : Hid (Below w.heap.size w (w'.drewN nq)) := HBL.out.trans (drewN_below _ _ _)
              have HCA := hid_mk (addCopy_i out (.slice ao out.length ac) (1 + (y : Int) + (z : Int) * 256) ((X : Int) - 125) (y + 256 * z + 1) (X - 125) w.heap.size (w'.drewN nq) (by omega) (by omega) (by omega) (by omega) (by omega) (by omega) hbw HOQ.out)
              go_wp2_with (go_at_call 17; refine HCA.out.mono ?_; rintro e w2 ⟨v2, rfl, hown2, hbel2⟩; rw [← HO2.out] at hown2; obtain ⟨ao2, ac2, rfl⟩ := Owns.shape hown2; have HB2 : Hid (Below w.heap.size w w2) := HBQ.out.trans hbel2; clear hown2 hbel2)
              go_ret2
              exact swPost_bad HF.out (by decide) HB2.out
            · have hm' : ¬ (M : Int) < (O2.length : Int) := by omega
              have HF : Hid (swell M (r.drop 2) O2 = T) := (HST.out 0 O2 (r.drop 2) (by rw [HST2.out, if_neg hbk, if_neg hm])).1 rfl
              go_wp2_with (go_at_call 16; refine (stepBytes_hi X h128 hX8 _).mono ?_; rintro e w' ⟨rfl, rfl⟩)
              go_quiet (fail)
              have HOQ : Hid (Owns (w'.drewN nq) w.heap.size (.slice ao out.length ac) out) := HOW.out
              have HBQ : Hid (Below w.heap.size w (w'.drewN nq)) := HBL.out.trans (drewN_below _ _ _)
              have HCA := hid_mk (addCopy_i out (.slice ao out.length ac) (1 + (y : Int) + (z : Int) * 256) ((X : Int) - 125) (y + 256 * z + 1) (X - 125) w.heap.size (w'.drewN nq) (by omega) (by omega) (by omega) (by omega) (by omega) (by omega) hbw HOQ.out)
              go_wp2_with (go_at_call 17; refine HCA.out.mono ?_; rintro e w2 ⟨v2, rfl, hown2, hbel2⟩; rw [← HO2.out] at hown2; obtain ⟨ao2, ac2, rfl⟩ := Owns.shape hown2; have HB2 : Hid (Below w.heap.size w w2) := HBQ.out.trans hbel2; have HOW2 : Hid (Owns w2 w.heap.size (.slice ao2 O2.length ac2) O2) := hown2; clear hown2 hbel2)
              go_roundw
              case rel =>
                have hdl : (r.drop 2).length = r.length + 1 - 3 := by rw [List.length_drop]; omega
                refine ⟨if cpp = 3 then of else of + 3, cpp - 3, r.drop 2, O2, _, rfl, ?_, by rw [hdl]; omega, by rw [hdl]; omega, ?_, HF.out, by omega, HOW2.out, HB2.out⟩
                · rw [hdl]; split <;> rfl
                · intro i hi
                  rw [hdl] at hi
                  rw [if_neg (by omega)]
                  have h := HBY.out ((2 + i) + 1) (by simp; omega)
                  rw [show of + 3 + i = of + ((2 + i) + 1) by omega, h, List.getElem_drop]
                  rfl
              case measure => simp [lenOfV]; omega
end Go.Proofs.YtppmjdmdflcoiabDoor
