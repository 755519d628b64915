/-
  parity.Mend: the walk.
-/
import Derived.Test.YtigaabhicjcbjabDoorN5
import Derived.Deep.RegionHeld3
namespace Go.Proofs.YtigaabhicjcbjabDoor
open Go.ChangeShapes Go.WideShapes Go.ChangeAt Go.RowKit
set_option linter.unusedVariables false

theorem mendPost_bad {L : List (List UInt8)} {level c : Int} {w w' : World} (h : mendErr L level = c) (hc : c ≠ 0) (hb : Below w.heap.size w w') : MendPost L level w (.returned (.tuple #[.slice none 0 0, .iface 24 (.int .i64 c)])) w' :=
  ⟨.slice none 0 0, by rw [h, if_neg hc], fun e => absurd (h.symm.trans e) hc, fun _ => rfl, hb⟩
theorem mendPost_good {L O : List (List UInt8)} {level : Int} {w w' : World} {v : Value} (h : mendErr L level = 0) (hO : MendR L level O) (hv : PcsR w.heap.size w'.heap.size w' v O) (hb : Below w.heap.size w w') : MendPost L level w (.returned (.tuple #[v, .nilIface])) w' :=
  ⟨v, by rw [h, if_pos rfl], fun _ => ⟨O, hO, hv⟩, fun e => absurd h e, hb⟩
theorem neq_nil_iface (w : World) : (binOp .neq 43 .nilIface .nilIface).run Tryd.prog w = .ok (.bool false) w := by kernel_rfl
theorem neq_some_iface (c : Int) (w : World) : (binOp .neq 43 (.iface 24 (.int .i64 c)) .nilIface).run Tryd.prog w = .ok (.bool true) w := by kernel_rfl
theorem drewN_size (w : World) (n : Nat) : (w.drewN n).heap.size = w.heap.size := rfl
theorem Part.el {w : World} {B cap n base : Nat} {l : List UInt8} (h : Part w B cap n l) (hn : n = l.length) (hb : base ≤ B) (c : Nat) : ElP (fun _ => True) w base (.slice (some ⟨B, 0, none⟩) n c) l := by
  obtain ⟨cur, h1, h2⟩ := h
  exact .inr ⟨B, 0, c, by rw [hn], hb, Part.at ⟨cur, h1, h2⟩, cur, _, h1, trivial⟩
theorem ElP.set_other {p : Nat × Nat → Prop} {w : World} {base base' g : Nat} {u x : Value} {d : List UInt8} {us : List Value} (h : ElP p w base u d) (hx : SOwns w base' x us) (hg : x.ownBlock = some g) (i : Nat) (v : Value) : ElP p (w.setCell ⟨g, i, none⟩ v) base u d := h.keep (fun b cur fz e _ => heap_set_other _ _ _ _ _ (fun e2 => by
    subst e2
    exact hx.ne5 e hg))
theorem mend_one_R {L D : List (List UInt8)} {lv n i : Nat} {X : Nat → UInt8} (hn : nOf L (lv : Int) = n) (hD : D = L.take n) (hg : gaps 0 D = [i]) (h1 : (pOf L n).length ≠ 0 → ∀ k, k < szOf L → X k = colP D k ^^^ at0 (pOf L n) k) (h2 : (pOf L n).length = 0 → ∀ k, k < szOf L → dbln i (X k) = colQ 0 D k ^^^ at0 (qOf L n) k) : MendR L (lv : Int) (D.set i (vec (szOf L) X)) := by
  unfold MendR
  rw [hn, ← hD]
  exact mended_one hg (vec_length _ _) (fun h k hk => by rw [vec_at hk]; exact h1 h k hk) (fun h k hk => by rw [vec_at hk]; exact h2 h k hk)
theorem mend_two_R {L D : List (List UInt8)} {lv n i j : Nat} {X Y : Nat → UInt8} (hn : nOf L (lv : Int) = n) (hD : D = L.take n) (hg : gaps 0 D = [i, j]) (h1 : ∀ k, k < szOf L → X k ^^^ Y k = colP D k ^^^ at0 (pOf L n) k) (h2 : ∀ k, k < szOf L → dbln i (X k) ^^^ dbln j (Y k) = colQ 0 D k ^^^ at0 (qOf L n) k) : MendR L (lv : Int) ((D.set i (vec (szOf L) X)).set j (vec (szOf L) Y)) := by
  unfold MendR
  rw [hn, ← hD]
  exact mended_two hg (vec_length _ _) (vec_length _ _) (fun k hk => by rw [vec_at hk, vec_at hk]; exact h1 k hk) (fun k hk => by rw [vec_at hk, vec_at hk]; exact h2 k hk)
set_option maxRecDepth 100000 in
set_option maxHeartbeats 2000000 in
theorem mend_any (L : List (List UInt8)) (v : Value) (level : Int) (w : World) (hl : L.length ≤ 1000000) (hp : ∀ b ∈ L, b.length ≤ 140737488355328) (hv : Pcs w.heap.size w v L) : Calls Tryd.prog 32 #[v, .int .i64 level] w (MendPost L level w) := by
  have HP := hid_mk (part_any L w.heap.size v level w hl hp hv)
  have HV := hid_mk hv
  have HPL := hid_mk hp
  obtain ⟨ao, cp, rfl⟩ := hv.shape
  have hn1 := neq_nil_iface
  have hn2 := neq_some_iface
  clear hv hp
  go_enter Tryd.func32, Tryd.ntmps32
  go_wp2_with fail
  refine HP.out.mono ?_
  rintro e w1 (⟨n, a, b, he, hn, rfl, ha, hb, m, hm⟩ | ⟨he, rfl, rfl⟩)
  · have HB1 : Hid (Below w.heap.size w w1) := by show Below _ _ _; rw [hm]; exact drewN_below _ _ _
    have hs1 : w1.heap.size = w.heap.size := by rw [hm]; rfl
    have HS1 := hid_mk hs1
    have HPE := hid_mk he
    have HNL := hid_mk hn
    obtain ⟨D, hD⟩ : ∃ D, D = L.take n := ⟨_, rfl⟩
    obtain ⟨R, hR⟩ : ∃ R, R = L.drop n := ⟨_, rfl⟩
    rw [← hD] at ha
    rw [← hR] at hb
    have HD := hid_mk hD
    have HRr := hid_mk hR
    clear hD hR
    obtain ⟨xo, xc, rfl⟩ := ha.shape
    obtain ⟨yo, yc, rfl⟩ := hb.shape
    have HA := hid_mk ha
    have HBb := hid_mk hb
    have HLo := hid_mk (lost_any L w.heap.size (.slice ao L.length cp) w1 hl (by rw [hs1]; exact Nat.le_refl _) (HV.out.below HB1.out (Nat.le_refl _)))
    clear ha hb hm hs1 he hn HP
    have hE : Even L ∧ 0 ≤ level ∧ level ≤ 2 ∧ 1 ≤ n ∧ n ≤ 16 := by
      have h := HPE.out
      have h2 := HNL.out
      unfold partErr at h
      split at h
      · cases h
      · split at h
        · rename_i h3 h4
          exact ⟨h4.2, by omega, by omega, by omega, by omega⟩
        · cases h
    obtain ⟨hE, hl0, hl2, hn1', hn16⟩ := hE
    obtain ⟨lv, rfl⟩ := Int.eq_ofNat_of_zero_le hl0
    have HE := hid_mk hE
    clear hE
    go_wp2_with fail
    refine HLo.out.mono ?_
    rintro e w2 ⟨rfl, hb2⟩
    have HB2 : Hid (Below w1.heap.size w1 w2) := hb2
    have HBW2 : Hid (Below w.heap.size w w2) := HB1.out.trans (hb2.mono HB1.out.size)
    clear hb2 HLo
    by_cases hlost : lv < lostN L
    · have hlost' : (lv : Int) < (lostN L : Int) := by omega
      have HME : Hid (mendErr L (lv : Int) = 11) := by show _ = _; unfold mendErr; rw [if_neg (by rw [HPE.out]; decide), if_pos hlost']
      go_wp2
      go_ret2
      exact mendPost_bad HME.out (by decide) HBW2.out
    · have hlost' : ¬ (lv : Int) < (lostN L : Int) := by omega
      have HME : Hid (mendErr L (lv : Int) = 0) := by show _ = _; unfold mendErr; rw [if_neg (by rw [HPE.out]; decide), if_neg hlost']
      have HNO : Hid (nOf L (lv : Int) = n) := by have := HNL.out; show _ = _; unfold nOf; omega
      have HTL : Hid (D.length = n) := by have := HNL.out; show _ = _; rw [HD.out, List.length_take]; omega
      have HLN : Hid (L.length = n + lv) := by have := HNL.out; show _ = _; omega
      have HA2 : Hid (Pcs w.heap.size w2 (.slice xo D.length xc) D) := HA.out.below HB2.out (by rw [HS1.out]; exact Nat.le_refl _)
      have HBb2 : Hid (Pcs w.heap.size w2 (.slice yo R.length yc) R) := HBb.out.below HB2.out (by rw [HS1.out]; exact Nat.le_refl _)
      have HCL := hid_mk (clone_any D w.heap.size _ w2 (by rw [HTL.out]; omega) (fun b hb => HPL.out b (List.mem_of_mem_take (by rw [← HD.out]; exact hb))) HBW2.out.size HA2.out)
      clear HA HBb
      go_wp2_with fail
      refine HCL.out.mono ?_
      rintro e w3 ⟨g, rfl, hg, ho3, hb3⟩
      have HO3 := hid_mk ho3
      have HB3 := hid_mk hb3
      have HBW3 : Hid (Below w.heap.size w w3) := HBW2.out.trans (hb3.mono HBW2.out.size)
      have HGP := hid_mk (gaps_any D w.heap.size (.slice xo D.length xc) w3 (by rw [HTL.out]; omega) HBW3.out.size (HA2.out.below hb3 HBW2.out.size))
      clear ho3 hb3 HCL
      go_wp2_with fail
      refine HGP.out.mono ?_
      rintro e w4 ⟨gv, rfl, hgo, hb4⟩
      obtain ⟨go, gc, rfl⟩ := IOwns.shape hgo
      have HGO := hid_mk hgo
      have HB4 := hid_mk hb4
      have HBW4 : Hid (Below w.heap.size w w4) := HBW3.out.trans (hb4.mono HBW3.out.size)
      have HO4 := hid_mk (HO3.out.below hb4)
      have HG2 : Hid (lostN D ≤ 2) := by
        have h1 := lost_split (L := L) n
        rw [← HD.out] at h1
        show _ ≤ _
        omega
      clear hgo hb4 HGP
      match hgs : gaps 0 D with
      | [] =>
        rw [hgs] at HGO
        have HOK : Hid (MendR L (lv : Int) D) := by show Mended _ _ _ _ _; rw [HNO.out, ← HD.out]; exact mended_none hgs
        clear hgs
        go_wp2
        go_ret2
        exact mendPost_good HME.out HOK.out (HO4.out.pcsR.mono HBW2.out.size (Nat.le_refl _)) HBW4.out
      | [i] =>
        rw [hgs] at HGO
        obtain ⟨i', hi', ei, h0i⟩ := (mem_gaps 0 D i).1 (by rw [hgs]; simp)
        obtain rfl : i' = i := by omega
        have hin : i' < n := by rw [HTL.out] at hi'; exact hi'
        have HON := hid_mk (one_any L n lv i' (.slice xo D.length xc) (.slice yo R.length yc) w4.drew HLN.out (by omega) (by omega) (by rw [← HD.out]; exact hgs) (by omega) hl HE.out (by rw [← HD.out]; exact (((HA2.out.below HB3.out HBW2.out.size).below HB4.out HBW3.out.size).mono HBW4.out.size).below (drew_below _ _) (Nat.le_refl _)) (by rw [← HRr.out]; exact (((HBb2.out.below HB3.out HBW2.out.size).below HB4.out HBW3.out.size).mono HBW4.out.size).below (drew_below _ _) (Nat.le_refl _)))
        have HGS := hid_mk hgs
        rw [← HD.out] at HON
        obtain ⟨gg, e2, hgg, hcg⟩ := HGO.out.get 0 (by simp)
        subst e2
        have hcg' : w4.cell? ⟨gg, 0, none⟩ = some (.int .i64 (i' : Int)) := by simpa using hcg
        have hgg4 : gg < w4.heap.size := by
          rcases Nat.lt_or_ge gg w4.heap.size with h | h
          · exact h
          · simp [World.cell?, Array.getElem?_eq_none h] at hcg'
        obtain ⟨vs, v1, v2, v3⟩ := HO4.out
        obtain ⟨z, c1, f1⟩ : ∃ z, w4.cell? ⟨g, i', none⟩ = some z ∧ w4.frozen? ⟨g, i', none⟩ = false := ⟨_, v1.cell i' (by rw [v2]; exact hi')⟩
        have hg4 : g < w4.heap.size := by
          rcases Nat.lt_or_ge g w4.heap.size with h | h
          · exact h
          · simp [World.cell?, Array.getElem?_eq_none h] at c1
        have hgne : g ≠ gg := by
          have h1 := HB3.out.size
          have h3 : g < w3.heap.size := by
            obtain ⟨us, u1, _⟩ := HO3.out
            exact u1.old rfl
          omega
        have hgne' : gg ≠ g := Ne.symm hgne
        clear hcg hgs ei h0i v1 v2 v3
        have hi'' : (i' : Int) < (D.length : Int) := by omega
        go_wp2
        go_region_held3 (fun w' => w'.cell? ⟨gg, 0, none⟩ = some (.int .i64 (i' : Int))) (go_keep) (first | (go_at_call 51; refine HON.out.mono ?_; rintro e w5 ⟨X, ⟨B, bc, rfl, hB, hp5, hb5⟩, hX1, hX2⟩; have d1 := (hb5.cell (p := ⟨gg, 0, none⟩) hgg4).trans hcg'; have d2 := (hb5.cell (p := ⟨g, i', none⟩) hg4).trans c1; have d3 := (hb5.frozen (p := ⟨g, i', none⟩) hg4).trans f1; have HB5 := hid_mk hb5; have HBB := hid_mk hB; have HP5 := hid_mk hp5; have HX1 := hid_mk hX1; have HX2 := hid_mk hX2; clear hB hb5 hp5 hX1 hX2))
        all_goals go_wp2
        all_goals go_ret2
        all_goals exact mendPost_good HME.out (mend_one_R HNO.out HD.out HGS.out HX1.out HX2.out) (((((HO4.out.below (drew_below _ _)).below HB5.out).put i' _ (vec (szOf L) X) (HP5.out.el (vec_length _ _).symm (Nat.le_trans (Nat.le_trans HB3.out.size HB4.out.size) HBB.out) bc)).pcsR).mono HBW2.out.size (Nat.le_refl _)) ((HBW4.out.trans ((drew_below w.heap.size w4).trans (HB5.out.mono HBW4.out.size))).setCell (p := ⟨g, i', none⟩) (Nat.le_trans HBW2.out.size hg) _)
      | [i, j] =>
        rw [hgs] at HGO
        have hsrt := gaps_sorted 0 D
        rw [hgs] at hsrt
        have hij : i < j := by simpa using hsrt
        obtain ⟨j', hj', ej, h0j⟩ := (mem_gaps 0 D j).1 (by rw [hgs]; simp)
        obtain rfl : j' = j := by omega
        have hjn : j' < n := by rw [HTL.out] at hj'; exact hj'
        have HON := hid_mk (both_any L n lv i j' (.slice xo D.length xc) (.slice yo R.length yc) w4.drew HLN.out (by omega) (by omega) (by rw [← HD.out]; exact hgs) (by omega) hl HE.out (by rw [← HD.out]; exact (((HA2.out.below HB3.out HBW2.out.size).below HB4.out HBW3.out.size).mono HBW4.out.size).below (drew_below _ _) (Nat.le_refl _)) (by rw [← HRr.out]; exact (((HBb2.out.below HB3.out HBW2.out.size).below HB4.out HBW3.out.size).mono HBW4.out.size).below (drew_below _ _) (Nat.le_refl _)))
        have HGS := hid_mk hgs
        rw [← HD.out] at HON
        obtain ⟨gg, e2, hgg, hcg⟩ := HGO.out.get 0 (by simp)
        subst e2
        obtain ⟨gg', e3, _, hcg2⟩ := HGO.out.get 1 (by simp)
        cases e3
        have hcg' : w4.cell? ⟨gg, 0, none⟩ = some (.int .i64 (i : Int)) := by simpa using hcg
        have hcg2' : w4.cell? ⟨gg, 1, none⟩ = some (.int .i64 (j' : Int)) := by simpa using hcg2
        have hgg4 : gg < w4.heap.size := by
          rcases Nat.lt_or_ge gg w4.heap.size with h | h
          · exact h
          · simp [World.cell?, Array.getElem?_eq_none h] at hcg'
        obtain ⟨vs, v1, v2, v3⟩ := HO4.out
        obtain ⟨z, c1, f1⟩ : ∃ z, w4.cell? ⟨g, i, none⟩ = some z ∧ w4.frozen? ⟨g, i, none⟩ = false := ⟨_, v1.cell i (by rw [v2]; omega)⟩
        obtain ⟨z2, c2, f2⟩ : ∃ z, w4.cell? ⟨g, j', none⟩ = some z ∧ w4.frozen? ⟨g, j', none⟩ = false := ⟨_, v1.cell j' (by rw [v2]; exact hj')⟩
        have hg4 : g < w4.heap.size := by
          rcases Nat.lt_or_ge g w4.heap.size with h | h
          · exact h
          · simp [World.cell?, Array.getElem?_eq_none h] at c1
        have hgne : g ≠ gg := by
          have h1 := HB3.out.size
          have h3 : g < w3.heap.size := by
            obtain ⟨us, u1, _⟩ := HO3.out
            exact u1.old rfl
          omega
        have hgne' : gg ≠ g := Ne.symm hgne
        have hijn : i ≠ j' := by omega
        have hijn' : j' ≠ i := by omega
        clear hcg hcg2 hgs ej h0j v1 v2 v3 hsrt
        have hi'' : (i : Int) < (D.length : Int) := by omega
        have hj'' : (j' : Int) < (D.length : Int) := by omega
        have HIJ := hid_mk hij
        go_wp2
        go_region_held3 (fun w' => w'.cell? ⟨gg, 0, none⟩ = some (.int .i64 (i : Int)) ∧ w'.cell? ⟨gg, 1, none⟩ = some (.int .i64 (j' : Int))) (go_keep) (first | (go_at_call 52; refine HON.out.mono ?_; rintro e w5 ⟨X, Y, ⟨B, C, bc, rfl, hB, hC, hBC, hp5, hq5, hb5⟩, hX1, hX2⟩; have d1 := (hb5.cell (p := ⟨gg, 0, none⟩) hgg4).trans hcg'; have d1' := (hb5.cell (p := ⟨gg, 1, none⟩) hgg4).trans hcg2'; have d2 := (hb5.cell (p := ⟨g, i, none⟩) hg4).trans c1; have d3 := (hb5.frozen (p := ⟨g, i, none⟩) hg4).trans f1; have d4 := (hb5.cell (p := ⟨g, j', none⟩) hg4).trans c2; have d5 := (hb5.frozen (p := ⟨g, j', none⟩) hg4).trans f2; have HB5 := hid_mk hb5; have HBB := hid_mk hB; have HCC := hid_mk hC; have HP5 := hid_mk hp5; have HQ5 := hid_mk hq5; have HX1 := hid_mk hX1; have HX2 := hid_mk hX2; clear hB hC hBC hb5 hp5 hq5 hX1 hX2))
        all_goals go_wp2
        all_goals go_ret2
        obtain ⟨us, u1, u2, u3⟩ := (HO4.out.below (drew_below _ _)).below HB5.out
        have HE1 := HP5.out.el (vec_length _ _).symm (Nat.le_trans (Nat.le_trans HB3.out.size HB4.out.size) HBB.out) bc
        have HE2 := (HQ5.out.el (vec_length _ _).symm (Nat.le_trans (Nat.le_trans HB3.out.size HB4.out.size) HCC.out) (szOf L)).set_other u1 rfl i (.slice (some ⟨B, 0, none⟩) (szOf L) bc)
        have HL2 := (((HO4.out.below (drew_below _ _)).below HB5.out).put i _ (vec (szOf L) X) HE1).put j' _ (vec (szOf L) Y) HE2
        exact mendPost_good HME.out (mend_two_R HNO.out HD.out HGS.out HX1.out HX2.out) (HL2.pcsR.mono HBW2.out.size (Nat.le_refl _)) (((HBW4.out.trans ((drew_below w.heap.size w4).trans (HB5.out.mono HBW4.out.size))).setCell (p := ⟨g, i, none⟩) (Nat.le_trans HBW2.out.size hg) _).setCell (p := ⟨g, j', none⟩) (Nat.le_trans HBW2.out.size hg) _)
      | _ :: _ :: _ :: _ => exact absurd HG2.out (by unfold lostN; rw [hgs]; simp)
  · have HME : Hid (mendErr L level = partErr L level) := by show _ = _; unfold mendErr; rw [if_pos he]
    obtain ⟨c, hc⟩ : ∃ c, c = partErr L level := ⟨_, rfl⟩
    rw [← hc] at HME he ⊢
    clear hc HP
    go_wp2
    go_ret2
    exact mendPost_bad HME.out he (Below.refl _ _)
end Go.Proofs.YtigaabhicjcbjabDoor
