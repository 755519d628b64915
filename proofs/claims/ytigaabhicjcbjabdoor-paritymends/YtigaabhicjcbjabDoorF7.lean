/-
  The document's own Mend: the walk.
-/
import Derived.Test.YtigaabhicjcbjabDoorF7a
namespace Go.Proofs.YtigaabhicjcbjabDoor
open Go.ChangeShapes Go.WideShapes Go.ChangeAt Go.RowKit
set_option linter.unusedVariables false

/-- The blocks of the rows from the k-th on lie below N. -/
def LowB (vs : List Value) (k N : Nat) : Prop := ∀ j (hj : j < vs.length), k ≤ j → ∀ g, vs[j].ownBlock = some g → g < N
theorem LstD.low {w : World} {base : Nat} {x : Value} {M : List (List UInt8)} {vs : List Value} (h : LstD w base x M vs) (k : Nat) : LowB vs k w.heap.size := fun j hj _ g hg => h.old j hj (by rw [← h.2.1]; exact hj) hg
set_option maxRecDepth 1000000 in
set_option maxHeartbeats 4000000 in
theorem rmend_good (L O : List (List UInt8)) (n lv : Nat) (v : Value) (w : World) (hn : L.length = n + lv) (hlv : lv ≤ 2) (hn1 : 1 ≤ n) (hn16 : n ≤ 16) (hE : Even L) (hlost : lostN L ≤ lv) (hM : Mended (L.take n) (szOf L) (pOf L n) (qOf L n) O) (hv : Pcs w.heap.size w v L) :
    Calls Tryd.prog 22 #[v, .int .i64 (lv : Int)] w fun e w' => ∃ u, e = .returned (.tuple #[u, .int .i64 0]) ∧ PcsR w.heap.size w'.heap.size w' u O ∧ Below w.heap.size w w' := by
  have hsz1 := hE.2.1
  have hsz2 := hE.2.2
  have hpl : ∀ b ∈ L, b.length ≤ 140737488355328 := fun b hb => by rcases hE.1 b hb with h | h <;> omega
  have HR := hid_mk (rsize_any L w.heap.size ((n : Int)) v w (by omega) hv hpl)
  have hrs : rsz L (n : Int) = (szOf L : Int) := by unfold rsz; rw [if_pos ⟨hE, by omega, by omega⟩]
  rw [hrs] at HR
  have HEm := hid_mk (rempty_any L w.heap.size v w (by omega) hv)
  obtain ⟨ao, cp, rfl⟩ := hv.shape
  have hcp := hv.cap.2
  obtain ⟨b, off, rfl, hbb⟩ := hv.some_of (by omega)
  have HT := hid_mk (hv.take (k := 0) n (by omega))
  obtain ⟨vals, hvl, hvc, hvs, hvr⟩ := hv.vals
  have HV := hid_mk hv
  have HVL := hid_mk hvl
  have HVC := hid_mk hvc
  have HVS := hid_mk hvs
  have HVR := hid_mk hvr
  have HMM := hid_mk hM
  have HE := hid_mk hE
  have HN := hid_mk hn
  have hnU : n < L.length ∨ lv = 0 := by omega
  obtain ⟨D, hD⟩ : ∃ D, D = L.take n := ⟨_, rfl⟩
  have HD := hid_mk hD
  have HDL : Hid (D.length = n) := by show _ = _; rw [hD, List.length_take]; omega
  rw [← hD] at HT HMM
  have HDE := fun w' (hb : Below w.heap.size w w') => rempty_any D w.heap.size (.slice (some ⟨b, off, none⟩) n cp) w' (by rw [HDL.out]; omega) (HT.out.below hb (Nat.le_refl _))
  have HDE' := hid_mk HDE
  clear HDE
  obtain ⟨sz, hsz⟩ : ∃ sz, sz = szOf L := ⟨_, rfl⟩
  have HZ := hid_mk hsz
  rw [← hsz] at HR HMM hsz1 hsz2
  have hni : (L.length : Int) - (lv : Int) = (n : Int) := by omega
  have hnc : (n : Int) ≤ (cp : Int) := by omega
  have hLL : (L.length : Int) ≤ 18 := by omega
  have hlost' : ¬ (lv : Int) < (lostN L : Int) := by omega
  have HLO := hid_mk hlost
  have hs0 : ¬ (sz : Int) < 0 := by omega
  have hlv0 : ¬ (lv : Int) < 0 := by omega
  have hlv2 : ¬ (2 : Int) < (lv : Int) := by omega
  clear hv hvl hvc hvs hvr hM hE hn hD hsz hrs hpl hlost
  go_enter Tryd.func22, Tryd.ntmps22
  go_wp2_with fail
  refine HR.out.mono ?_
  rintro e w1 ⟨rfl, rfl⟩
  go_wp2_with fail
  refine HEm.out.mono ?_
  rintro e w1' ⟨rfl, rfl⟩
  have HBM : Hid (Below w1'.heap.size w1' (w1'.alloc (.cells #[] 22))) := (Below.refl _ _).alloc (Nat.le_refl _) _
  go_wp2_with (at_builtin; refine wpList_addAll rfl _ _ rfl w1'.heap.size _ rfl (sowns_made w1' _ rfl) b off L.length cp vals rfl HVL.out (fun i h => (HBM.out.cell (p := ⟨b, off + i, none⟩) hbb).trans (HVC.out i h)) HVS.out (by omega) HBM.out.size ?_; intro v' w2 h1 h2 h3; obtain ⟨uo, uc, hu⟩ := h1.shape; rw [HVL.out] at hu; subst hu; have HU := hid_mk h1; have HB2 := hid_mk (HBM.out.trans h2); clear h1 h2 h3)
  refine (HDE'.out w2 HB2.out).mono ?_
  rintro e w2' ⟨rfl, rfl⟩
  have HRD : Hid (∀ i (h1 : i < vals.length) (h2 : i < L.length), Rd w2'.heap.size w2' vals[i] L[i]) := fun i h1 h2 => ((HVR.out i h1 h2).below HB2.out (Nat.le_refl _)).mono (fun x (hx : x < _) => Nat.lt_of_lt_of_le hx HB2.out.size)
  have HPL : Hid (∀ k, k < L.length → Pcs w1'.heap.size w1' (.slice (some ⟨b, off, none⟩) L.length cp) L) := fun _ _ => HV.out
  by_cases hl1 : lostN D = 1
  · have hl1' : (lostN D : Int) = 1 := by omega
    by_cases hlv2' : lv = 2
    · subst hlv2'
      have hnn : n < L.length := by have := HN.out; omega
      obtain ⟨b', off', ul, ucp, e', hbb', hcP, hrP⟩ := HV.out.get n hnn
      cases e'
      have hP2 := (HB2.out.cell (p := ⟨b, off + n, none⟩) hbb).trans hcP
      have ep : pOf L n = L[n] := by simp [pOf, hnn]
      rw [← ep] at hP2
      obtain ⟨pl, hpl⟩ : ∃ pl, pl = (pOf L n).length := ⟨_, rfl⟩
      rw [← hpl] at hP2
      have hnL' : (n : Int) < (L.length : Int) := by omega
      have hnn1 : (n : Int) + 1 < (L.length : Int) := by have := HN.out; omega
      clear hcP hrP ep
      by_cases hp0 : 0 < pl
      · have hp0' : (0 : Int) < (pl : Int) := by omega
        have HUE : Hid (useOf L n 2 = L.set (n + 1) []) := by show _ = _; unfold useOf; rw [if_pos ⟨by rw [← HD.out]; exact hl1, rfl, by omega⟩]
        obtain ⟨gu, e2, _, _, _, _⟩ := HU.out.get 0 (by rw [HVL.out]; omega)
        subst e2
        obtain ⟨z, c1, f1⟩ : ∃ z, w2'.cell? ⟨gu, n + 1, none⟩ = some z ∧ w2'.frozen? ⟨gu, n + 1, none⟩ = false := ⟨_, HU.out.cell (n + 1) (by rw [HVL.out]; omega)⟩
        have HUP : Hid (Pcs w2'.heap.size (w2'.setCell ⟨gu, n + 1, none⟩ (.slice none 0 0)) (.slice (some ⟨gu, 0, none⟩) L.length uc) (useOf L n 2)) := by
          have hs := HU.out.put (n + 1) (.slice none 0 0)
          have hsz : (w2'.setCell ⟨gu, n + 1, none⟩ (.slice none 0 0)).heap.size = w2'.heap.size := by simp [World.setCell]
          rw [HUE.out]
          have h := sowns_pcs0 hs (M := L.set (n + 1) []) (by rw [List.length_set, List.length_set]; exact HVL.out) (by rw [List.length_set]; omega) (fun i h1 h2 => by
            rw [List.getElem_set, List.getElem_set]
            by_cases hi : n + 1 = i
            · simp only [if_pos hi]; exact .inl ⟨rfl, rfl⟩
            · simp only [if_neg hi]
              have := HRD.out i (by simpa using h1) (by simpa using h2)
              rw [hsz]
              have hlow := HVR.out i (by simpa using h1) (by simpa using h2)
              have hgu : w1'.heap.size ≤ gu := HU.out.block gu rfl
              exact ((hlow.below HB2.out (Nat.le_refl _)).keep (fun x (hx : x < _) => heap_set_other _ _ _ _ _ (by omega))).mono (fun x (hx : x < _) => Nat.lt_of_lt_of_le hx HB2.out.size))
          rw [hsz] at h
          exact h
        have HBW : Hid (Below w1'.heap.size w1' (w2'.setCell ⟨gu, n + 1, none⟩ (.slice none 0 0))) := HB2.out.setCell (p := ⟨gu, n + 1, none⟩) (HU.out.block gu rfl) _
        have HSZ : Hid ((w2'.setCell ⟨gu, n + 1, none⟩ (.slice none 0 0)).heap.size = w2'.heap.size) := by show _ = _; simp [World.setCell]
        have HPE := hid_mk hpl
        clear hpl
        go_wp2
        try simp only [hp0, decide_true]
        obtain ⟨W, hW⟩ : ∃ W, W = w2'.setCell ⟨gu, n + 1, none⟩ (.slice none 0 0) := ⟨_, rfl⟩
        rw [← hW] at HUP HBW HSZ ⊢
        rw [← HSZ.out] at HUP
        clear hW c1 f1 hP2
        go_loopw [9, 10] (fun x ii wr => ∃ (xo : Option Addr) (xc k : Nat) (vs : List Value), x = .slice xo k xc ∧ ii = .int .i64 (k : Int) ∧ k ≤ n ∧ LstD wr W.heap.size (.slice xo k xc) (D.take k) vs ∧ Below W.heap.size W wr) (fun _ ii _ => n - (intOf ii).toNat)
        case atStart => exact ⟨none, 0, 0, [], rfl, rfl, by omega, ⟨SOwns.nil _ _, rfl, fun i h => by simp at h, fun i j h => by simp at h⟩, Below.refl _ _⟩
        case round =>
          obtain ⟨xo, xc, k, vs, rfl, rfl, hk, hld, hb⟩ := hrel
          obtain ⟨V, hV⟩ : ∃ V, V = wr := ⟨_, rfl⟩
          subst hV
          have HLD := hid_mk hld
          have HB := hid_mk hb
          have HBWV : Hid (Below w1'.heap.size w1' V) := HBW.out.trans (hb.mono HBW.out.size)
          clear hld hb
          by_cases hlt : k < n
          · have hkL : k < L.length := by have := HN.out; omega
            obtain ⟨b', off', ul, ucp, e', hbb', hc0, hr0⟩ := HV.out.get k hkL
            cases e'
            have hlt' : (k : Int) < (n : Int) := by omega
            have hkL' : (k : Int) < (L.length : Int) := by omega
            have hc1 := (HBWV.out.cell (p := ⟨b, off + k, none⟩) hbb).trans hc0
            have HDK : Hid (D.take (k + 1) = D.take k ++ [L[k]]) := by
              show _ = _
              rw [take_snoc D k (by rw [HDL.out]; exact hlt)]
              congr 2
              simp only [HD.out, List.getElem_take]
            have hz4 : L[k].length ≤ 4096 := by
              rcases HE.out.1 _ (List.getElem_mem hkL) with h | h <;> have := HZ.out <;> omega
            have HZ4 := hid_mk hz4
            have HVA : Hid (Below V.heap.size V (V.alloc (.cells #[] 5))) := (Below.refl _ _).alloc (Nat.le_refl _) _
            have HRK : Hid (Rd w1'.heap.size (V.alloc (.cells #[] 5)) (.slice ul L[k].length ucp) L[k]) := (hr0.below HBWV.out (Nat.le_refl _)).below HVA.out HBWV.out.size
            obtain ⟨z, hz⟩ : ∃ z, z = L[k].length := ⟨_, rfl⟩
            rw [← hz] at hc1 HRK
            have HZZ := hid_mk hz
            have HVL2 : Hid (vs.length = k) := by show _ = _; rw [HLD.out.2.1, List.length_take, HDL.out]; omega
            have hc2 := (HVA.out.cell (p := ⟨b, off + k, none⟩) (show b < V.heap.size from Nat.lt_of_lt_of_le hbb HBWV.out.size)).trans hc1
            clear hc0 hr0 hz4 hz hc1
            go_wp2_with (first
              | (at_builtin; refine wpList_addR rfl _ _ rfl V.heap.size _ [] rfl (owns_made V _ rfl) (fun e => by cases e) _ w1'.heap.size L[k] rfl HRK.out (by have := HZ4.out; simp; omega) HVA.out.size ?_; intro v' w3 h1 h2 h3; obtain ⟨kk, kc, rfl, hkk, hpk⟩ := Owns.ptr h1 h3; have HO3 : Hid (Owns w3 V.heap.size (.slice (some ⟨kk, 0, none⟩) ([] ++ L[k]).length kc) ([] ++ L[k])) := h1; have HB3 := hid_mk ((HVA.out.trans h2)); have HKK := hid_mk hkk; clear h1 h2 h3 hpk hkk)
              | (at_builtin; refine wpList_addS 33 Tryd.underlying33 rfl _ _ rfl W.heap.size _ vs rfl w3 _ _ _ rfl (HLD.out.below HB3.out).1 _ rfl rfl (by rw [HVL2.out]; omega) (Nat.le_trans HB.out.size HB3.out.size) ?_; intro v' w4 h1 h2 h3; obtain ⟨yo, yc, hy⟩ := h1.shape; rw [List.length_append, HVL2.out] at hy; have hy' : v' = .slice yo (k + 1) yc := hy; subst hy'; have H4 := hid_mk h1; have HG4 := hid_mk h2; have HB4 := hid_mk h3; clear hy h1 h2 h3))
            go_roundw
            case rel =>
              have hso : SOwns w4 W.heap.size (.slice yo (k + 1) yc) (vs ++ [.slice (some ⟨kk, 0, none⟩) L[k].length kc]) := H4.out
              refine ⟨yo, yc, k + 1, vs ++ [.slice (some ⟨kk, 0, none⟩) L[k].length kc], rfl, by go_num, by omega, ?_, HB.out.trans ((HB3.out.mono HB.out.size).trans HB4.out)⟩
              rw [HDK.out]
              exact (HLD.out.below HB3.out).snoc (N := V.heap.size) (k := kk) (HO3.out.mono HB.out.size) rfl HKK.out (fun i h1 g hg => HLD.out.low 0 i h1 (Nat.zero_le _) g hg) hso HG4.out
            case measure => simp [intOf]; omega
          · have hkn : k = n := by omega
            subst hkn
            have HLD0 : Hid (LstD V W.heap.size (.slice xo k xc) (grow D O (fun _ => 0)) vs) := by
              show LstD _ _ _ _ _
              rw [grow_zero]
              have h := HLD.out
              rw [List.take_of_length_le (by rw [HDL.out]; exact Nat.le_refl _)] at h
              exact h
            have HUV : Hid (Pcs W.heap.size V (.slice (some ⟨gu, 0, none⟩) L.length uc) (useOf L k 2)) := HUP.out.below HB.out (Nat.le_refl _)
            go_wp2
            go_loopw [11] (fun tt wr => ∃ (t : Nat) (vs : List Value), tt = .int .i64 (t : Int) ∧ t ≤ sz ∧ LstD wr W.heap.size (.slice xo k xc) (grow D O (fun _ => t)) vs ∧ Below W.heap.size V wr) (fun tt _ => sz - (intOf tt).toNat)
            case atStart => exact ⟨0, vs, rfl, by omega, HLD0.out, Below.refl _ _⟩
            case round =>
              obtain ⟨t, vt, rfl, ht, hlt', hbt⟩ := hrel
              obtain ⟨X, hX⟩ : ∃ X, X = wr := ⟨_, rfl⟩
              subst hX
              have HLT := hid_mk hlt'
              have HBT := hid_mk hbt
              have HBX : Hid (Below w1'.heap.size w1' X) := HBWV.out.trans (HBT.out.mono HBW.out.size)
              have HWX : Hid (W.heap.size ≤ X.heap.size) := Nat.le_trans HB.out.size HBT.out.size
              clear hlt' hbt
              by_cases hts : t < sz
              · have hts' : (t : Int) < (sz : Int) := by omega
                have HFD := hid_mk (found_any L O k 2 t sz (.slice (some ⟨gu, 0, none⟩) L.length uc) X HN.out (by omega) hn16 hsz2 hts (fun b hb => by rw [HZ.out]; exact HE.out.1 b hb) HLO.out (by rw [← HD.out]; exact HMM.out) ((HUV.out.below HBT.out (Nat.le_refl _)).mono HWX.out))
                rw [← HD.out] at HFD
                go_wp2_with fail
                refine HFD.out.mono ?_
                rintro e w5 ⟨fv, rfl, hfv, hfb, hb5⟩
                obtain ⟨fo, fc, rfl⟩ := hfv.shape
                have HFV := hid_mk hfv
                have HFB := hid_mk hfb
                have HB5 := hid_mk hb5
                have HL5 := hid_mk (HLT.out.below hb5)
                have HLO5 : Hid (LowB vt 0 X.heap.size) := HLT.out.low 0
                clear hfv hfb hb5 HFD
                obtain ⟨m0, hm0⟩ : ∃ m0, m0 = (fillOf D O t).length := ⟨_, rfl⟩
                rw [← hm0] at HFV HFB ⊢
                have HM0 := hid_mk hm0
                clear hm0
                go_wp2
                go_loopw [12, 13] (fun fl ii wr => ∃ (go : Option Addr) (gc m j : Nat) (us : List Value), fl = .slice go m gc ∧ ii = .int .i64 (j : Int) ∧ j ≤ k ∧ m = ((fillOf D O t).drop (lostN (D.take j))).length ∧ FillR w5.heap.size wr (.slice go m gc) ((fillOf D O t).drop (lostN (D.take j))) ∧ (∀ b, (Value.slice go m gc).ownBlock = some b → X.heap.size ≤ b) ∧ LstD wr W.heap.size (.slice xo k xc) (grow D O (upk j t)) us ∧ LowB us j X.heap.size ∧ Below W.heap.size w5 wr) (fun _ ii _ => k - (intOf ii).toNat)
                case atStart => exact ⟨fo, fc, m0, 0, vt, rfl, rfl, by omega, HM0.out, HFV.out, HFB.out, HL5.out, HLO5.out, Below.refl _ _⟩
                case round =>
                  obtain ⟨go, gc, m, j, us, rfl, rfl, hj, hm, hfr, hfb, hld, hlo, hb6⟩ := hrel
                  obtain ⟨Y, hY⟩ : ∃ Y, Y = wr := ⟨_, rfl⟩
                  subst hY
                  have HM := hid_mk hm
                  have HFR := hid_mk hfr
                  have HFBB := hid_mk hfb
                  have HLJ := hid_mk hld
                  have HLOJ := hid_mk hlo
                  have HB6 := hid_mk hb6
                  have HBY : Hid (Below w1'.heap.size w1' Y) := HBX.out.trans ((HB5.out.mono HBX.out.size).trans (HB6.out.mono HBW.out.size))
                  clear hm hfr hfb hld hlo hb6
                  by_cases hjk : j < k
                  · have hjL : j < L.length := by have := HN.out; omega
                    have hjL' : (j : Int) < (L.length : Int) := by omega
                    have hjk' : (j : Int) < (k : Int) := by omega
                    have hjD : j < D.length := by rw [HDL.out]; exact hjk
                    obtain ⟨b', off', ul, ucp, e', hbb', hc0, hr0⟩ := HV.out.get j hjL
                    cases e'
                    have hc1 := (HBY.out.cell (p := ⟨b, off + j, none⟩) hbb).trans hc0
                    have HDJ : Hid (D[j] = L[j]) := by show _ = _; simp only [HD.out, List.getElem_take]
                    clear hc0 hr0
                    by_cases h0 : L[j].length = 0
                    · rw [h0] at hc1
                      have h0D : D[j].length = 0 := by rw [HDJ.out]; exact h0
                      have hfr := HFR.out
                      rw [fillOf_drop hjD h0D] at hfr
                      obtain ⟨fb, foff, c', e1, hfb', hcp', hfc, hr2, hr3⟩ := hfr.cons
                      obtain ⟨x, hx⟩ : ∃ x, x = at0 (O.getD j []) t := ⟨_, rfl⟩
                      obtain ⟨m', hm'⟩ : ∃ m', m' = ((fillOf D O t).drop (lostN (D.take (j + 1)))).length := ⟨_, rfl⟩
                      rw [← hx] at hfc
                      rw [← hm'] at e1 hr2 hr3 hcp'
                      simp at e1
                      obtain ⟨rfl, rfl, rfl⟩ := e1
                      have hfX : X.heap.size ≤ fb := HFBB.out fb rfl
                      have HR2 := hid_mk hr2
                      have HR3 := hid_mk hr3
                      have HMM' := hid_mk hm'
                      have HXX := hid_mk hx
                      have hul : j < us.length := by rw [HLJ.out.2.1, grow_len]; exact hjD
                      obtain ⟨hoj, gj, hgj⟩ := HLJ.out.2.2.1 j hul (by rw [grow_len]; exact hjD)
                      have hgjX : gj < X.heap.size := HLOJ.out j hul (Nat.le_refl _) gj hgj
                      rw [grow_get _ _ _ _ (by rw [grow_len]; exact hjD) hjD, if_pos h0D] at hoj
                      have hupk : upk j t j = t := by simp [upk]
                      rw [hupk] at hoj
                      obtain ⟨go2, gc2, hgo2⟩ := hoj.shape
                      rw [vec_length] at hgo2
                      obtain ⟨g, e2, hgW, hgY, _, hcell⟩ := HLJ.out.1.get j hul
                      subst e2
                      have hfz := (HLJ.out.1.cell j hul).2
                      have hgX : g < X.heap.size := HLT.out.1.old rfl
                      rw [hgo2] at hcell hgj hoj
                      cases go2 with
                      | none => simp [Value.ownBlock] at hgj
                      | some a2 =>
                        obtain ⟨h2, rfl, _, hh2, _, _⟩ := hoj.some
                        simp [Value.ownBlock] at hgj
                        subst hgj
                        have hhg : h2 ≠ g := fun e => by
                          subst e
                          rcases hoj.2 with ⟨h3, _⟩ | ⟨g', c'', cur, h3, _, h5, _⟩
                          · cases h3
                          · simp at h3
                            obtain ⟨rfl, _⟩ := h3
                            exact HLJ.out.1.ne5 h5 rfl
                        have HHG := hid_mk hhg
                        have HGG := hid_mk hgo2
                        have HUL := hid_mk hul
                        have HWY : Hid (W.heap.size ≤ Y.heap.size) := Nat.le_trans HWX.out (Nat.le_trans HB5.out.size HB6.out.size)
                        have hfY : fb < Y.heap.size := by
                          rcases Nat.lt_or_ge fb Y.heap.size with h | h
                          · exact h
                          · simp [World.cell?, Array.getElem?_eq_none h] at hfc
                        have HFH : Hid (fb ≠ h2) := by show _ ≠ _; omega
                        have HFG : Hid (fb ≠ g) := by show _ ≠ _; omega
                        have HOJ := hid_mk hoj
                        have HCE := hid_mk hcell
                        have HFZ := hid_mk hfz
                        have HFC := hid_mk hfc
                        have HGY := hid_mk hgY
                        have HGW := hid_mk hgW
                        have HFY := hid_mk hfY
                        have HFX := hid_mk hfX
                        have HGJX := hid_mk hgjX
                        have HGX := hid_mk hgX
                        have HCP' := hid_mk hcp'
                        clear hfr hr2 hr3 hm' hx h0 hoj hgo2 hupk hfX hgjX hgX hfY hgY hgW hfc hfz hcell hhg hcp'
                        go_wp2
                        refine region25 _ _ _ _ _ _ _ _ _ _ _ _ _ _ _ _ _ _ _ _ _ _ _ _ _ _ _ _ _ _ _ _ _ _ _ _ _ _ _ _ _ _ _ _ _ _ _ _ _ _ _ _ _ _ _ _ _ _ _ _ _ _ _ _ _ _ _ _ _ _ _ _ _ _ _ _ _ _ _ _ _ _ _ _ _ _ _ _ _ _ _ _ _ _ _ _ _ _ _ _ _ _ _ _ _ _ _ _ hjk' HGY.out HFY.out HCE.out HFZ.out HFC.out HHG.out HFH.out HFG.out HWY.out (by omega) HCP'.out HOJ.out ?_
                        intro q96 q97 q98 q99 q100 q101 q102 q103 q104 q105 q106 q107 g6 c6 w6 hown6 hgr6 hat6
                        have HYA : Hid (Below Y.heap.size Y (Y.drew.alloc (.cells #[.int .u8 (x.toNat : Int)] 5))) := (drew_below Y.heap.size Y).alloc (Nat.le_refl Y.heap.size) _
                        obtain ⟨Z, hZ⟩ : ∃ Z, Z = w6.setCell ⟨g, j, none⟩ (.slice (some ⟨g6, 0, none⟩) (t + 1) c6) := ⟨_, rfl⟩
                        have HLZ : Hid (LstD Z W.heap.size (.slice (some ⟨g, 0, none⟩) k xc) (grow D O (upk (j + 1) t)) (us.set j (.slice (some ⟨g6, 0, none⟩) (t + 1) c6))) := by
                          have h := (HLJ.out.below HYA.out).grow j HUL.out (by rw [grow_len]; exact hjD) (.slice (some ⟨g6, 0, none⟩) (t + 1) c6) _ g6 hown6 rfl (by rw [HGG.out]; exact hgr6) (by
                            rw [HGG.out]
                            rcases hat6 with h | h
                            · exact .inl (by subst h; rfl)
                            · exact .inr (by rw [h]; simp))
                          rw [HXX.out, ← vec_succ, grow_set D O j t hjD h0D, ← hZ] at h
                          exact h
                        have HKZ : Hid (∀ b, b < Y.heap.size → b ≠ g → b ≠ h2 → Z.heap[b]? = Y.heap[b]?) := fun b hb hbg hbh => by
                          rw [hZ, heap_set_other _ _ _ _ _ hbg]
                          exact (hgr6.block b (Nat.lt_of_lt_of_le hb HYA.out.size) (fun e => hbh (by simpa using e))).trans (HYA.out.block b hb)
                        have HH2 : Hid (W.heap.size ≤ h2) := by obtain ⟨_, e, _, h, _, _⟩ := HOJ.out.some; cases e; exact h
                        have HBZ : Hid (Below W.heap.size Y Z) := by
                          refine ⟨?_, ?_, ?_, ?_, fun b hb => HKZ.out b (Nat.lt_of_lt_of_le hb HWY.out) (fun e => by subst e; exact absurd HGW.out (Nat.not_le.2 hb)) (fun e => by subst e; exact absurd HH2.out (Nat.not_le.2 hb))⟩
                          · rw [hZ]; exact hgr6.os.trans HYA.out.os
                          · rw [hZ]; exact hgr6.tape.trans HYA.out.tape
                          · rw [hZ]; exact hgr6.output.trans HYA.out.output
                          · rw [hZ]; exact Nat.le_trans HYA.out.size (by simpa [World.setCell] using hgr6.size)
                        rw [← hZ]
                        have HLOZ : Hid (LowB (us.set j (.slice (some ⟨g6, 0, none⟩) (t + 1) c6)) (j + 1) X.heap.size) := fun i hi h1 gg hg => by
                          rw [List.getElem_set_ne (by omega)] at hg
                          exact HLOJ.out i (by simpa using hi) (by omega) gg hg
                        have HFK : ∀ b', (some fb) = some b' → Z.heap[b']? = Y.heap[b']? := fun b' e => by cases e; exact HKZ.out fb HFY.out HFG.out HFH.out
                        have HFKH := hid_mk HFK
                        clear hown6 hgr6 hat6 hZ HFK
                        have hmc := HCP'.out
                        by_cases hc0 : c' = 0
                        · subst hc0
                          have hm0 : m' = 0 := by omega
                          go_wp2
                          go_roundw
                          case rel => exact ⟨some ⟨fb, foff, none⟩, 0, m', j + 1, us.set j (.slice (some ⟨g6, 0, none⟩) (t + 1) c6), by simp [hm0], by go_num, by omega, HMM'.out, ((HR3.out rfl).keep (fun b hb => HFKH.out b hb)), fun b hb => by cases hb; exact HFX.out, HLZ.out, HLOZ.out, HB6.out.trans HBZ.out⟩
                          case measure => simp [intOf]; omega
                        · go_wp2
                          go_roundw
                          case rel => exact ⟨some ⟨fb, foff + 1, none⟩, c', m', j + 1, us.set j (.slice (some ⟨g6, 0, none⟩) (t + 1) c6), by simp, by go_num, by omega, HMM'.out, (HR2.out.keep (fun b hb => HFKH.out b hb)), fun b hb => by cases hb; exact HFX.out, HLZ.out, HLOZ.out, HB6.out.trans HBZ.out⟩
                          case measure => simp [intOf]; omega
                    · have h0D : D[j].length ≠ 0 := by rw [HDJ.out]; exact h0
                      have h0' : ¬ (L[j].length : Int) = 0 := by omega
                      obtain ⟨z, hz⟩ : ∃ z, z = L[j].length := ⟨_, rfl⟩
                      rw [← hz] at hc1 h0'
                      clear hz h0
                      go_wp2
                      go_roundw
                      case rel => exact ⟨go, gc, m, j + 1, us, rfl, by go_num, by omega, by rw [lost_keep hjD h0D]; exact HM.out, by rw [lost_keep hjD h0D]; exact HFR.out, HFBB.out, by rw [← grow_skip D O j t hjD h0D]; exact HLJ.out, fun i hi h g hg => HLOJ.out i hi (by omega) g hg, HB6.out⟩
                      case measure => simp [intOf]; omega
                  · have hjk2 : j = k := by omega
                    subst hjk2
                    go_wp2
                    go_roundw
                    case rel => exact ⟨t + 1, us, by go_num, by omega, by rw [grow_congr D O (fun _ => t + 1) (upk j t) (fun i hi => by rw [HDL.out] at hi; simp [upk, hi])]; exact HLJ.out, HBT.out.trans ((HB5.out.mono HWX.out).trans HB6.out)⟩
                    case measure => simp [intOf]; omega
              · have hts2 : t = sz := by omega
                subst hts2
                go_wp2
                go_ret2
                exact ⟨_, rfl, by have h := HLT.out.pcsR; rw [grow_all HMM.out] at h; exact h.mono HBW.out.size (Nat.le_refl _), HBX.out⟩
      · have hp0' : ¬ (0 : Int) < (pl : Int) := by omega
        have HUE : Hid (useOf L n 2 = L) := by show _ = _; unfold useOf; rw [if_neg (fun h => by omega)]
        have HUP : Hid (Pcs w2'.heap.size w2' (.slice uo L.length uc) (useOf L n 2)) := by show Pcs _ _ _ _; rw [HUE.out]; exact sowns_pcs0 HU.out HVL.out (by omega) HRD.out
        have HBW := HB2
        have HPE := hid_mk hpl
        clear hpl
        go_wp2
        try simp only [hp0, decide_false]
        obtain ⟨W, hW⟩ : ∃ W, W = w2' := ⟨_, rfl⟩
        subst hW
        clear hP2
        go_loopw [9, 10] (fun x ii wr => ∃ (xo : Option Addr) (xc k : Nat) (vs : List Value), x = .slice xo k xc ∧ ii = .int .i64 (k : Int) ∧ k ≤ n ∧ LstD wr W.heap.size (.slice xo k xc) (D.take k) vs ∧ Below W.heap.size W wr) (fun _ ii _ => n - (intOf ii).toNat)
        case atStart => exact ⟨none, 0, 0, [], rfl, rfl, by omega, ⟨SOwns.nil _ _, rfl, fun i h => by simp at h, fun i j h => by simp at h⟩, Below.refl _ _⟩
        case round =>
          obtain ⟨xo, xc, k, vs, rfl, rfl, hk, hld, hb⟩ := hrel
          obtain ⟨V, hV⟩ : ∃ V, V = wr := ⟨_, rfl⟩
          subst hV
          have HLD := hid_mk hld
          have HB := hid_mk hb
          have HBWV : Hid (Below w1'.heap.size w1' V) := HBW.out.trans (hb.mono HBW.out.size)
          clear hld hb
          by_cases hlt : k < n
          · have hkL : k < L.length := by have := HN.out; omega
            obtain ⟨b', off', ul, ucp, e', hbb', hc0, hr0⟩ := HV.out.get k hkL
            cases e'
            have hlt' : (k : Int) < (n : Int) := by omega
            have hkL' : (k : Int) < (L.length : Int) := by omega
            have hc1 := (HBWV.out.cell (p := ⟨b, off + k, none⟩) hbb).trans hc0
            have HDK : Hid (D.take (k + 1) = D.take k ++ [L[k]]) := by
              show _ = _
              rw [take_snoc D k (by rw [HDL.out]; exact hlt)]
              congr 2
              simp only [HD.out, List.getElem_take]
            have hz4 : L[k].length ≤ 4096 := by
              rcases HE.out.1 _ (List.getElem_mem hkL) with h | h <;> have := HZ.out <;> omega
            have HZ4 := hid_mk hz4
            have HVA : Hid (Below V.heap.size V (V.alloc (.cells #[] 5))) := (Below.refl _ _).alloc (Nat.le_refl _) _
            have HRK : Hid (Rd w1'.heap.size (V.alloc (.cells #[] 5)) (.slice ul L[k].length ucp) L[k]) := (hr0.below HBWV.out (Nat.le_refl _)).below HVA.out HBWV.out.size
            obtain ⟨z, hz⟩ : ∃ z, z = L[k].length := ⟨_, rfl⟩
            rw [← hz] at hc1 HRK
            have HZZ := hid_mk hz
            have HVL2 : Hid (vs.length = k) := by show _ = _; rw [HLD.out.2.1, List.length_take, HDL.out]; omega
            have hc2 := (HVA.out.cell (p := ⟨b, off + k, none⟩) (show b < V.heap.size from Nat.lt_of_lt_of_le hbb HBWV.out.size)).trans hc1
            clear hc0 hr0 hz4 hz hc1
            go_wp2_with (first
              | (at_builtin; refine wpList_addR rfl _ _ rfl V.heap.size _ [] rfl (owns_made V _ rfl) (fun e => by cases e) _ w1'.heap.size L[k] rfl HRK.out (by have := HZ4.out; simp; omega) HVA.out.size ?_; intro v' w3 h1 h2 h3; obtain ⟨kk, kc, rfl, hkk, hpk⟩ := Owns.ptr h1 h3; have HO3 : Hid (Owns w3 V.heap.size (.slice (some ⟨kk, 0, none⟩) ([] ++ L[k]).length kc) ([] ++ L[k])) := h1; have HB3 := hid_mk ((HVA.out.trans h2)); have HKK := hid_mk hkk; clear h1 h2 h3 hpk hkk)
              | (at_builtin; refine wpList_addS 33 Tryd.underlying33 rfl _ _ rfl W.heap.size _ vs rfl w3 _ _ _ rfl (HLD.out.below HB3.out).1 _ rfl rfl (by rw [HVL2.out]; omega) (Nat.le_trans HB.out.size HB3.out.size) ?_; intro v' w4 h1 h2 h3; obtain ⟨yo, yc, hy⟩ := h1.shape; rw [List.length_append, HVL2.out] at hy; have hy' : v' = .slice yo (k + 1) yc := hy; subst hy'; have H4 := hid_mk h1; have HG4 := hid_mk h2; have HB4 := hid_mk h3; clear hy h1 h2 h3))
            go_roundw
            case rel =>
              have hso : SOwns w4 W.heap.size (.slice yo (k + 1) yc) (vs ++ [.slice (some ⟨kk, 0, none⟩) L[k].length kc]) := H4.out
              refine ⟨yo, yc, k + 1, vs ++ [.slice (some ⟨kk, 0, none⟩) L[k].length kc], rfl, by go_num, by omega, ?_, HB.out.trans ((HB3.out.mono HB.out.size).trans HB4.out)⟩
              rw [HDK.out]
              exact (HLD.out.below HB3.out).snoc (N := V.heap.size) (k := kk) (HO3.out.mono HB.out.size) rfl HKK.out (fun i h1 g hg => HLD.out.low 0 i h1 (Nat.zero_le _) g hg) hso HG4.out
            case measure => simp [intOf]; omega
          · have hkn : k = n := by omega
            subst hkn
            have HLD0 : Hid (LstD V W.heap.size (.slice xo k xc) (grow D O (fun _ => 0)) vs) := by
              show LstD _ _ _ _ _
              rw [grow_zero]
              have h := HLD.out
              rw [List.take_of_length_le (by rw [HDL.out]; exact Nat.le_refl _)] at h
              exact h
            have HUV : Hid (Pcs W.heap.size V (.slice uo L.length uc) (useOf L k 2)) := HUP.out.below HB.out (Nat.le_refl _)
            go_wp2
            go_loopw [11] (fun tt wr => ∃ (t : Nat) (vs : List Value), tt = .int .i64 (t : Int) ∧ t ≤ sz ∧ LstD wr W.heap.size (.slice xo k xc) (grow D O (fun _ => t)) vs ∧ Below W.heap.size V wr) (fun tt _ => sz - (intOf tt).toNat)
            case atStart => exact ⟨0, vs, rfl, by omega, HLD0.out, Below.refl _ _⟩
            case round =>
              obtain ⟨t, vt, rfl, ht, hlt', hbt⟩ := hrel
              obtain ⟨X, hX⟩ : ∃ X, X = wr := ⟨_, rfl⟩
              subst hX
              have HLT := hid_mk hlt'
              have HBT := hid_mk hbt
              have HBX : Hid (Below w1'.heap.size w1' X) := HBWV.out.trans (HBT.out.mono HBW.out.size)
              have HWX : Hid (W.heap.size ≤ X.heap.size) := Nat.le_trans HB.out.size HBT.out.size
              clear hlt' hbt
              by_cases hts : t < sz
              · have hts' : (t : Int) < (sz : Int) := by omega
                have HFD := hid_mk (found_any L O k 2 t sz (.slice uo L.length uc) X HN.out (by omega) hn16 hsz2 hts (fun b hb => by rw [HZ.out]; exact HE.out.1 b hb) HLO.out (by rw [← HD.out]; exact HMM.out) ((HUV.out.below HBT.out (Nat.le_refl _)).mono HWX.out))
                rw [← HD.out] at HFD
                go_wp2_with fail
                refine HFD.out.mono ?_
                rintro e w5 ⟨fv, rfl, hfv, hfb, hb5⟩
                obtain ⟨fo, fc, rfl⟩ := hfv.shape
                have HFV := hid_mk hfv
                have HFB := hid_mk hfb
                have HB5 := hid_mk hb5
                have HL5 := hid_mk (HLT.out.below hb5)
                have HLO5 : Hid (LowB vt 0 X.heap.size) := HLT.out.low 0
                clear hfv hfb hb5 HFD
                obtain ⟨m0, hm0⟩ : ∃ m0, m0 = (fillOf D O t).length := ⟨_, rfl⟩
                rw [← hm0] at HFV HFB ⊢
                have HM0 := hid_mk hm0
                clear hm0
                go_wp2
                go_loopw [12, 13] (fun fl ii wr => ∃ (go : Option Addr) (gc m j : Nat) (us : List Value), fl = .slice go m gc ∧ ii = .int .i64 (j : Int) ∧ j ≤ k ∧ m = ((fillOf D O t).drop (lostN (D.take j))).length ∧ FillR w5.heap.size wr (.slice go m gc) ((fillOf D O t).drop (lostN (D.take j))) ∧ (∀ b, (Value.slice go m gc).ownBlock = some b → X.heap.size ≤ b) ∧ LstD wr W.heap.size (.slice xo k xc) (grow D O (upk j t)) us ∧ LowB us j X.heap.size ∧ Below W.heap.size w5 wr) (fun _ ii _ => k - (intOf ii).toNat)
                case atStart => exact ⟨fo, fc, m0, 0, vt, rfl, rfl, by omega, HM0.out, HFV.out, HFB.out, HL5.out, HLO5.out, Below.refl _ _⟩
                case round =>
                  obtain ⟨go, gc, m, j, us, rfl, rfl, hj, hm, hfr, hfb, hld, hlo, hb6⟩ := hrel
                  obtain ⟨Y, hY⟩ : ∃ Y, Y = wr := ⟨_, rfl⟩
                  subst hY
                  have HM := hid_mk hm
                  have HFR := hid_mk hfr
                  have HFBB := hid_mk hfb
                  have HLJ := hid_mk hld
                  have HLOJ := hid_mk hlo
                  have HB6 := hid_mk hb6
                  have HBY : Hid (Below w1'.heap.size w1' Y) := HBX.out.trans ((HB5.out.mono HBX.out.size).trans (HB6.out.mono HBW.out.size))
                  clear hm hfr hfb hld hlo hb6
                  by_cases hjk : j < k
                  · have hjL : j < L.length := by have := HN.out; omega
                    have hjL' : (j : Int) < (L.length : Int) := by omega
                    have hjk' : (j : Int) < (k : Int) := by omega
                    have hjD : j < D.length := by rw [HDL.out]; exact hjk
                    obtain ⟨b', off', ul, ucp, e', hbb', hc0, hr0⟩ := HV.out.get j hjL
                    cases e'
                    have hc1 := (HBY.out.cell (p := ⟨b, off + j, none⟩) hbb).trans hc0
                    have HDJ : Hid (D[j] = L[j]) := by show _ = _; simp only [HD.out, List.getElem_take]
                    clear hc0 hr0
                    by_cases h0 : L[j].length = 0
                    · rw [h0] at hc1
                      have h0D : D[j].length = 0 := by rw [HDJ.out]; exact h0
                      have hfr := HFR.out
                      rw [fillOf_drop hjD h0D] at hfr
                      obtain ⟨fb, foff, c', e1, hfb', hcp', hfc, hr2, hr3⟩ := hfr.cons
                      obtain ⟨x, hx⟩ : ∃ x, x = at0 (O.getD j []) t := ⟨_, rfl⟩
                      obtain ⟨m', hm'⟩ : ∃ m', m' = ((fillOf D O t).drop (lostN (D.take (j + 1)))).length := ⟨_, rfl⟩
                      rw [← hx] at hfc
                      rw [← hm'] at e1 hr2 hr3 hcp'
                      simp at e1
                      obtain ⟨rfl, rfl, rfl⟩ := e1
                      have hfX : X.heap.size ≤ fb := HFBB.out fb rfl
                      have HR2 := hid_mk hr2
                      have HR3 := hid_mk hr3
                      have HMM' := hid_mk hm'
                      have HXX := hid_mk hx
                      have hul : j < us.length := by rw [HLJ.out.2.1, grow_len]; exact hjD
                      obtain ⟨hoj, gj, hgj⟩ := HLJ.out.2.2.1 j hul (by rw [grow_len]; exact hjD)
                      have hgjX : gj < X.heap.size := HLOJ.out j hul (Nat.le_refl _) gj hgj
                      rw [grow_get _ _ _ _ (by rw [grow_len]; exact hjD) hjD, if_pos h0D] at hoj
                      have hupk : upk j t j = t := by simp [upk]
                      rw [hupk] at hoj
                      obtain ⟨go2, gc2, hgo2⟩ := hoj.shape
                      rw [vec_length] at hgo2
                      obtain ⟨g, e2, hgW, hgY, _, hcell⟩ := HLJ.out.1.get j hul
                      subst e2
                      have hfz := (HLJ.out.1.cell j hul).2
                      have hgX : g < X.heap.size := HLT.out.1.old rfl
                      rw [hgo2] at hcell hgj hoj
                      cases go2 with
                      | none => simp [Value.ownBlock] at hgj
                      | some a2 =>
                        obtain ⟨h2, rfl, _, hh2, _, _⟩ := hoj.some
                        simp [Value.ownBlock] at hgj
                        subst hgj
                        have hhg : h2 ≠ g := fun e => by
                          subst e
                          rcases hoj.2 with ⟨h3, _⟩ | ⟨g', c'', cur, h3, _, h5, _⟩
                          · cases h3
                          · simp at h3
                            obtain ⟨rfl, _⟩ := h3
                            exact HLJ.out.1.ne5 h5 rfl
                        have HHG := hid_mk hhg
                        have HGG := hid_mk hgo2
                        have HUL := hid_mk hul
                        have HWY : Hid (W.heap.size ≤ Y.heap.size) := Nat.le_trans HWX.out (Nat.le_trans HB5.out.size HB6.out.size)
                        have hfY : fb < Y.heap.size := by
                          rcases Nat.lt_or_ge fb Y.heap.size with h | h
                          · exact h
                          · simp [World.cell?, Array.getElem?_eq_none h] at hfc
                        have HFH : Hid (fb ≠ h2) := by show _ ≠ _; omega
                        have HFG : Hid (fb ≠ g) := by show _ ≠ _; omega
                        have HOJ := hid_mk hoj
                        have HCE := hid_mk hcell
                        have HFZ := hid_mk hfz
                        have HFC := hid_mk hfc
                        have HGY := hid_mk hgY
                        have HGW := hid_mk hgW
                        have HFY := hid_mk hfY
                        have HFX := hid_mk hfX
                        have HGJX := hid_mk hgjX
                        have HGX := hid_mk hgX
                        have HCP' := hid_mk hcp'
                        clear hfr hr2 hr3 hm' hx h0 hoj hgo2 hupk hfX hgjX hgX hfY hgY hgW hfc hfz hcell hhg hcp'
                        go_wp2
                        refine region25 _ _ _ _ _ _ _ _ _ _ _ _ _ _ _ _ _ _ _ _ _ _ _ _ _ _ _ _ _ _ _ _ _ _ _ _ _ _ _ _ _ _ _ _ _ _ _ _ _ _ _ _ _ _ _ _ _ _ _ _ _ _ _ _ _ _ _ _ _ _ _ _ _ _ _ _ _ _ _ _ _ _ _ _ _ _ _ _ _ _ _ _ _ _ _ _ _ _ _ _ _ _ _ _ _ _ _ _ hjk' HGY.out HFY.out HCE.out HFZ.out HFC.out HHG.out HFH.out HFG.out HWY.out (by omega) HCP'.out HOJ.out ?_
                        intro q96 q97 q98 q99 q100 q101 q102 q103 q104 q105 q106 q107 g6 c6 w6 hown6 hgr6 hat6
                        have HYA : Hid (Below Y.heap.size Y (Y.drew.alloc (.cells #[.int .u8 (x.toNat : Int)] 5))) := (drew_below Y.heap.size Y).alloc (Nat.le_refl Y.heap.size) _
                        obtain ⟨Z, hZ⟩ : ∃ Z, Z = w6.setCell ⟨g, j, none⟩ (.slice (some ⟨g6, 0, none⟩) (t + 1) c6) := ⟨_, rfl⟩
                        have HLZ : Hid (LstD Z W.heap.size (.slice (some ⟨g, 0, none⟩) k xc) (grow D O (upk (j + 1) t)) (us.set j (.slice (some ⟨g6, 0, none⟩) (t + 1) c6))) := by
                          have h := (HLJ.out.below HYA.out).grow j HUL.out (by rw [grow_len]; exact hjD) (.slice (some ⟨g6, 0, none⟩) (t + 1) c6) _ g6 hown6 rfl (by rw [HGG.out]; exact hgr6) (by
                            rw [HGG.out]
                            rcases hat6 with h | h
                            · exact .inl (by subst h; rfl)
                            · exact .inr (by rw [h]; simp))
                          rw [HXX.out, ← vec_succ, grow_set D O j t hjD h0D, ← hZ] at h
                          exact h
                        have HKZ : Hid (∀ b, b < Y.heap.size → b ≠ g → b ≠ h2 → Z.heap[b]? = Y.heap[b]?) := fun b hb hbg hbh => by
                          rw [hZ, heap_set_other _ _ _ _ _ hbg]
                          exact (hgr6.block b (Nat.lt_of_lt_of_le hb HYA.out.size) (fun e => hbh (by simpa using e))).trans (HYA.out.block b hb)
                        have HH2 : Hid (W.heap.size ≤ h2) := by obtain ⟨_, e, _, h, _, _⟩ := HOJ.out.some; cases e; exact h
                        have HBZ : Hid (Below W.heap.size Y Z) := by
                          refine ⟨?_, ?_, ?_, ?_, fun b hb => HKZ.out b (Nat.lt_of_lt_of_le hb HWY.out) (fun e => by subst e; exact absurd HGW.out (Nat.not_le.2 hb)) (fun e => by subst e; exact absurd HH2.out (Nat.not_le.2 hb))⟩
                          · rw [hZ]; exact hgr6.os.trans HYA.out.os
                          · rw [hZ]; exact hgr6.tape.trans HYA.out.tape
                          · rw [hZ]; exact hgr6.output.trans HYA.out.output
                          · rw [hZ]; exact Nat.le_trans HYA.out.size (by simpa [World.setCell] using hgr6.size)
                        rw [← hZ]
                        have HLOZ : Hid (LowB (us.set j (.slice (some ⟨g6, 0, none⟩) (t + 1) c6)) (j + 1) X.heap.size) := fun i hi h1 gg hg => by
                          rw [List.getElem_set_ne (by omega)] at hg
                          exact HLOJ.out i (by simpa using hi) (by omega) gg hg
                        have HFK : ∀ b', (some fb) = some b' → Z.heap[b']? = Y.heap[b']? := fun b' e => by cases e; exact HKZ.out fb HFY.out HFG.out HFH.out
                        have HFKH := hid_mk HFK
                        clear hown6 hgr6 hat6 hZ HFK
                        have hmc := HCP'.out
                        by_cases hc0 : c' = 0
                        · subst hc0
                          have hm0 : m' = 0 := by omega
                          go_wp2
                          go_roundw
                          case rel => exact ⟨some ⟨fb, foff, none⟩, 0, m', j + 1, us.set j (.slice (some ⟨g6, 0, none⟩) (t + 1) c6), by simp [hm0], by go_num, by omega, HMM'.out, ((HR3.out rfl).keep (fun b hb => HFKH.out b hb)), fun b hb => by cases hb; exact HFX.out, HLZ.out, HLOZ.out, HB6.out.trans HBZ.out⟩
                          case measure => simp [intOf]; omega
                        · go_wp2
                          go_roundw
                          case rel => exact ⟨some ⟨fb, foff + 1, none⟩, c', m', j + 1, us.set j (.slice (some ⟨g6, 0, none⟩) (t + 1) c6), by simp, by go_num, by omega, HMM'.out, (HR2.out.keep (fun b hb => HFKH.out b hb)), fun b hb => by cases hb; exact HFX.out, HLZ.out, HLOZ.out, HB6.out.trans HBZ.out⟩
                          case measure => simp [intOf]; omega
                    · have h0D : D[j].length ≠ 0 := by rw [HDJ.out]; exact h0
                      have h0' : ¬ (L[j].length : Int) = 0 := by omega
                      obtain ⟨z, hz⟩ : ∃ z, z = L[j].length := ⟨_, rfl⟩
                      rw [← hz] at hc1 h0'
                      clear hz h0
                      go_wp2
                      go_roundw
                      case rel => exact ⟨go, gc, m, j + 1, us, rfl, by go_num, by omega, by rw [lost_keep hjD h0D]; exact HM.out, by rw [lost_keep hjD h0D]; exact HFR.out, HFBB.out, by rw [← grow_skip D O j t hjD h0D]; exact HLJ.out, fun i hi h g hg => HLOJ.out i hi (by omega) g hg, HB6.out⟩
                      case measure => simp [intOf]; omega
                  · have hjk2 : j = k := by omega
                    subst hjk2
                    go_wp2
                    go_roundw
                    case rel => exact ⟨t + 1, us, by go_num, by omega, by rw [grow_congr D O (fun _ => t + 1) (upk j t) (fun i hi => by rw [HDL.out] at hi; simp [upk, hi])]; exact HLJ.out, HBT.out.trans ((HB5.out.mono HWX.out).trans HB6.out)⟩
                    case measure => simp [intOf]; omega
              · have hts2 : t = sz := by omega
                subst hts2
                go_wp2
                go_ret2
                exact ⟨_, rfl, by have h := HLT.out.pcsR; rw [grow_all HMM.out] at h; exact h.mono HBW.out.size (Nat.le_refl _), HBX.out⟩
    · have HUE : Hid (useOf L n lv = L) := by show _ = _; unfold useOf; rw [if_neg (fun h => hlv2' h.2.1)]
      have hlv2'' : ¬ (lv : Int) = 2 := by omega
      have HUP : Hid (Pcs w2'.heap.size w2' (.slice uo L.length uc) (useOf L n lv)) := by show Pcs _ _ _ _; rw [HUE.out]; exact sowns_pcs0 HU.out HVL.out (by omega) HRD.out
      have HBW := HB2
      go_wp2
      obtain ⟨W, hW⟩ : ∃ W, W = w2' := ⟨_, rfl⟩
      subst hW
      go_loopw [9, 10] (fun x ii wr => ∃ (xo : Option Addr) (xc k : Nat) (vs : List Value), x = .slice xo k xc ∧ ii = .int .i64 (k : Int) ∧ k ≤ n ∧ LstD wr W.heap.size (.slice xo k xc) (D.take k) vs ∧ Below W.heap.size W wr) (fun _ ii _ => n - (intOf ii).toNat)
      case atStart => exact ⟨none, 0, 0, [], rfl, rfl, by omega, ⟨SOwns.nil _ _, rfl, fun i h => by simp at h, fun i j h => by simp at h⟩, Below.refl _ _⟩
      case round =>
        obtain ⟨xo, xc, k, vs, rfl, rfl, hk, hld, hb⟩ := hrel
        obtain ⟨V, hV⟩ : ∃ V, V = wr := ⟨_, rfl⟩
        subst hV
        have HLD := hid_mk hld
        have HB := hid_mk hb
        have HBWV : Hid (Below w1'.heap.size w1' V) := HBW.out.trans (hb.mono HBW.out.size)
        clear hld hb
        by_cases hlt : k < n
        · have hkL : k < L.length := by have := HN.out; omega
          obtain ⟨b', off', ul, ucp, e', hbb', hc0, hr0⟩ := HV.out.get k hkL
          cases e'
          have hlt' : (k : Int) < (n : Int) := by omega
          have hkL' : (k : Int) < (L.length : Int) := by omega
          have hc1 := (HBWV.out.cell (p := ⟨b, off + k, none⟩) hbb).trans hc0
          have HDK : Hid (D.take (k + 1) = D.take k ++ [L[k]]) := by
            show _ = _
            rw [take_snoc D k (by rw [HDL.out]; exact hlt)]
            congr 2
            simp only [HD.out, List.getElem_take]
          have hz4 : L[k].length ≤ 4096 := by
            rcases HE.out.1 _ (List.getElem_mem hkL) with h | h <;> have := HZ.out <;> omega
          have HZ4 := hid_mk hz4
          have HVA : Hid (Below V.heap.size V (V.alloc (.cells #[] 5))) := (Below.refl _ _).alloc (Nat.le_refl _) _
          have HRK : Hid (Rd w1'.heap.size (V.alloc (.cells #[] 5)) (.slice ul L[k].length ucp) L[k]) := (hr0.below HBWV.out (Nat.le_refl _)).below HVA.out HBWV.out.size
          obtain ⟨z, hz⟩ : ∃ z, z = L[k].length := ⟨_, rfl⟩
          rw [← hz] at hc1 HRK
          have HZZ := hid_mk hz
          have HVL2 : Hid (vs.length = k) := by show _ = _; rw [HLD.out.2.1, List.length_take, HDL.out]; omega
          have hc2 := (HVA.out.cell (p := ⟨b, off + k, none⟩) (show b < V.heap.size from Nat.lt_of_lt_of_le hbb HBWV.out.size)).trans hc1
          clear hc0 hr0 hz4 hz hc1
          go_wp2_with (first
            | (at_builtin; refine wpList_addR rfl _ _ rfl V.heap.size _ [] rfl (owns_made V _ rfl) (fun e => by cases e) _ w1'.heap.size L[k] rfl HRK.out (by have := HZ4.out; simp; omega) HVA.out.size ?_; intro v' w3 h1 h2 h3; obtain ⟨kk, kc, rfl, hkk, hpk⟩ := Owns.ptr h1 h3; have HO3 : Hid (Owns w3 V.heap.size (.slice (some ⟨kk, 0, none⟩) ([] ++ L[k]).length kc) ([] ++ L[k])) := h1; have HB3 := hid_mk ((HVA.out.trans h2)); have HKK := hid_mk hkk; clear h1 h2 h3 hpk hkk)
            | (at_builtin; refine wpList_addS 33 Tryd.underlying33 rfl _ _ rfl W.heap.size _ vs rfl w3 _ _ _ rfl (HLD.out.below HB3.out).1 _ rfl rfl (by rw [HVL2.out]; omega) (Nat.le_trans HB.out.size HB3.out.size) ?_; intro v' w4 h1 h2 h3; obtain ⟨yo, yc, hy⟩ := h1.shape; rw [List.length_append, HVL2.out] at hy; have hy' : v' = .slice yo (k + 1) yc := hy; subst hy'; have H4 := hid_mk h1; have HG4 := hid_mk h2; have HB4 := hid_mk h3; clear hy h1 h2 h3))
          go_roundw
          case rel =>
            have hso : SOwns w4 W.heap.size (.slice yo (k + 1) yc) (vs ++ [.slice (some ⟨kk, 0, none⟩) L[k].length kc]) := H4.out
            refine ⟨yo, yc, k + 1, vs ++ [.slice (some ⟨kk, 0, none⟩) L[k].length kc], rfl, by go_num, by omega, ?_, HB.out.trans ((HB3.out.mono HB.out.size).trans HB4.out)⟩
            rw [HDK.out]
            exact (HLD.out.below HB3.out).snoc (N := V.heap.size) (k := kk) (HO3.out.mono HB.out.size) rfl HKK.out (fun i h1 g hg => HLD.out.low 0 i h1 (Nat.zero_le _) g hg) hso HG4.out
          case measure => simp [intOf]; omega
        · have hkn : k = n := by omega
          subst hkn
          have HLD0 : Hid (LstD V W.heap.size (.slice xo k xc) (grow D O (fun _ => 0)) vs) := by
            show LstD _ _ _ _ _
            rw [grow_zero]
            have h := HLD.out
            rw [List.take_of_length_le (by rw [HDL.out]; exact Nat.le_refl _)] at h
            exact h
          have HUV : Hid (Pcs W.heap.size V (.slice uo L.length uc) (useOf L k lv)) := HUP.out.below HB.out (Nat.le_refl _)
          go_wp2
          go_loopw [11] (fun tt wr => ∃ (t : Nat) (vs : List Value), tt = .int .i64 (t : Int) ∧ t ≤ sz ∧ LstD wr W.heap.size (.slice xo k xc) (grow D O (fun _ => t)) vs ∧ Below W.heap.size V wr) (fun tt _ => sz - (intOf tt).toNat)
          case atStart => exact ⟨0, vs, rfl, by omega, HLD0.out, Below.refl _ _⟩
          case round =>
            obtain ⟨t, vt, rfl, ht, hlt', hbt⟩ := hrel
            obtain ⟨X, hX⟩ : ∃ X, X = wr := ⟨_, rfl⟩
            subst hX
            have HLT := hid_mk hlt'
            have HBT := hid_mk hbt
            have HBX : Hid (Below w1'.heap.size w1' X) := HBWV.out.trans (HBT.out.mono HBW.out.size)
            have HWX : Hid (W.heap.size ≤ X.heap.size) := Nat.le_trans HB.out.size HBT.out.size
            clear hlt' hbt
            by_cases hts : t < sz
            · have hts' : (t : Int) < (sz : Int) := by omega
              have HFD := hid_mk (found_any L O k lv t sz (.slice uo L.length uc) X HN.out (by omega) hn16 hsz2 hts (fun b hb => by rw [HZ.out]; exact HE.out.1 b hb) HLO.out (by rw [← HD.out]; exact HMM.out) ((HUV.out.below HBT.out (Nat.le_refl _)).mono HWX.out))
              rw [← HD.out] at HFD
              go_wp2_with fail
              refine HFD.out.mono ?_
              rintro e w5 ⟨fv, rfl, hfv, hfb, hb5⟩
              obtain ⟨fo, fc, rfl⟩ := hfv.shape
              have HFV := hid_mk hfv
              have HFB := hid_mk hfb
              have HB5 := hid_mk hb5
              have HL5 := hid_mk (HLT.out.below hb5)
              have HLO5 : Hid (LowB vt 0 X.heap.size) := HLT.out.low 0
              clear hfv hfb hb5 HFD
              obtain ⟨m0, hm0⟩ : ∃ m0, m0 = (fillOf D O t).length := ⟨_, rfl⟩
              rw [← hm0] at HFV HFB ⊢
              have HM0 := hid_mk hm0
              clear hm0
              go_wp2
              go_loopw [12, 13] (fun fl ii wr => ∃ (go : Option Addr) (gc m j : Nat) (us : List Value), fl = .slice go m gc ∧ ii = .int .i64 (j : Int) ∧ j ≤ k ∧ m = ((fillOf D O t).drop (lostN (D.take j))).length ∧ FillR w5.heap.size wr (.slice go m gc) ((fillOf D O t).drop (lostN (D.take j))) ∧ (∀ b, (Value.slice go m gc).ownBlock = some b → X.heap.size ≤ b) ∧ LstD wr W.heap.size (.slice xo k xc) (grow D O (upk j t)) us ∧ LowB us j X.heap.size ∧ Below W.heap.size w5 wr) (fun _ ii _ => k - (intOf ii).toNat)
              case atStart => exact ⟨fo, fc, m0, 0, vt, rfl, rfl, by omega, HM0.out, HFV.out, HFB.out, HL5.out, HLO5.out, Below.refl _ _⟩
              case round =>
                obtain ⟨go, gc, m, j, us, rfl, rfl, hj, hm, hfr, hfb, hld, hlo, hb6⟩ := hrel
                obtain ⟨Y, hY⟩ : ∃ Y, Y = wr := ⟨_, rfl⟩
                subst hY
                have HM := hid_mk hm
                have HFR := hid_mk hfr
                have HFBB := hid_mk hfb
                have HLJ := hid_mk hld
                have HLOJ := hid_mk hlo
                have HB6 := hid_mk hb6
                have HBY : Hid (Below w1'.heap.size w1' Y) := HBX.out.trans ((HB5.out.mono HBX.out.size).trans (HB6.out.mono HBW.out.size))
                clear hm hfr hfb hld hlo hb6
                by_cases hjk : j < k
                · have hjL : j < L.length := by have := HN.out; omega
                  have hjL' : (j : Int) < (L.length : Int) := by omega
                  have hjk' : (j : Int) < (k : Int) := by omega
                  have hjD : j < D.length := by rw [HDL.out]; exact hjk
                  obtain ⟨b', off', ul, ucp, e', hbb', hc0, hr0⟩ := HV.out.get j hjL
                  cases e'
                  have hc1 := (HBY.out.cell (p := ⟨b, off + j, none⟩) hbb).trans hc0
                  have HDJ : Hid (D[j] = L[j]) := by show _ = _; simp only [HD.out, List.getElem_take]
                  clear hc0 hr0
                  by_cases h0 : L[j].length = 0
                  · rw [h0] at hc1
                    have h0D : D[j].length = 0 := by rw [HDJ.out]; exact h0
                    have hfr := HFR.out
                    rw [fillOf_drop hjD h0D] at hfr
                    obtain ⟨fb, foff, c', e1, hfb', hcp', hfc, hr2, hr3⟩ := hfr.cons
                    obtain ⟨x, hx⟩ : ∃ x, x = at0 (O.getD j []) t := ⟨_, rfl⟩
                    obtain ⟨m', hm'⟩ : ∃ m', m' = ((fillOf D O t).drop (lostN (D.take (j + 1)))).length := ⟨_, rfl⟩
                    rw [← hx] at hfc
                    rw [← hm'] at e1 hr2 hr3 hcp'
                    simp at e1
                    obtain ⟨rfl, rfl, rfl⟩ := e1
                    have hfX : X.heap.size ≤ fb := HFBB.out fb rfl
                    have HR2 := hid_mk hr2
                    have HR3 := hid_mk hr3
                    have HMM' := hid_mk hm'
                    have HXX := hid_mk hx
                    have hul : j < us.length := by rw [HLJ.out.2.1, grow_len]; exact hjD
                    obtain ⟨hoj, gj, hgj⟩ := HLJ.out.2.2.1 j hul (by rw [grow_len]; exact hjD)
                    have hgjX : gj < X.heap.size := HLOJ.out j hul (Nat.le_refl _) gj hgj
                    rw [grow_get _ _ _ _ (by rw [grow_len]; exact hjD) hjD, if_pos h0D] at hoj
                    have hupk : upk j t j = t := by simp [upk]
                    rw [hupk] at hoj
                    obtain ⟨go2, gc2, hgo2⟩ := hoj.shape
                    rw [vec_length] at hgo2
                    obtain ⟨g, e2, hgW, hgY, _, hcell⟩ := HLJ.out.1.get j hul
                    subst e2
                    have hfz := (HLJ.out.1.cell j hul).2
                    have hgX : g < X.heap.size := HLT.out.1.old rfl
                    rw [hgo2] at hcell hgj hoj
                    cases go2 with
                    | none => simp [Value.ownBlock] at hgj
                    | some a2 =>
                      obtain ⟨h2, rfl, _, hh2, _, _⟩ := hoj.some
                      simp [Value.ownBlock] at hgj
                      subst hgj
                      have hhg : h2 ≠ g := fun e => by
                        subst e
                        rcases hoj.2 with ⟨h3, _⟩ | ⟨g', c'', cur, h3, _, h5, _⟩
                        · cases h3
                        · simp at h3
                          obtain ⟨rfl, _⟩ := h3
                          exact HLJ.out.1.ne5 h5 rfl
                      have HHG := hid_mk hhg
                      have HGG := hid_mk hgo2
                      have HUL := hid_mk hul
                      have HWY : Hid (W.heap.size ≤ Y.heap.size) := Nat.le_trans HWX.out (Nat.le_trans HB5.out.size HB6.out.size)
                      have hfY : fb < Y.heap.size := by
                        rcases Nat.lt_or_ge fb Y.heap.size with h | h
                        · exact h
                        · simp [World.cell?, Array.getElem?_eq_none h] at hfc
                      have HFH : Hid (fb ≠ h2) := by show _ ≠ _; omega
                      have HFG : Hid (fb ≠ g) := by show _ ≠ _; omega
                      have HOJ := hid_mk hoj
                      have HCE := hid_mk hcell
                      have HFZ := hid_mk hfz
                      have HFC := hid_mk hfc
                      have HGY := hid_mk hgY
                      have HGW := hid_mk hgW
                      have HFY := hid_mk hfY
                      have HFX := hid_mk hfX
                      have HGJX := hid_mk hgjX
                      have HGX := hid_mk hgX
                      have HCP' := hid_mk hcp'
                      clear hfr hr2 hr3 hm' hx h0 hoj hgo2 hupk hfX hgjX hgX hfY hgY hgW hfc hfz hcell hhg hcp'
                      go_wp2
                      refine region25 _ _ _ _ _ _ _ _ _ _ _ _ _ _ _ _ _ _ _ _ _ _ _ _ _ _ _ _ _ _ _ _ _ _ _ _ _ _ _ _ _ _ _ _ _ _ _ _ _ _ _ _ _ _ _ _ _ _ _ _ _ _ _ _ _ _ _ _ _ _ _ _ _ _ _ _ _ _ _ _ _ _ _ _ _ _ _ _ _ _ _ _ _ _ _ _ _ _ _ _ _ _ _ _ _ _ _ _ hjk' HGY.out HFY.out HCE.out HFZ.out HFC.out HHG.out HFH.out HFG.out HWY.out (by omega) HCP'.out HOJ.out ?_
                      intro q96 q97 q98 q99 q100 q101 q102 q103 q104 q105 q106 q107 g6 c6 w6 hown6 hgr6 hat6
                      have HYA : Hid (Below Y.heap.size Y (Y.drew.alloc (.cells #[.int .u8 (x.toNat : Int)] 5))) := (drew_below Y.heap.size Y).alloc (Nat.le_refl Y.heap.size) _
                      obtain ⟨Z, hZ⟩ : ∃ Z, Z = w6.setCell ⟨g, j, none⟩ (.slice (some ⟨g6, 0, none⟩) (t + 1) c6) := ⟨_, rfl⟩
                      have HLZ : Hid (LstD Z W.heap.size (.slice (some ⟨g, 0, none⟩) k xc) (grow D O (upk (j + 1) t)) (us.set j (.slice (some ⟨g6, 0, none⟩) (t + 1) c6))) := by
                        have h := (HLJ.out.below HYA.out).grow j HUL.out (by rw [grow_len]; exact hjD) (.slice (some ⟨g6, 0, none⟩) (t + 1) c6) _ g6 hown6 rfl (by rw [HGG.out]; exact hgr6) (by
                          rw [HGG.out]
                          rcases hat6 with h | h
                          · exact .inl (by subst h; rfl)
                          · exact .inr (by rw [h]; simp))
                        rw [HXX.out, ← vec_succ, grow_set D O j t hjD h0D, ← hZ] at h
                        exact h
                      have HKZ : Hid (∀ b, b < Y.heap.size → b ≠ g → b ≠ h2 → Z.heap[b]? = Y.heap[b]?) := fun b hb hbg hbh => by
                        rw [hZ, heap_set_other _ _ _ _ _ hbg]
                        exact (hgr6.block b (Nat.lt_of_lt_of_le hb HYA.out.size) (fun e => hbh (by simpa using e))).trans (HYA.out.block b hb)
                      have HH2 : Hid (W.heap.size ≤ h2) := by obtain ⟨_, e, _, h, _, _⟩ := HOJ.out.some; cases e; exact h
                      have HBZ : Hid (Below W.heap.size Y Z) := by
                        refine ⟨?_, ?_, ?_, ?_, fun b hb => HKZ.out b (Nat.lt_of_lt_of_le hb HWY.out) (fun e => by subst e; exact absurd HGW.out (Nat.not_le.2 hb)) (fun e => by subst e; exact absurd HH2.out (Nat.not_le.2 hb))⟩
                        · rw [hZ]; exact hgr6.os.trans HYA.out.os
                        · rw [hZ]; exact hgr6.tape.trans HYA.out.tape
                        · rw [hZ]; exact hgr6.output.trans HYA.out.output
                        · rw [hZ]; exact Nat.le_trans HYA.out.size (by simpa [World.setCell] using hgr6.size)
                      rw [← hZ]
                      have HLOZ : Hid (LowB (us.set j (.slice (some ⟨g6, 0, none⟩) (t + 1) c6)) (j + 1) X.heap.size) := fun i hi h1 gg hg => by
                        rw [List.getElem_set_ne (by omega)] at hg
                        exact HLOJ.out i (by simpa using hi) (by omega) gg hg
                      have HFK : ∀ b', (some fb) = some b' → Z.heap[b']? = Y.heap[b']? := fun b' e => by cases e; exact HKZ.out fb HFY.out HFG.out HFH.out
                      have HFKH := hid_mk HFK
                      clear hown6 hgr6 hat6 hZ HFK
                      have hmc := HCP'.out
                      by_cases hc0 : c' = 0
                      · subst hc0
                        have hm0 : m' = 0 := by omega
                        go_wp2
                        go_roundw
                        case rel => exact ⟨some ⟨fb, foff, none⟩, 0, m', j + 1, us.set j (.slice (some ⟨g6, 0, none⟩) (t + 1) c6), by simp [hm0], by go_num, by omega, HMM'.out, ((HR3.out rfl).keep (fun b hb => HFKH.out b hb)), fun b hb => by cases hb; exact HFX.out, HLZ.out, HLOZ.out, HB6.out.trans HBZ.out⟩
                        case measure => simp [intOf]; omega
                      · go_wp2
                        go_roundw
                        case rel => exact ⟨some ⟨fb, foff + 1, none⟩, c', m', j + 1, us.set j (.slice (some ⟨g6, 0, none⟩) (t + 1) c6), by simp, by go_num, by omega, HMM'.out, (HR2.out.keep (fun b hb => HFKH.out b hb)), fun b hb => by cases hb; exact HFX.out, HLZ.out, HLOZ.out, HB6.out.trans HBZ.out⟩
                        case measure => simp [intOf]; omega
                  · have h0D : D[j].length ≠ 0 := by rw [HDJ.out]; exact h0
                    have h0' : ¬ (L[j].length : Int) = 0 := by omega
                    obtain ⟨z, hz⟩ : ∃ z, z = L[j].length := ⟨_, rfl⟩
                    rw [← hz] at hc1 h0'
                    clear hz h0
                    go_wp2
                    go_roundw
                    case rel => exact ⟨go, gc, m, j + 1, us, rfl, by go_num, by omega, by rw [lost_keep hjD h0D]; exact HM.out, by rw [lost_keep hjD h0D]; exact HFR.out, HFBB.out, by rw [← grow_skip D O j t hjD h0D]; exact HLJ.out, fun i hi h g hg => HLOJ.out i hi (by omega) g hg, HB6.out⟩
                    case measure => simp [intOf]; omega
                · have hjk2 : j = k := by omega
                  subst hjk2
                  go_wp2
                  go_roundw
                  case rel => exact ⟨t + 1, us, by go_num, by omega, by rw [grow_congr D O (fun _ => t + 1) (upk j t) (fun i hi => by rw [HDL.out] at hi; simp [upk, hi])]; exact HLJ.out, HBT.out.trans ((HB5.out.mono HWX.out).trans HB6.out)⟩
                  case measure => simp [intOf]; omega
            · have hts2 : t = sz := by omega
              subst hts2
              go_wp2
              go_ret2
              exact ⟨_, rfl, by have h := HLT.out.pcsR; rw [grow_all HMM.out] at h; exact h.mono HBW.out.size (Nat.le_refl _), HBX.out⟩
  · have hl1' : ¬ (lostN D : Int) = 1 := by omega
    have HUE : Hid (useOf L n lv = L) := by show _ = _; unfold useOf; rw [if_neg (fun h => hl1 (by rw [HD.out]; exact h.1))]
    have HUP : Hid (Pcs w2'.heap.size w2' (.slice uo L.length uc) (useOf L n lv)) := by show Pcs _ _ _ _; rw [HUE.out]; exact sowns_pcs0 HU.out HVL.out (by omega) HRD.out
    have HBW := HB2
    go_wp2
    obtain ⟨W, hW⟩ : ∃ W, W = w2' := ⟨_, rfl⟩
    subst hW
    go_loopw [9, 10] (fun x ii wr => ∃ (xo : Option Addr) (xc k : Nat) (vs : List Value), x = .slice xo k xc ∧ ii = .int .i64 (k : Int) ∧ k ≤ n ∧ LstD wr W.heap.size (.slice xo k xc) (D.take k) vs ∧ Below W.heap.size W wr) (fun _ ii _ => n - (intOf ii).toNat)
    case atStart => exact ⟨none, 0, 0, [], rfl, rfl, by omega, ⟨SOwns.nil _ _, rfl, fun i h => by simp at h, fun i j h => by simp at h⟩, Below.refl _ _⟩
    case round =>
      obtain ⟨xo, xc, k, vs, rfl, rfl, hk, hld, hb⟩ := hrel
      obtain ⟨V, hV⟩ : ∃ V, V = wr := ⟨_, rfl⟩
      subst hV
      have HLD := hid_mk hld
      have HB := hid_mk hb
      have HBWV : Hid (Below w1'.heap.size w1' V) := HBW.out.trans (hb.mono HBW.out.size)
      clear hld hb
      by_cases hlt : k < n
      · have hkL : k < L.length := by have := HN.out; omega
        obtain ⟨b', off', ul, ucp, e', hbb', hc0, hr0⟩ := HV.out.get k hkL
        cases e'
        have hlt' : (k : Int) < (n : Int) := by omega
        have hkL' : (k : Int) < (L.length : Int) := by omega
        have hc1 := (HBWV.out.cell (p := ⟨b, off + k, none⟩) hbb).trans hc0
        have HDK : Hid (D.take (k + 1) = D.take k ++ [L[k]]) := by
          show _ = _
          rw [take_snoc D k (by rw [HDL.out]; exact hlt)]
          congr 2
          simp only [HD.out, List.getElem_take]
        have hz4 : L[k].length ≤ 4096 := by
          rcases HE.out.1 _ (List.getElem_mem hkL) with h | h <;> have := HZ.out <;> omega
        have HZ4 := hid_mk hz4
        have HVA : Hid (Below V.heap.size V (V.alloc (.cells #[] 5))) := (Below.refl _ _).alloc (Nat.le_refl _) _
        have HRK : Hid (Rd w1'.heap.size (V.alloc (.cells #[] 5)) (.slice ul L[k].length ucp) L[k]) := (hr0.below HBWV.out (Nat.le_refl _)).below HVA.out HBWV.out.size
        obtain ⟨z, hz⟩ : ∃ z, z = L[k].length := ⟨_, rfl⟩
        rw [← hz] at hc1 HRK
        have HZZ := hid_mk hz
        have HVL2 : Hid (vs.length = k) := by show _ = _; rw [HLD.out.2.1, List.length_take, HDL.out]; omega
        have hc2 := (HVA.out.cell (p := ⟨b, off + k, none⟩) (show b < V.heap.size from Nat.lt_of_lt_of_le hbb HBWV.out.size)).trans hc1
        clear hc0 hr0 hz4 hz hc1
        go_wp2_with (first
          | (at_builtin; refine wpList_addR rfl _ _ rfl V.heap.size _ [] rfl (owns_made V _ rfl) (fun e => by cases e) _ w1'.heap.size L[k] rfl HRK.out (by have := HZ4.out; simp; omega) HVA.out.size ?_; intro v' w3 h1 h2 h3; obtain ⟨kk, kc, rfl, hkk, hpk⟩ := Owns.ptr h1 h3; have HO3 : Hid (Owns w3 V.heap.size (.slice (some ⟨kk, 0, none⟩) ([] ++ L[k]).length kc) ([] ++ L[k])) := h1; have HB3 := hid_mk ((HVA.out.trans h2)); have HKK := hid_mk hkk; clear h1 h2 h3 hpk hkk)
          | (at_builtin; refine wpList_addS 33 Tryd.underlying33 rfl _ _ rfl W.heap.size _ vs rfl w3 _ _ _ rfl (HLD.out.below HB3.out).1 _ rfl rfl (by rw [HVL2.out]; omega) (Nat.le_trans HB.out.size HB3.out.size) ?_; intro v' w4 h1 h2 h3; obtain ⟨yo, yc, hy⟩ := h1.shape; rw [List.length_append, HVL2.out] at hy; have hy' : v' = .slice yo (k + 1) yc := hy; subst hy'; have H4 := hid_mk h1; have HG4 := hid_mk h2; have HB4 := hid_mk h3; clear hy h1 h2 h3))
        go_roundw
        case rel =>
          have hso : SOwns w4 W.heap.size (.slice yo (k + 1) yc) (vs ++ [.slice (some ⟨kk, 0, none⟩) L[k].length kc]) := H4.out
          refine ⟨yo, yc, k + 1, vs ++ [.slice (some ⟨kk, 0, none⟩) L[k].length kc], rfl, by go_num, by omega, ?_, HB.out.trans ((HB3.out.mono HB.out.size).trans HB4.out)⟩
          rw [HDK.out]
          exact (HLD.out.below HB3.out).snoc (N := V.heap.size) (k := kk) (HO3.out.mono HB.out.size) rfl HKK.out (fun i h1 g hg => HLD.out.low 0 i h1 (Nat.zero_le _) g hg) hso HG4.out
        case measure => simp [intOf]; omega
      · have hkn : k = n := by omega
        subst hkn
        have HLD0 : Hid (LstD V W.heap.size (.slice xo k xc) (grow D O (fun _ => 0)) vs) := by
          show LstD _ _ _ _ _
          rw [grow_zero]
          have h := HLD.out
          rw [List.take_of_length_le (by rw [HDL.out]; exact Nat.le_refl _)] at h
          exact h
        have HUV : Hid (Pcs W.heap.size V (.slice uo L.length uc) (useOf L k lv)) := HUP.out.below HB.out (Nat.le_refl _)
        go_wp2
        go_loopw [11] (fun tt wr => ∃ (t : Nat) (vs : List Value), tt = .int .i64 (t : Int) ∧ t ≤ sz ∧ LstD wr W.heap.size (.slice xo k xc) (grow D O (fun _ => t)) vs ∧ Below W.heap.size V wr) (fun tt _ => sz - (intOf tt).toNat)
        case atStart => exact ⟨0, vs, rfl, by omega, HLD0.out, Below.refl _ _⟩
        case round =>
          obtain ⟨t, vt, rfl, ht, hlt', hbt⟩ := hrel
          obtain ⟨X, hX⟩ : ∃ X, X = wr := ⟨_, rfl⟩
          subst hX
          have HLT := hid_mk hlt'
          have HBT := hid_mk hbt
          have HBX : Hid (Below w1'.heap.size w1' X) := HBWV.out.trans (HBT.out.mono HBW.out.size)
          have HWX : Hid (W.heap.size ≤ X.heap.size) := Nat.le_trans HB.out.size HBT.out.size
          clear hlt' hbt
          by_cases hts : t < sz
          · have hts' : (t : Int) < (sz : Int) := by omega
            have HFD := hid_mk (found_any L O k lv t sz (.slice uo L.length uc) X HN.out (by omega) hn16 hsz2 hts (fun b hb => by rw [HZ.out]; exact HE.out.1 b hb) HLO.out (by rw [← HD.out]; exact HMM.out) ((HUV.out.below HBT.out (Nat.le_refl _)).mono HWX.out))
            rw [← HD.out] at HFD
            go_wp2_with fail
            refine HFD.out.mono ?_
            rintro e w5 ⟨fv, rfl, hfv, hfb, hb5⟩
            obtain ⟨fo, fc, rfl⟩ := hfv.shape
            have HFV := hid_mk hfv
            have HFB := hid_mk hfb
            have HB5 := hid_mk hb5
            have HL5 := hid_mk (HLT.out.below hb5)
            have HLO5 : Hid (LowB vt 0 X.heap.size) := HLT.out.low 0
            clear hfv hfb hb5 HFD
            obtain ⟨m0, hm0⟩ : ∃ m0, m0 = (fillOf D O t).length := ⟨_, rfl⟩
            rw [← hm0] at HFV HFB ⊢
            have HM0 := hid_mk hm0
            clear hm0
            go_wp2
            go_loopw [12, 13] (fun fl ii wr => ∃ (go : Option Addr) (gc m j : Nat) (us : List Value), fl = .slice go m gc ∧ ii = .int .i64 (j : Int) ∧ j ≤ k ∧ m = ((fillOf D O t).drop (lostN (D.take j))).length ∧ FillR w5.heap.size wr (.slice go m gc) ((fillOf D O t).drop (lostN (D.take j))) ∧ (∀ b, (Value.slice go m gc).ownBlock = some b → X.heap.size ≤ b) ∧ LstD wr W.heap.size (.slice xo k xc) (grow D O (upk j t)) us ∧ LowB us j X.heap.size ∧ Below W.heap.size w5 wr) (fun _ ii _ => k - (intOf ii).toNat)
            case atStart => exact ⟨fo, fc, m0, 0, vt, rfl, rfl, by omega, HM0.out, HFV.out, HFB.out, HL5.out, HLO5.out, Below.refl _ _⟩
            case round =>
              obtain ⟨go, gc, m, j, us, rfl, rfl, hj, hm, hfr, hfb, hld, hlo, hb6⟩ := hrel
              obtain ⟨Y, hY⟩ : ∃ Y, Y = wr := ⟨_, rfl⟩
              subst hY
              have HM := hid_mk hm
              have HFR := hid_mk hfr
              have HFBB := hid_mk hfb
              have HLJ := hid_mk hld
              have HLOJ := hid_mk hlo
              have HB6 := hid_mk hb6
              have HBY : Hid (Below w1'.heap.size w1' Y) := HBX.out.trans ((HB5.out.mono HBX.out.size).trans (HB6.out.mono HBW.out.size))
              clear hm hfr hfb hld hlo hb6
              by_cases hjk : j < k
              · have hjL : j < L.length := by have := HN.out; omega
                have hjL' : (j : Int) < (L.length : Int) := by omega
                have hjk' : (j : Int) < (k : Int) := by omega
                have hjD : j < D.length := by rw [HDL.out]; exact hjk
                obtain ⟨b', off', ul, ucp, e', hbb', hc0, hr0⟩ := HV.out.get j hjL
                cases e'
                have hc1 := (HBY.out.cell (p := ⟨b, off + j, none⟩) hbb).trans hc0
                have HDJ : Hid (D[j] = L[j]) := by show _ = _; simp only [HD.out, List.getElem_take]
                clear hc0 hr0
                by_cases h0 : L[j].length = 0
                · rw [h0] at hc1
                  have h0D : D[j].length = 0 := by rw [HDJ.out]; exact h0
                  have hfr := HFR.out
                  rw [fillOf_drop hjD h0D] at hfr
                  obtain ⟨fb, foff, c', e1, hfb', hcp', hfc, hr2, hr3⟩ := hfr.cons
                  obtain ⟨x, hx⟩ : ∃ x, x = at0 (O.getD j []) t := ⟨_, rfl⟩
                  obtain ⟨m', hm'⟩ : ∃ m', m' = ((fillOf D O t).drop (lostN (D.take (j + 1)))).length := ⟨_, rfl⟩
                  rw [← hx] at hfc
                  rw [← hm'] at e1 hr2 hr3 hcp'
                  simp at e1
                  obtain ⟨rfl, rfl, rfl⟩ := e1
                  have hfX : X.heap.size ≤ fb := HFBB.out fb rfl
                  have HR2 := hid_mk hr2
                  have HR3 := hid_mk hr3
                  have HMM' := hid_mk hm'
                  have HXX := hid_mk hx
                  have hul : j < us.length := by rw [HLJ.out.2.1, grow_len]; exact hjD
                  obtain ⟨hoj, gj, hgj⟩ := HLJ.out.2.2.1 j hul (by rw [grow_len]; exact hjD)
                  have hgjX : gj < X.heap.size := HLOJ.out j hul (Nat.le_refl _) gj hgj
                  rw [grow_get _ _ _ _ (by rw [grow_len]; exact hjD) hjD, if_pos h0D] at hoj
                  have hupk : upk j t j = t := by simp [upk]
                  rw [hupk] at hoj
                  obtain ⟨go2, gc2, hgo2⟩ := hoj.shape
                  rw [vec_length] at hgo2
                  obtain ⟨g, e2, hgW, hgY, _, hcell⟩ := HLJ.out.1.get j hul
                  subst e2
                  have hfz := (HLJ.out.1.cell j hul).2
                  have hgX : g < X.heap.size := HLT.out.1.old rfl
                  rw [hgo2] at hcell hgj hoj
                  cases go2 with
                  | none => simp [Value.ownBlock] at hgj
                  | some a2 =>
                    obtain ⟨h2, rfl, _, hh2, _, _⟩ := hoj.some
                    simp [Value.ownBlock] at hgj
                    subst hgj
                    have hhg : h2 ≠ g := fun e => by
                      subst e
                      rcases hoj.2 with ⟨h3, _⟩ | ⟨g', c'', cur, h3, _, h5, _⟩
                      · cases h3
                      · simp at h3
                        obtain ⟨rfl, _⟩ := h3
                        exact HLJ.out.1.ne5 h5 rfl
                    have HHG := hid_mk hhg
                    have HGG := hid_mk hgo2
                    have HUL := hid_mk hul
                    have HWY : Hid (W.heap.size ≤ Y.heap.size) := Nat.le_trans HWX.out (Nat.le_trans HB5.out.size HB6.out.size)
                    have hfY : fb < Y.heap.size := by
                      rcases Nat.lt_or_ge fb Y.heap.size with h | h
                      · exact h
                      · simp [World.cell?, Array.getElem?_eq_none h] at hfc
                    have HFH : Hid (fb ≠ h2) := by show _ ≠ _; omega
                    have HFG : Hid (fb ≠ g) := by show _ ≠ _; omega
                    have HOJ := hid_mk hoj
                    have HCE := hid_mk hcell
                    have HFZ := hid_mk hfz
                    have HFC := hid_mk hfc
                    have HGY := hid_mk hgY
                    have HGW := hid_mk hgW
                    have HFY := hid_mk hfY
                    have HFX := hid_mk hfX
                    have HGJX := hid_mk hgjX
                    have HGX := hid_mk hgX
                    have HCP' := hid_mk hcp'
                    clear hfr hr2 hr3 hm' hx h0 hoj hgo2 hupk hfX hgjX hgX hfY hgY hgW hfc hfz hcell hhg hcp'
                    go_wp2
                    refine region25 _ _ _ _ _ _ _ _ _ _ _ _ _ _ _ _ _ _ _ _ _ _ _ _ _ _ _ _ _ _ _ _ _ _ _ _ _ _ _ _ _ _ _ _ _ _ _ _ _ _ _ _ _ _ _ _ _ _ _ _ _ _ _ _ _ _ _ _ _ _ _ _ _ _ _ _ _ _ _ _ _ _ _ _ _ _ _ _ _ _ _ _ _ _ _ _ _ _ _ _ _ _ _ _ _ _ _ _ hjk' HGY.out HFY.out HCE.out HFZ.out HFC.out HHG.out HFH.out HFG.out HWY.out (by omega) HCP'.out HOJ.out ?_
                    intro q96 q97 q98 q99 q100 q101 q102 q103 q104 q105 q106 q107 g6 c6 w6 hown6 hgr6 hat6
                    have HYA : Hid (Below Y.heap.size Y (Y.drew.alloc (.cells #[.int .u8 (x.toNat : Int)] 5))) := (drew_below Y.heap.size Y).alloc (Nat.le_refl Y.heap.size) _
                    obtain ⟨Z, hZ⟩ : ∃ Z, Z = w6.setCell ⟨g, j, none⟩ (.slice (some ⟨g6, 0, none⟩) (t + 1) c6) := ⟨_, rfl⟩
                    have HLZ : Hid (LstD Z W.heap.size (.slice (some ⟨g, 0, none⟩) k xc) (grow D O (upk (j + 1) t)) (us.set j (.slice (some ⟨g6, 0, none⟩) (t + 1) c6))) := by
                      have h := (HLJ.out.below HYA.out).grow j HUL.out (by rw [grow_len]; exact hjD) (.slice (some ⟨g6, 0, none⟩) (t + 1) c6) _ g6 hown6 rfl (by rw [HGG.out]; exact hgr6) (by
                        rw [HGG.out]
                        rcases hat6 with h | h
                        · exact .inl (by subst h; rfl)
                        · exact .inr (by rw [h]; simp))
                      rw [HXX.out, ← vec_succ, grow_set D O j t hjD h0D, ← hZ] at h
                      exact h
                    have HKZ : Hid (∀ b, b < Y.heap.size → b ≠ g → b ≠ h2 → Z.heap[b]? = Y.heap[b]?) := fun b hb hbg hbh => by
                      rw [hZ, heap_set_other _ _ _ _ _ hbg]
                      exact (hgr6.block b (Nat.lt_of_lt_of_le hb HYA.out.size) (fun e => hbh (by simpa using e))).trans (HYA.out.block b hb)
                    have HH2 : Hid (W.heap.size ≤ h2) := by obtain ⟨_, e, _, h, _, _⟩ := HOJ.out.some; cases e; exact h
                    have HBZ : Hid (Below W.heap.size Y Z) := by
                      refine ⟨?_, ?_, ?_, ?_, fun b hb => HKZ.out b (Nat.lt_of_lt_of_le hb HWY.out) (fun e => by subst e; exact absurd HGW.out (Nat.not_le.2 hb)) (fun e => by subst e; exact absurd HH2.out (Nat.not_le.2 hb))⟩
                      · rw [hZ]; exact hgr6.os.trans HYA.out.os
                      · rw [hZ]; exact hgr6.tape.trans HYA.out.tape
                      · rw [hZ]; exact hgr6.output.trans HYA.out.output
                      · rw [hZ]; exact Nat.le_trans HYA.out.size (by simpa [World.setCell] using hgr6.size)
                    rw [← hZ]
                    have HLOZ : Hid (LowB (us.set j (.slice (some ⟨g6, 0, none⟩) (t + 1) c6)) (j + 1) X.heap.size) := fun i hi h1 gg hg => by
                      rw [List.getElem_set_ne (by omega)] at hg
                      exact HLOJ.out i (by simpa using hi) (by omega) gg hg
                    have HFK : ∀ b', (some fb) = some b' → Z.heap[b']? = Y.heap[b']? := fun b' e => by cases e; exact HKZ.out fb HFY.out HFG.out HFH.out
                    have HFKH := hid_mk HFK
                    clear hown6 hgr6 hat6 hZ HFK
                    have hmc := HCP'.out
                    by_cases hc0 : c' = 0
                    · subst hc0
                      have hm0 : m' = 0 := by omega
                      go_wp2
                      go_roundw
                      case rel => exact ⟨some ⟨fb, foff, none⟩, 0, m', j + 1, us.set j (.slice (some ⟨g6, 0, none⟩) (t + 1) c6), by simp [hm0], by go_num, by omega, HMM'.out, ((HR3.out rfl).keep (fun b hb => HFKH.out b hb)), fun b hb => by cases hb; exact HFX.out, HLZ.out, HLOZ.out, HB6.out.trans HBZ.out⟩
                      case measure => simp [intOf]; omega
                    · go_wp2
                      go_roundw
                      case rel => exact ⟨some ⟨fb, foff + 1, none⟩, c', m', j + 1, us.set j (.slice (some ⟨g6, 0, none⟩) (t + 1) c6), by simp, by go_num, by omega, HMM'.out, (HR2.out.keep (fun b hb => HFKH.out b hb)), fun b hb => by cases hb; exact HFX.out, HLZ.out, HLOZ.out, HB6.out.trans HBZ.out⟩
                      case measure => simp [intOf]; omega
                · have h0D : D[j].length ≠ 0 := by rw [HDJ.out]; exact h0
                  have h0' : ¬ (L[j].length : Int) = 0 := by omega
                  obtain ⟨z, hz⟩ : ∃ z, z = L[j].length := ⟨_, rfl⟩
                  rw [← hz] at hc1 h0'
                  clear hz h0
                  go_wp2
                  go_roundw
                  case rel => exact ⟨go, gc, m, j + 1, us, rfl, by go_num, by omega, by rw [lost_keep hjD h0D]; exact HM.out, by rw [lost_keep hjD h0D]; exact HFR.out, HFBB.out, by rw [← grow_skip D O j t hjD h0D]; exact HLJ.out, fun i hi h g hg => HLOJ.out i hi (by omega) g hg, HB6.out⟩
                  case measure => simp [intOf]; omega
              · have hjk2 : j = k := by omega
                subst hjk2
                go_wp2
                go_roundw
                case rel => exact ⟨t + 1, us, by go_num, by omega, by rw [grow_congr D O (fun _ => t + 1) (upk j t) (fun i hi => by rw [HDL.out] at hi; simp [upk, hi])]; exact HLJ.out, HBT.out.trans ((HB5.out.mono HWX.out).trans HB6.out)⟩
                case measure => simp [intOf]; omega
          · have hts2 : t = sz := by omega
            subst hts2
            go_wp2
            go_ret2
            exact ⟨_, rfl, by have h := HLT.out.pcsR; rw [grow_all HMM.out] at h; exact h.mono HBW.out.size (Nat.le_refl _), HBX.out⟩
end Go.Proofs.YtigaabhicjcbjabDoor
