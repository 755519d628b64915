/-
  The program's Find: what the comparison says.
-/
import Derived.Test.YtigaabhicjcbjabDoorD4
import Derived.Test.YtigaabhicjcbjabDoorD5
namespace Go.Proofs.YtigaabhicjcbjabDoor
open Go.ChangeShapes Go.WideShapes Go.ChangeAt Go.RowKit
set_option linter.unusedVariables false

theorem even_take {L : List (List UInt8)} {n : Nat} (hE : Even L) (h0 : lostN L = 0) (hn : 1 ≤ n) (hl : n ≤ L.length) : Even (L.take n) ∧ szOf (L.take n) = szOf L := by
  cases L with
  | nil => simp at hl; omega
  | cons b R =>
    obtain ⟨m, rfl⟩ : ∃ m, n = m + 1 := ⟨n - 1, by omega⟩
    have hb := no_lost h0 b (by simp)
    have e : szOf ((b :: R).take (m + 1)) = szOf (b :: R) := by
      rw [List.take_succ_cons]
      simp only [szOf]
      rw [if_neg hb, if_neg hb]
    refine ⟨⟨fun c hc => ?_, by rw [e]; exact hE.2.1, by rw [e]; exact hE.2.2⟩, e⟩
    rw [e]
    exact hE.1 c (List.mem_of_mem_take hc)
theorem vec_off {l : List UInt8} {n : Nat} {f : Nat → UInt8} (hl : l.length = n) : vec n f = l ↔ ∀ i, i < n → f i ^^^ at0 l i = 0 := by
  constructor
  · intro h i hi
    rw [← h, vec_at hi, UInt8.xor_self]
  · intro h
    exact (vec_eq hl (fun i hi => xor_zero_iff.1 (h i hi))).symm
theorem made_whole {L : List (List UInt8)} {n lv sz : Nat} (hF : Full L n lv sz) (hz : szOf (L.take n) = sz) : makeL (L.take n) (lv : Int) = L.drop n ↔ Whole L n lv sz := by
  have hlen := hF.len
  have hlv := hF.lv2
  have mem1 : ∀ k, k < L.length → L.getD k [] ∈ L := fun k hk => by rw [List.getD_eq_getElem?_getD, List.getElem?_eq_getElem hk]; exact List.getElem_mem _
  have hp : 1 ≤ lv → (pOf L n).length = sz := fun h => (hF.all _ (mem1 n (by omega))).resolve_left (hF.p0 h)
  have hq : 2 ≤ lv → (qOf L n).length = sz := fun h => (hF.all _ (mem1 (n + 1) (by omega))).resolve_left (hF.q0 h)
  unfold makeL Whole Whole1 dP dQ
  rw [hz]
  obtain rfl | rfl | rfl : lv = 0 ∨ lv = 1 ∨ lv = 2 := by omega
  · have e : L.drop n = [] := List.drop_eq_nil_of_le (by omega)
    rw [e]
    exact ⟨fun _ k _ => ⟨fun h => by omega, fun h => by omega⟩, fun _ => rfl⟩
  · rw [drop_1 hlen]
    show [vec sz (colP (L.take n))] = [pOf L n] ↔ _
    rw [List.cons.injEq, vec_off (hp (by omega))]
    exact ⟨fun h k hk => ⟨fun _ => h.1 k hk, fun h => by omega⟩, fun h => ⟨fun k hk => (h k hk).1 (by omega), rfl⟩⟩
  · rw [drop_2 hlen]
    show [vec sz (colP (L.take n)), vec sz (colQ 0 (L.take n))] = [pOf L n, qOf L n] ↔ _
    rw [List.cons.injEq, List.cons.injEq, vec_off (hp (by omega)), vec_off (hq (by omega))]
    exact ⟨fun h k hk => ⟨fun _ => h.1 k hk, fun _ => h.2.1 k hk⟩, fun h => ⟨fun k hk => (h k hk).1 (by omega), fun k hk => (h k hk).2 (by omega), rfl⟩⟩
theorem cand_n {L : List (List UInt8)} {n sz : Nat} : Cand L n sz n ↔ ∀ k, k < sz → dQ L n k = 0 := by
  have e : ∀ k, Cand1 L n n k ↔ dQ L n k = 0 := fun k => by unfold Cand1; rw [if_neg (by omega), if_pos rfl]
  exact ⟨fun h k hk => (e k).1 (h k hk), fun h k hk => (e k).2 (h k hk)⟩
theorem cand_n1 {L : List (List UInt8)} {n sz : Nat} : Cand L n sz (n + 1) ↔ ∀ k, k < sz → dP L n k = 0 := by
  have e : ∀ k, Cand1 L n (n + 1) k ↔ dP L n k = 0 := fun k => by unfold Cand1; rw [if_neg (by omega), if_neg (by omega)]
  exact ⟨fun h k hk => (e k).1 (h k hk), fun h k hk => (e k).2 (h k hk)⟩
theorem cand_i {L : List (List UInt8)} {n sz i : Nat} (hi : i < n) : Cand L n sz i ↔ vec sz (fun k => dbln i (dP L n k)) = vec sz (dQ L n) := by
  have e : ∀ k, Cand1 L n i k ↔ dbln i (dP L n k) = dQ L n k := fun k => by unfold Cand1; rw [if_pos hi]
  exact ⟨fun h => vec_congr (fun k hk => (e k).1 (h k hk)), fun h k hk => (e k).2 (vec_inj h k hk)⟩
theorem find_at {L : List (List UInt8)} {n sz j : Nat} (hn : n ≤ 16) (hw : ¬ Whole L n 2 sz) (hj : j < n + 2) (hc : Cand L n sz j) : FindIs L n 2 sz (j : Int) 0 :=
  ⟨fun h => absurd h hw, fun _ h => by omega, fun _ _ => ⟨fun i hi h => ⟨by rw [cand_unique hn hw hi hj h hc], rfl⟩, fun h => absurd hc (h j hj)⟩⟩
/-- What the program's Find leaves. -/
def FPost (L : List (List UInt8)) (level : Int) (w : World) (e : Ending) (w' : World) : Prop := ∃ r c : Int, e = .returned (.tuple #[.int .i64 r, if c = 0 then .nilIface else .iface 24 (.int .i64 c)]) ∧ FindAll L level (partErr L level) r c ∧ Below w.heap.size w w'
theorem fpost_of {L : List (List UInt8)} {level r c : Int} {n lv sz : Nat} {w w' : World} (hp : partErr L level = 0) (h0 : lostN L = 0) (hl : level = (lv : Int)) (hn : nOf L level = n) (hz : szOf L = sz) (h : FindIs L n lv sz r c) {e : Ending} (he : e = .returned (.tuple #[.int .i64 r, if c = 0 then .nilIface else .iface 24 (.int .i64 c)])) (hb : Below w.heap.size w w') : FPost L level w e w' := by
  refine ⟨r, c, he, ?_, hb⟩
  rw [hp]
  refine ⟨fun h => absurd rfl h, fun _ h => absurd h0 h, fun _ _ => ?_⟩
  rw [hn, hz, hl]
  exact h
set_option maxRecDepth 1000000 in
set_option maxHeartbeats 4000000 in
theorem find_any (L : List (List UInt8)) (v : Value) (level : Int) (w : World) (hl : L.length ≤ 1000000) (hp : ∀ b ∈ L, b.length ≤ 140737488355328) (hv : Pcs w.heap.size w v L) : Calls Tryd.prog 34 #[v, .int .i64 level] w (FPost L level w) := by
  have HP := hid_mk (part_any L w.heap.size v level w hl hp hv)
  have HV := hid_mk hv
  obtain ⟨ao, cp, rfl⟩ := hv.shape
  have hn1 := neq_nil_iface
  have hn2 := neq_some_iface
  clear hv hp
  go_enter Tryd.func34, Tryd.ntmps34
  go_wp2_with fail
  refine HP.out.mono ?_
  rintro e w1 (⟨n, a, b, he, hn, rfl, ha, hb, m, hm⟩ | ⟨he, rfl, rfl⟩)
  · have HB1 : Hid (Below w.heap.size w w1) := by show Below _ _ _; rw [hm]; exact drewN_below _ _ _
    have hs1 : w1.heap.size = w.heap.size := by rw [hm]; rfl
    have HS1 := hid_mk hs1
    have HPE := hid_mk he
    have hE : Even L ∧ 0 ≤ level ∧ level ≤ 2 ∧ 1 ≤ n ∧ n ≤ 16 := by
      have h := he
      unfold partErr at h
      split at h
      · cases h
      · split at h
        · rename_i h3 h4
          exact ⟨h4.2, by omega, by omega, by omega, by omega⟩
        · cases h
    obtain ⟨hE, hl0, hl2, hn1', hn16⟩ := hE
    obtain ⟨lv, rfl⟩ := Int.eq_ofNat_of_zero_le hl0
    have hlen : L.length = n + lv := by omega
    have hno : nOf L (lv : Int) = n := by unfold nOf; omega
    have HNO := hid_mk hno
    obtain ⟨D, hD⟩ : ∃ D, D = L.take n := ⟨_, rfl⟩
    obtain ⟨R, hR⟩ : ∃ R, R = L.drop n := ⟨_, rfl⟩
    rw [← hD] at ha
    rw [← hR] at hb
    have HD := hid_mk hD
    have HRr := hid_mk hR
    have HDL : Hid (D.length = n) := by show _ = _; rw [hD, List.length_take]; omega
    have HRL : Hid (R.length = lv) := by show _ = _; rw [hR, List.length_drop]; omega
    obtain ⟨xo, xc, rfl⟩ := ha.shape
    obtain ⟨yo, yc, rfl⟩ := hb.shape
    rw [HDL.out] at ha
    rw [HRL.out] at hb
    rw [HDL.out, HRL.out]
    have HA := hid_mk ha
    have HBb := hid_mk hb
    have HLo := hid_mk (lost_any L w.heap.size (.slice ao L.length cp) w1 hl (by rw [hs1]; exact Nat.le_refl _) (HV.out.below HB1.out (Nat.le_refl _)))
    have HE := hid_mk hE
    have HLEN := hid_mk hlen
    clear ha hb hm hs1 he hn HP hD hR hE hno hl0 hlen
    go_wp2_with fail
    refine HLo.out.mono ?_
    rintro e w2 ⟨rfl, hb2⟩
    have HB2 : Hid (Below w.heap.size w w2) := HB1.out.trans (hb2.mono (Nat.le_of_eq HS1.out.symm))
    have HB12 : Hid (Below w1.heap.size w1 w2) := hb2
    clear hb2 HLo
    by_cases h0 : lostN L = 0
    · have HF := hid_mk (full_of HLEN.out (by omega) hn16 HE.out h0)
      have HET := hid_mk (even_take HE.out h0 hn1' (by have := HLEN.out; omega))
      rw [← HD.out] at HET
      have HMW := hid_mk (made_whole HF.out (by rw [← HD.out]; exact HET.out.2))
      rw [← HD.out, ← HRr.out] at HMW
      have H0 := hid_mk h0
      rw [h0]
      have hLE : L.length ≤ 18 := by have := HLEN.out; omega
      have HZS : Hid (szOf L ≤ 4096) := HE.out.2.2
      have HDS : Hid (szOf D = szOf L) := HET.out.2
      have HAD : Hid (Pcs w2.heap.size w2 (.slice xo n xc) D) := (HA.out.below (HB12.out.mono (Nat.le_of_eq HS1.out.symm)) (Nat.le_refl _)).mono HB2.out.size
      have HBD : Hid (Pcs w.heap.size w2 (.slice yo lv yc) R) := HBb.out.below (HB12.out.mono (Nat.le_of_eq HS1.out.symm)) (Nat.le_refl _)
      by_cases h22 : lv < 2
      · have h22' : (lv : Int) < 2 := by omega
        have HMA := hid_mk (made_any D (.slice xo n xc) (lv : Int) w2 (by rw [HDL.out]; omega) (by omega) (by omega) HAD.out HET.out.1)
        obtain ⟨M, hM⟩ : ∃ M, M = makeL D (lv : Int) := ⟨_, rfl⟩
        have HML : Hid (M.length ≤ 2) := by show _ ≤ _; rw [hM]; unfold makeL; rw [List.length_take]; simp; omega
        rw [← hM] at HMA HMW
        clear hM h0
        go_wp2_with fail
        refine HMA.out.mono ?_
        rintro e w3 ⟨u, rfl, hu, hb3⟩
        obtain ⟨uo, uc, rfl⟩ := (hu.pcs (Nat.le_refl _)).shape
        have HEQ := hid_mk (equalFunc_any M R w3.heap.size w.heap.size _ _ w3 (by have := HML.out; omega) (by rw [HRL.out]; omega) (hu.pcs (Nat.le_refl _)) (HBD.out.below hb3 HB2.out.size))
        have HB3 : Hid (Below w.heap.size w w3) := HB2.out.trans (hb3.mono HB2.out.size)
        clear hu hb3 HMA
        go_wp2_with fail
        refine HEQ.out.mono ?_
        rintro e w4 ⟨⟨r, rfl, hr⟩, rfl⟩
        have HRR := hid_mk (hr.trans HMW.out)
        clear hr HEQ HMW
        cases r with
        | true =>
          go_wp2
          go_ret2
          have hw := HRR.out.1 (by trivial)
          exact fpost_of HPE.out H0.out rfl HNO.out rfl ⟨fun _ => ⟨rfl, rfl⟩, fun h => absurd hw h, fun h => absurd hw h⟩ (r := -1) (c := 0) rfl HB3.out
        | false =>
          have HNW : Hid (¬ Whole L n lv (szOf L)) := fun h => by have := HRR.out.2 h; cases this
          clear HRR
          go_wp2
          go_ret2
          exact fpost_of HPE.out H0.out rfl HNO.out rfl ⟨fun h => absurd h HNW.out, fun _ _ => ⟨rfl, rfl⟩, fun _ h => by omega⟩ (r := 0) (c := 11) rfl HB3.out
      · obtain rfl : lv = 2 := by omega
        have HM2 := hid_mk (made_2 D (.slice xo n xc) w2 (by rw [HDL.out]; omega) HAD.out HET.out.1)
        have hml : makeL D ((2 : Nat) : Int) = [vec (szOf L) (colP D), vec (szOf L) (colQ 0 D)] := by unfold makeL; rw [HDS.out]; rfl
        rw [hml] at HMW
        rw [HDS.out] at HM2
        obtain ⟨sz, hsz⟩ : ∃ sz, sz = szOf L := ⟨_, rfl⟩
        have HSZ := hid_mk hsz
        rw [← hsz] at HM2 HMW HF HZS
        clear hml hsz h0 h22
        go_wp2_with fail
        refine HM2.out.mono ?_
        rintro e w3 ⟨u, B, C, rfl, hso, hB, hBC, hpB, hpC, hb3⟩
        have hpr : Pcs w3.heap.size w3 u [vec sz (colP D), vec sz (colQ 0 D)] := (sowns_pcsR hso rfl fun i h1 h2 => (match i, h1 with
          | 0, _ => hpB.rd (vec_length _ _).symm _ _ hB
          | 1, _ => hpC.rd (vec_length _ _).symm _ _ (by omega))).pcs (Nat.le_refl _)
        obtain ⟨uo, uc, hu⟩ := hso.shape
        have hu' : u = .slice uo 2 uc := hu
        subst hu'
        have HEQ := hid_mk (equalFunc_any _ R w3.heap.size w.heap.size _ _ w3 (by simp) (by rw [HRL.out]; omega) hpr (HBD.out.below hb3 HB2.out.size))
        have HB3 : Hid (Below w.heap.size w w3) := HB2.out.trans (hb3.mono HB2.out.size)
        obtain ⟨gu, e2, _, _, _, hc0⟩ := hso.get 0 (by simp)
        cases e2
        obtain ⟨gu', e2, _, _, _, hc1⟩ := hso.get 1 (by simp)
        cases e2
        have hc0' : w3.cell? ⟨gu, 0, none⟩ = some (.slice (some ⟨B, 0, none⟩) sz sz) := hc0
        have hc1' : w3.cell? ⟨gu, 1, none⟩ = some (.slice (some ⟨C, 0, none⟩) sz sz) := hc1
        have HC0 := hid_mk hc0'
        have HC1 := hid_mk hc1'
        have HPB := hid_mk hpB
        have HPC := hid_mk hpC
        have HBB := hid_mk hB
        have HBC := hid_mk hBC
        have HRD : Hid (Pcs w.heap.size w3 (.slice yo 2 yc) R) := HBD.out.below hb3 HB2.out.size
        clear hso hpr hu hc0 hc1 hc0' hc1' hpB hpC hb3 HM2 hB hBC
        go_wp2_with fail
        refine HEQ.out.mono ?_
        rintro e w4 ⟨⟨r, rfl, hr⟩, rfl⟩
        have HRR := hid_mk (hr.trans HMW.out)
        clear hr HEQ HMW
        cases r with
        | true =>
          go_wp2
          go_ret2
          have hw := HRR.out.1 (by trivial)
          exact fpost_of HPE.out H0.out rfl HNO.out HSZ.out.symm ⟨fun _ => ⟨rfl, rfl⟩, fun h => absurd hw h, fun h => absurd hw h⟩ (r := -1) (c := 0) rfl HB3.out
        | false =>
          have HNW : Hid (¬ Whole L n 2 sz) := fun h => by have := HRR.out.2 h; cases this
          clear HRR
          have hc0 := HC0.out
          have hc1 := HC1.out
          go_wp2
          have HCR : Hid (R = [pOf L n, qOf L n]) := by show _ = _; rw [HRr.out]; exact drop_2 HLEN.out
          have mem1 : ∀ k, k < L.length → L.getD k [] ∈ L := fun k hk => by rw [List.getD_eq_getElem?_getD, List.getElem?_eq_getElem hk]; exact List.getElem_mem _
          have hpl : (pOf L n).length = sz := (HF.out.all _ (mem1 n (by have := HLEN.out; omega))).resolve_left (HF.out.p0 (by omega))
          have hql : (qOf L n).length = sz := (HF.out.all _ (mem1 (n + 1) (by have := HLEN.out; omega))).resolve_left (HF.out.q0 (by omega))
          have hrd := HRD.out
          rw [HCR.out] at hrd
          obtain ⟨yb, yoff, ul, ucp, e', hbb, hr0c, hr0⟩ := hrd.get 0 (by simp)
          cases e'
          obtain ⟨yb', yoff', vl, vcp, e', _, hr1c, hr1⟩ := hrd.get 1 (by simp)
          cases e'
          have hr0c' : w4.cell? ⟨yb, yoff, none⟩ = some (.slice ul sz ucp) := by simpa [hpl] using hr0c
          have hr1c' : w4.cell? ⟨yb, yoff + 1, none⟩ = some (.slice vl sz vcp) := by simpa [hql] using hr1c
          have hr0' : Rd w.heap.size w4 (.slice ul sz ucp) (pOf L n) := by simpa [hpl] using hr0
          have hr1' : Rd w.heap.size w4 (.slice vl sz vcp) (qOf L n) := by simpa [hql] using hr1
          have HR0 := hid_mk hr0'
          have HR1 := hid_mk hr1'
          have HR1C := hid_mk hr1c'
          have HPL := hid_mk hpl
          have HQL := hid_mk hql
          have HWB : Hid (w.heap.size ≤ B) := Nat.le_trans HB2.out.size HBB.out
          have HW4 : Hid (w.heap.size ≤ w4.heap.size) := HB3.out.size
          clear hrd hr0c hr1c hr0 hr1 hr0' hr1' hr1c' hpl hql mem1
          go_quiet (fail)
          go_wp2_with fail
          refine (add_any (pOf L n) (colP D) sz sz B sz _ (w4.drewN nq) rfl (by have := HZS.out; omega) (HPB.out.keep rfl) (.inr HPL.out) ((HR0.out.below (drewN_below _ _ _) (Nat.le_refl _)).mono (fun x (hx : x < _) => ⟨by have := HWB.out; omega, Nat.lt_of_lt_of_le hx HW4.out⟩))).mono ?_
          rintro e w5 ⟨⟨v5, rfl⟩, hp5, hg5⟩
          have HP5 : Hid (Part w5 B sz sz (vec sz (dP L n))) := by have h := hp5; rw [HD.out] at h; exact h
          have HW5 : Hid (Below w.heap.size w4 w5) := (drewN_below _ _ _).trans (grown_below hg5 HWB.out HW4.out)
          have HC5 : Hid (Part w5 C sz sz (vec sz (colQ 0 D))) := (show Part (w4.drewN nq) C sz sz _ from HPC.out.keep rfl).grown hg5 (by have := HBC.out; omega)
          have d1 := (HW5.out.cell (p := ⟨yb, yoff + 1, none⟩) hbb).trans HR1C.out
          have HW55 : Hid (w.heap.size ≤ w5.heap.size) := Nat.le_trans HW4.out HW5.out.size
          clear hp5 hg5
          go_wp2_with fail
          refine (add_any (qOf L n) (colQ 0 D) sz sz C sz _ w5 rfl (by have := HZS.out; omega) HC5.out (.inr HQL.out) ((HR1.out.below HW5.out (Nat.le_refl _)).mono (fun x (hx : x < _) => ⟨by have := HWB.out; have := HBC.out; omega, Nat.lt_of_lt_of_le hx HW55.out⟩))).mono ?_
          rintro e w6 ⟨⟨v6, rfl⟩, hp6, hg6⟩
          have HP6 : Hid (Part w6 C sz sz (vec sz (dQ L n))) := by have h := hp6; rw [HD.out] at h; exact h
          have HPB6 : Hid (Part w6 B sz sz (vec sz (dP L n))) := HP5.out.grown hg6 (by have := HBC.out; omega)
          have HW6 : Hid (Below w.heap.size w w6) := HB3.out.trans (HW5.out.trans (grown_below hg6 (by have := HWB.out; have := HBC.out; omega) HW55.out))
          clear hp6 hg6 d1
          go_wp2_with fail
          refine (empty_any (dQ L n) sz sz C sz w6 rfl (by have := HZS.out; omega) HP6.out).mono ?_
          rintro e w7 ⟨⟨r, rfl, hr⟩, rfl⟩
          have HQE := hid_mk (hr.trans cand_n.symm)
          clear hr
          cases r with
          | true =>
            go_wp2
            go_ret2
            exact fpost_of HPE.out H0.out rfl HNO.out HSZ.out.symm (find_at hn16 HNW.out (by omega) (HQE.out.1 (by trivial))) rfl HW6.out
          | false =>
            go_wp2_with fail
            refine (empty_any (dP L n) sz sz B sz w7 rfl (by have := HZS.out; omega) HPB6.out).mono ?_
            rintro e w8 ⟨⟨r, rfl, hr⟩, rfl⟩
            have HPE' := hid_mk (hr.trans cand_n1.symm)
            clear hr
            cases r with
            | true =>
              go_wp2
              go_ret2
              exact fpost_of HPE.out H0.out rfl HNO.out HSZ.out.symm (by have h := find_at hn16 HNW.out (by omega) (HPE'.out.1 (by trivial)); simpa using h) rfl HW6.out
            | false =>
              have HNQ : Hid (¬ Cand L n sz n) := fun h => by have := HQE.out.2 h; cases this
              have HNP : Hid (¬ Cand L n sz (n + 1)) := fun h => by have := HPE'.out.2 h; cases this
              clear HQE HPE'
              go_wp2
              go_loopw [65] (fun ii wr => ∃ i : Nat, ii = .int .i64 (i : Int) ∧ i ≤ n ∧ (∀ j, j < i → ¬ Cand L n sz j) ∧ Part wr B sz sz (vec sz (fun k => dbln i (dP L n k))) ∧ Part wr C sz sz (vec sz (dQ L n)) ∧ Below w.heap.size w wr) (fun ii _ => n - (intOf ii).toNat)
              case atStart => exact ⟨0, rfl, by omega, fun j hj => by omega, HPB6.out, HP6.out, HW6.out⟩
              case round =>
                obtain ⟨i, rfl, hi, hno, hpb, hpc, hbv⟩ := hrel
                obtain ⟨V, hV⟩ : ∃ V, V = wr := ⟨_, rfl⟩
                subst hV
                have HNOO := hid_mk hno
                have HPB7 := hid_mk hpb
                have HPC7 := hid_mk hpc
                have HBV := hid_mk hbv
                clear hno hpb hpc hbv
                by_cases hin : i < n
                · have hin' : (i : Int) < (n : Int) := by omega
                  have HBE := hid_mk (bequal_any (vec sz (fun k => dbln i (dP L n k))) (vec sz (dQ L n)) V.heap.size V.heap.size (.slice (some ⟨B, 0, none⟩) sz sz) (.slice (some ⟨C, 0, none⟩) sz sz) V ((HPB7.out.rd (vec_length _ _).symm sz 0 (Nat.zero_le _)).mono (fun _ h => h.2)) ((HPC7.out.rd (vec_length _ _).symm sz 0 (Nat.zero_le _)).mono (fun _ h => h.2)))
                  go_wp2_with fail
                  refine HBE.out.mono ?_
                  rintro e w9 ⟨⟨r, rfl, hr⟩, rfl⟩
                  have HCI := hid_mk (hr.trans (cand_i hin).symm)
                  clear hr HBE
                  cases r with
                  | true =>
                    go_wp2
                    go_ret2
                    exact fpost_of HPE.out H0.out rfl HNO.out HSZ.out.symm (find_at hn16 HNW.out (by omega) (HCI.out.1 (by trivial))) rfl HBV.out
                  | false =>
                    have HNI : Hid (¬ Cand L n sz i) := fun h => by have := HCI.out.2 h; cases this
                    clear HCI
                    go_wp2_with fail
                    refine (tdouble_any (fun k => dbln i (dP L n k)) sz sz B sz w9 rfl (by have := HZS.out; omega) HPB7.out).mono ?_
                    rintro e w10 ⟨⟨v10, rfl⟩, hp10, hg10⟩
                    have HP10 : Hid (Part w10 B sz sz (vec sz (fun k => dbln (i + 1) (dP L n k)))) := hp10
                    have HC10 : Hid (Part w10 C sz sz (vec sz (dQ L n))) := HPC7.out.grown hg10 (by have := HBC.out; omega)
                    have HW10 : Hid (Below w.heap.size w w10) := HBV.out.trans (grown_below hg10 HWB.out HBV.out.size)
                    clear hp10 hg10
                    go_wp2
                    go_roundw
                    case rel => exact ⟨i + 1, by go_num, by omega, (fun j hj => by rcases Nat.lt_or_ge j i with h | h; exact HNOO.out j h; rw [show j = i by omega]; exact HNI.out), HP10.out, HC10.out, HW10.out⟩
                    case measure => simp [intOf]; omega
                · have hin' : ¬ (i : Int) < (n : Int) := by omega
                  have hie : i = n := by omega
                  go_wp2
                  go_ret2
                  exact fpost_of HPE.out H0.out rfl HNO.out HSZ.out.symm ⟨fun h => absurd h HNW.out, fun _ h => by omega, fun _ _ => ⟨fun j hj h => absurd h (by
                    rcases Nat.lt_or_ge j n with h1 | h1
                    · exact HNOO.out j (by omega)
                    · rcases Nat.eq_or_lt_of_le h1 with h2 | h2
                      · rw [← h2]; exact HNQ.out
                      · rw [show j = n + 1 by omega]; exact HNP.out), fun _ => ⟨rfl, rfl⟩⟩⟩ (r := 0) (c := 11) rfl HBV.out
    · have h0' : (0 : Int) < (lostN L : Int) := by omega
      have H0 := hid_mk h0
      clear h0
      go_wp2
      go_ret2
      exact ⟨0, 10, rfl, by rw [HPE.out]; exact ⟨fun h => absurd rfl h, fun _ _ => ⟨rfl, rfl⟩, fun _ h => absurd h H0.out⟩, HB2.out⟩
  · have HPE := hid_mk he
    clear he
    go_wp2
    go_ret2
    exact ⟨0, partErr L level, by rw [if_neg HPE.out]; rfl, ⟨fun _ => ⟨rfl, rfl⟩, fun h => absurd h HPE.out, fun h => absurd h HPE.out⟩, Below.refl _ _⟩
end Go.Proofs.YtigaabhicjcbjabDoor
