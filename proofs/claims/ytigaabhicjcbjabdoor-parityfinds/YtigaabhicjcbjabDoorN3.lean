/-
  Two pieces from what is left.
-/
import Derived.Test.YtigaabhicjcbjabDoorN2
namespace Go.Proofs.YtigaabhicjcbjabDoor
open Go.ChangeShapes Go.WideShapes Go.ChangeAt Go.RowKit
set_option linter.unusedVariables false

def TwoPost (w : World) (sz : Nat) (f g : Nat → UInt8) (e : Ending) (w' : World) : Prop := ∃ B C c, e = .returned (.tuple #[.slice (some ⟨B, 0, none⟩) sz c, .slice (some ⟨C, 0, none⟩) sz sz]) ∧ w.heap.size ≤ B ∧ w.heap.size ≤ C ∧ B ≠ C ∧ Part w' B c sz (vec sz f) ∧ Part w' C sz sz (vec sz g) ∧ Below w.heap.size w w'
set_option maxRecDepth 100000 in
set_option maxHeartbeats 1000000 in
theorem two_any (D : List (List UInt8)) (i j m sz : Nat) (p q : List UInt8) (R : List (List UInt8)) (dv mv : Value) (w : World) (hi : i < 16) (hj : j < 16) (hm255 : m < 255) (hpow : dbln m 1 = dbln i 1 ^^^ dbln j 1) (hl : D.length ≤ 1000000) (hsz : sz ≤ 4096) (hsz1 : 1 ≤ sz) (hd : Pcs w.heap.size w dv D) (hm : Pcs w.heap.size w mv (p :: q :: R)) (hp : ∀ b ∈ D, b.length = 0 ∨ b.length = sz) (hpl : p.length = sz) (hql : q.length = sz) :
    Calls Tryd.prog 52 #[dv, .int .i64 (i : Int), .int .i64 (j : Int), mv] w (TwoPost w sz (fun k => dbln (255 - m) (dbln j (colP D k ^^^ at0 p k) ^^^ (colQ 0 D k ^^^ at0 q k))) (fun k => (colP D k ^^^ at0 p k) ^^^ dbln (255 - m) (dbln j (colP D k ^^^ at0 p k) ^^^ (colQ 0 D k ^^^ at0 q k)))) := by
  have HP := hid_mk (plain_any D w.heap.size sz dv w hl hsz (Nat.le_refl _) hd hp)
  have HD := hid_mk hd
  have HPD := hid_mk hp
  obtain ⟨mo, mc, rfl⟩ := hm.shape
  obtain ⟨b, off, ul, uc, rfl, hb, hc, hr⟩ := hm.get 0 (by simp)
  obtain ⟨b', off', ul2, uc2, e', hb2, hc2, hr2⟩ := hm.get 1 (by simp)
  cases e'
  obtain ⟨ao, ac, rfl⟩ := hd.shape
  have HR1 : Hid (Rd w.heap.size w (.slice ul sz uc) p) := by have h := hr; simp only [List.getElem_cons_zero, hpl] at h; exact h
  have HR : Hid (Rd w.heap.size w (.slice ul2 sz uc2) q) := by have h := hr2; simp only [List.getElem_cons_succ, List.getElem_cons_zero, hql] at h; exact h
  have hc' : w.cell? ⟨b, off, none⟩ = some (.slice ul sz uc) := by simpa [hpl] using hc
  have hc2' : w.cell? ⟨b, off + 1, none⟩ = some (.slice ul2 sz uc2) := by simpa [hql] using hc2
  have HPL := hid_mk hpl
  have HQL := hid_mk hql
  have hRl : (1 : Int) < ((p :: q :: R).length : Int) := by simp; omega
  obtain ⟨rl, hrl⟩ : ∃ rl, rl = (p :: q :: R).length := ⟨_, rfl⟩
  rw [← hrl] at hRl ⊢
  clear hd hm hp hc hr hrl hc2 hr2 hpl hql
  have HC1 := hid_mk hc'
  have HC2 := hid_mk hc2'
  have HPWi := hid_mk (power_any i (by omega))
  have HPWj := hid_mk (power_any j (by omega))
  have hiv : ∀ w, Calls Tryd.prog 67 #[.int .u8 (bits .xor .u8 ((dbln i 1).toNat : Int) ((dbln j 1).toNat : Int))] w fun e w' => e = .returned (.int .u8 ((dbln (255 - m) 1).toNat : Int)) ∧ w' = w := fun w => by
    rw [b8_xor, ← hpow]; exact inverse_any m hm255 w
  have HIV := hid_mk hiv
  clear hiv hpow
  go_enter Tryd.func52, Tryd.ntmps52
  go_wp2_with fail
  refine HP.out.mono ?_
  rintro e w1 ⟨B, rfl, hB, hp1, hb1⟩
  have HA := hid_mk (add_any p (colP D) sz sz B sz (.slice ul sz uc) w1 rfl (by omega) hp1 (.inr HPL.out) ((HR1.out.below hb1 (Nat.le_refl _)).to_ne hB hb1.size))
  have HB1 := hid_mk hb1
  have c1 := (HB1.out.cell (p := ⟨b, off, none⟩) hb).trans HC1.out
  clear hp1 hb1 HP hc' hc2'
  go_wp2_with fail
  refine HA.out.mono ?_
  rintro e w2 ⟨⟨u, rfl⟩, hp2, hg2⟩
  have HP2 := hid_mk hp2
  have HB2 : Hid (Below w.heap.size w w2) := HB1.out.trans (grown_below hg2 hB HB1.out.size)
  have hBw2 := hp2.lt
  have HW := hid_mk (weighted_any D sz (.slice ao D.length ac) w2 hl hsz ((HD.out.below HB2.out (Nat.le_refl _)).mono HB2.out.size) HPD.out)
  have c2 := (HB2.out.cell (p := ⟨b, off + 1, none⟩) hb).trans HC2.out
  clear hp2 hg2 HA c1
  go_wp2_with fail
  refine HW.out.mono ?_
  rintro e w3 ⟨C, rfl, hC, hp3, hb3⟩
  have HB3 : Hid (Below w.heap.size w w3) := HB2.out.trans (hb3.mono HB2.out.size)
  have HP3 := hid_mk (HP2.out.below hb3 hBw2)
  have hBw3 := HP3.out.lt
  have HA3 := hid_mk (add_any q (colQ 0 D) sz sz C sz (.slice ul2 sz uc2) w3 rfl (by omega) hp3 (.inr HQL.out) ((HR.out.below HB3.out (Nat.le_refl _)).to_ne (Nat.le_trans HB2.out.size hC) HB3.out.size))
  have c3 := (HB3.out.cell (p := ⟨b, off + 1, none⟩) hb).trans HC2.out
  clear hp3 hb3 HW c2
  go_wp2_with fail
  refine HA3.out.mono ?_
  rintro e w4 ⟨⟨u, rfl⟩, hp4, hg4⟩
  have hBC : B ≠ C := by omega
  have HP4 := hid_mk (HP3.out.grown hg4 hBC)
  have HQ4 := hid_mk hp4
  have HB4 : Hid (Below w.heap.size w w4) := HB3.out.trans (grown_below hg4 (Nat.le_trans HB2.out.size hC) HB3.out.size)
  have hBw4 := HP4.out.lt
  have HCL := hid_mk (cloneT_some (vec sz (fun i => colP D i ^^^ at0 p i)) sz B 0 sz w4 (vec_length _ _).symm (by rw [vec_length]; omega) hBw4 HP4.out.at)
  clear hp4 hg4 HA3 c3
  go_wp2_with fail
  refine HCL.out.mono ?_
  rintro e w5 ⟨v, rfl, hv, hown, hb5⟩
  obtain ⟨F, fc, rfl, hF, hpF⟩ := hown.ptr hv
  rw [vec_length] at hpF ⊢
  have HB5 : Hid (Below w.heap.size w w5) := HB4.out.trans (hb5.mono HB4.out.size)
  have HP5 := hid_mk (HP4.out.below hb5 hBw4)
  have HQ5 := hid_mk (HQ4.out.below hb5 HQ4.out.lt)
  have hQw := HQ4.out.lt
  have HT5 := hid_mk (times_any (dbln j 1) (fun i => colP D i ^^^ at0 p i) sz sz F fc w5 rfl (by omega) (by omega) hpF)
  clear hv hown hb5 hpF HCL
  go_wp2_with fail
  refine (HPWj.out w5).mono ?_
  rintro e w5' ⟨rfl, rfl⟩
  go_wp2_with fail
  refine HT5.out.mono ?_
  rintro e w6 ⟨⟨u, rfl⟩, hp6, hg6⟩
  have hFB : F ≠ B := by omega
  have hFC : F ≠ C := by omega
  have HF6 : Hid (Part w6 F fc sz (vec sz (fun k => dbln j (colP D k ^^^ at0 p k)))) := by
    show Part _ _ _ _ _
    rw [vec_congr (fun k _ => (mulc_pow j (colP D k ^^^ at0 p k)).symm)]; exact hp6
  have HP6 := hid_mk (HP5.out.grown hg6 (Ne.symm hFB))
  have HQ6 := hid_mk (HQ5.out.grown hg6 (Ne.symm hFC))
  have HB6 : Hid (Below w.heap.size w w6) := HB5.out.trans (grown_below hg6 (Nat.le_trans HB4.out.size hF) HB5.out.size)
  have HA6 := hid_mk (add_any (vec sz (fun i => colQ 0 D i ^^^ at0 q i)) (fun k => dbln j (colP D k ^^^ at0 p k)) sz sz F fc (.slice (some ⟨C, 0, none⟩) sz sz) w6 rfl (by omega) HF6.out (.inr (vec_length _ _)) (.inr ⟨C, 0, sz, by rw [vec_length], ⟨Ne.symm hFC, HQ6.out.lt⟩, HQ6.out.at⟩))
  clear hp6 hg6 HT5
  go_wp2_with fail
  refine HA6.out.mono ?_
  rintro e w7 ⟨⟨u, rfl⟩, hp7, hg7⟩
  have HF7 : Hid (Part w7 F fc sz (vec sz (fun k => dbln j (colP D k ^^^ at0 p k) ^^^ (colQ 0 D k ^^^ at0 q k)))) := by
    show Part _ _ _ _ _
    rw [vec_congr (g := fun k => dbln j (colP D k ^^^ at0 p k) ^^^ at0 (vec sz (fun i => colQ 0 D i ^^^ at0 q i)) k) (fun k hk => by rw [vec_at hk])]; exact hp7
  have HP7 := hid_mk (HP6.out.grown hg7 (Ne.symm hFB))
  have HB7 : Hid (Below w.heap.size w w7) := HB6.out.trans (grown_below hg7 (Nat.le_trans HB4.out.size hF) HB6.out.size)
  have HT7 := hid_mk (times_any (dbln (255 - m) 1) (fun k => dbln j (colP D k ^^^ at0 p k) ^^^ (colQ 0 D k ^^^ at0 q k)) sz sz F fc w7 rfl (by omega) (by omega) HF7.out)
  clear hp7 hg7 HA6
  go_wp2_with fail
  refine (HPWi.out w7).mono ?_
  rintro e w7' ⟨rfl, rfl⟩
  go_wp2_with fail
  refine (HPWj.out w7').mono ?_
  rintro e w7'' ⟨rfl, rfl⟩
  go_wp2_with fail
  refine (HIV.out w7'').mono ?_
  rintro e w7''' ⟨rfl, rfl⟩
  go_wp2_with fail
  refine HT7.out.mono ?_
  rintro e w8 ⟨⟨u, rfl⟩, hp8, hg8⟩
  have HF8 : Hid (Part w8 F fc sz (vec sz (fun k => dbln (255 - m) (dbln j (colP D k ^^^ at0 p k) ^^^ (colQ 0 D k ^^^ at0 q k))))) := by
    show Part _ _ _ _ _
    rw [vec_congr (fun k _ => (mulc_pow (255 - m) (dbln j (colP D k ^^^ at0 p k) ^^^ (colQ 0 D k ^^^ at0 q k))).symm)]; exact hp8
  have HP8 := hid_mk (HP7.out.grown hg8 (Ne.symm hFB))
  have HB8 : Hid (Below w.heap.size w w8) := HB7.out.trans (grown_below hg8 (Nat.le_trans HB4.out.size hF) HB7.out.size)
  have HA8 := hid_mk (add_any (vec sz (fun k => dbln (255 - m) (dbln j (colP D k ^^^ at0 p k) ^^^ (colQ 0 D k ^^^ at0 q k)))) (fun i => colP D i ^^^ at0 p i) sz sz B sz (.slice (some ⟨F, 0, none⟩) sz fc) w8 rfl (by omega) HP8.out (.inr (vec_length _ _)) (.inr ⟨F, 0, fc, by rw [vec_length], ⟨hFB, HF8.out.lt⟩, HF8.out.at⟩))
  clear hp8 hg8 HT7
  go_wp2_with fail
  refine HA8.out.mono ?_
  rintro e w9 ⟨⟨u, rfl⟩, hp9, hg9⟩
  have HP9 : Hid (Part w9 B sz sz (vec sz (fun k => (colP D k ^^^ at0 p k) ^^^ dbln (255 - m) (dbln j (colP D k ^^^ at0 p k) ^^^ (colQ 0 D k ^^^ at0 q k))))) := by
    show Part _ _ _ _ _
    rw [vec_congr (g := fun k => (colP D k ^^^ at0 p k) ^^^ at0 (vec sz (fun k => dbln (255 - m) (dbln j (colP D k ^^^ at0 p k) ^^^ (colQ 0 D k ^^^ at0 q k)))) k) (fun k hk => by rw [vec_at hk])]; exact hp9
  have HF9 := hid_mk (HF8.out.grown hg9 hFB)
  have HB9 : Hid (Below w.heap.size w w9) := HB8.out.trans (grown_below hg9 hB HB8.out.size)
  clear hp9 hg9 HA8
  go_wp2
  go_ret2
  exact ⟨F, B, fc, rfl, Nat.le_trans HB4.out.size hF, hB, hFB, HF9.out, HP9.out, HB9.out⟩
end Go.Proofs.YtigaabhicjcbjabDoor
