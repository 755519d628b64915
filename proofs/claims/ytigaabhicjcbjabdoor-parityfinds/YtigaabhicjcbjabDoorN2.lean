/-
  One piece, two pieces, from what is left.
-/
import Derived.Test.YtigaabhicjcbjabDoorN1
namespace Go.Proofs.YtigaabhicjcbjabDoor
open Go.ChangeShapes Go.WideShapes Go.ChangeAt Go.RowKit
set_option linter.unusedVariables false

/-- What one leaves: a row of bytes of the call's own. -/
def RowPost (w : World) (sz : Nat) (f : Nat → UInt8) (e : Ending) (w' : World) : Prop := ∃ B c, e = .returned (.slice (some ⟨B, 0, none⟩) sz c) ∧ w.heap.size ≤ B ∧ Part w' B c sz (vec sz f) ∧ Below w.heap.size w w'
set_option maxRecDepth 100000 in
theorem one_P (D : List (List UInt8)) (i sz : Nat) (p : List UInt8) (R : List (List UInt8)) (dv mv : Value) (w : World) (hl : D.length ≤ 1000000) (hsz : sz ≤ 4096) (hsz1 : 1 ≤ sz) (hd : Pcs w.heap.size w dv D) (hm : Pcs w.heap.size w mv (p :: R)) (hp : ∀ b ∈ D, b.length = 0 ∨ b.length = sz) (hpl : p.length = sz) :
    Calls Tryd.prog 51 #[dv, .int .i64 (i : Int), mv] w (RowPost w sz (fun k => colP D k ^^^ at0 p k)) := by
  have HP := hid_mk (plain_any D w.heap.size sz dv w hl hsz (Nat.le_refl _) hd hp)
  obtain ⟨mo, mc, rfl⟩ := hm.shape
  obtain ⟨b, off, ul, uc, rfl, hb, hc, hr⟩ := hm.get 0 (by simp)
  obtain ⟨ao, ac, rfl⟩ := hd.shape
  have HR : Hid (Rd w.heap.size w (.slice ul sz uc) p) := by have h := hr; simp only [List.getElem_cons_zero, hpl] at h; exact h
  have hc' : w.cell? ⟨b, off, none⟩ = some (.slice ul sz uc) := by simpa [hpl] using hc
  have HPL := hid_mk hpl
  have hRl : (0 : Int) < ((p :: R).length : Int) := by simp
  obtain ⟨rl, hrl⟩ : ∃ rl, rl = (p :: R).length := ⟨_, rfl⟩
  rw [← hrl] at hRl ⊢
  have hs0 : (0 : Int) < (sz : Int) := by omega
  clear hd hm hp hc hr hrl hpl
  go_enter Tryd.func51, Tryd.ntmps51
  go_wp2_with fail
  refine HP.out.mono ?_
  rintro e w1 ⟨B, rfl, hB, hp1, hb1⟩
  have HA := hid_mk (add_any p (colP D) sz sz B sz (.slice ul sz uc) w1 rfl (by omega) hp1 (.inr HPL.out) ((HR.out.below hb1 (Nat.le_refl _)).to_ne hB hb1.size))
  have HB1 := hid_mk hb1
  clear hp1 hb1 HP
  go_wp2_with fail
  refine HA.out.mono ?_
  rintro e w2 ⟨⟨u, rfl⟩, hp2, hg2⟩
  have HP2 := hid_mk hp2
  have HB2 : Hid (Below w.heap.size w w2) := HB1.out.trans (grown_below hg2 hB HB1.out.size)
  clear hp2 hg2 HA
  go_wp2
  go_ret
  exact ⟨B, sz, rfl, hB, HP2.out, HB2.out⟩
set_option maxRecDepth 100000 in
theorem one_Q (D : List (List UInt8)) (i sz : Nat) (p q : List UInt8) (R : List (List UInt8)) (dv mv : Value) (w : World) (hi : i < 16) (hl : D.length ≤ 1000000) (hsz : sz ≤ 4096) (hsz1 : 1 ≤ sz) (hd : Pcs w.heap.size w dv D) (hm : Pcs w.heap.size w mv (p :: q :: R)) (hp : ∀ b ∈ D, b.length = 0 ∨ b.length = sz) (hpl : p.length = 0) (hql : q.length = sz) :
    Calls Tryd.prog 51 #[dv, .int .i64 (i : Int), mv] w (RowPost w sz (fun k => dbln (255 - i) (colQ 0 D k ^^^ at0 q k))) := by
  have HW := hid_mk (weighted_any D sz dv w hl hsz hd hp)
  obtain ⟨mo, mc, rfl⟩ := hm.shape
  obtain ⟨b, off, ul, uc, rfl, hb, hc, hr⟩ := hm.get 0 (by simp)
  obtain ⟨b', off', ul2, uc2, e', hb2, hc2, hr2⟩ := hm.get 1 (by simp)
  cases e'
  obtain ⟨ao, ac, rfl⟩ := hd.shape
  have HR : Hid (Rd w.heap.size w (.slice ul2 sz uc2) q) := by have h := hr2; simp only [List.getElem_cons_succ, List.getElem_cons_zero, hql] at h; exact h
  have hc' : w.cell? ⟨b, off, none⟩ = some (.slice ul 0 uc) := by simpa [hpl] using hc
  have hc2' : w.cell? ⟨b, off + 1, none⟩ = some (.slice ul2 sz uc2) := by simpa [hql] using hc2
  have HQL := hid_mk hql
  have hRl : (1 : Int) < ((p :: q :: R).length : Int) := by simp; omega
  obtain ⟨rl, hrl⟩ : ∃ rl, rl = (p :: q :: R).length := ⟨_, rfl⟩
  rw [← hrl] at hRl ⊢
  clear hd hm hp hc hr hrl hc2 hr2 hpl hql
  have HPW := hid_mk (power_any i (by omega))
  have HIV := hid_mk (inverse_any i (by omega))
  go_enter Tryd.func51, Tryd.ntmps51
  go_wp2_with fail
  refine HW.out.mono ?_
  rintro e w1 ⟨B, rfl, hB, hp1, hb1⟩
  have HA := hid_mk (add_any q (colQ 0 D) sz sz B sz (.slice ul2 sz uc2) w1 rfl (by omega) hp1 (.inr HQL.out) ((HR.out.below hb1 (Nat.le_refl _)).to_ne hB hb1.size))
  have HB1 := hid_mk hb1
  clear hp1 hb1 HW
  go_wp2_with fail
  refine HA.out.mono ?_
  rintro e w2 ⟨⟨u, rfl⟩, hp2, hg2⟩
  have HB2 : Hid (Below w.heap.size w w2) := HB1.out.trans (grown_below hg2 hB HB1.out.size)
  have HT := hid_mk (times_any (dbln (255 - i) 1) (fun k => colQ 0 D k ^^^ at0 q k) sz sz B sz w2 rfl (by omega) (by omega) hp2)
  clear hp2 hg2 HA
  go_wp2_with fail
  refine (HPW.out w2).mono ?_
  rintro e w3 ⟨rfl, rfl⟩
  go_wp2_with fail
  refine (HIV.out w3).mono ?_
  rintro e w4 ⟨rfl, rfl⟩
  go_wp2_with fail
  refine HT.out.mono ?_
  rintro e w5 ⟨⟨u, rfl⟩, hp5, hg5⟩
  have HP5 : Hid (Part w5 B sz sz (vec sz (fun k => dbln (255 - i) (colQ 0 D k ^^^ at0 q k)))) := by
    show Part _ _ _ _ _
    rw [vec_congr (fun k _ => (mulc_pow (255 - i) (colQ 0 D k ^^^ at0 q k)).symm)]
    exact hp5
  have HB5 : Hid (Below w.heap.size w w5) := HB2.out.trans (grown_below hg5 hB HB2.out.size)
  clear hp5 hg5 HT
  go_wp2
  go_ret
  exact ⟨B, sz, rfl, hB, HP5.out, HB5.out⟩
end Go.Proofs.YtigaabhicjcbjabDoor
