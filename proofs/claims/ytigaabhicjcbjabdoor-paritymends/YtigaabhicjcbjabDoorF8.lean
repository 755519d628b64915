/-
  The document's own Mend at all arguments; the program's Mend with its error as a number.
-/
import Derived.Test.YtigaabhicjcbjabDoorF7
import Derived.Test.YtigaabhicjcbjabDoorN6
namespace Go.Proofs.YtigaabhicjcbjabDoor
open Go.ChangeShapes Go.WideShapes Go.ChangeAt Go.RowKit
set_option linter.unusedVariables false

set_option maxRecDepth 100000 in
theorem rmend_any (L O : List (List UInt8)) (v : Value) (level : Int) (w : World) (hl : L.length ≤ 1000000) (hp : ∀ b ∈ L, b.length ≤ 140737488355328) (hO : mendErr L level = 0 → MendR L level O) (hv : Pcs w.heap.size w v L) : Calls Tryd.prog 22 #[v, .int .i64 level] w (PMPost (mendErr L level) O w) := by
  by_cases h1 : level < 0
  · have HE : Hid (mendErr L level = 5) := by
      show _ = _
      have hpe : partErr L level = 5 := by unfold partErr; rw [if_pos (.inl h1)]
      unfold mendErr
      rw [hpe]
      rfl
    go_enter Tryd.func22, Tryd.ntmps22
    go_wp2
    go_ret2
    exact pmPost_bad HE.out (by decide) (Below.refl _ _)
  · by_cases h2 : 2 < level
    · have HE : Hid (mendErr L level = 5) := by
        show _ = _
        have hpe : partErr L level = 5 := by unfold partErr; rw [if_pos (.inr h2)]
        unfold mendErr
        rw [hpe]
        rfl
      go_enter Tryd.func22, Tryd.ntmps22
      go_wp2
      go_ret2
      exact pmPost_bad HE.out (by decide) (Below.refl _ _)
    · obtain ⟨lv, rfl⟩ := Int.eq_ofNat_of_zero_le (show 0 ≤ level by omega)
      obtain ⟨d, hd⟩ : ∃ d, d = (L.length : Int) - (lv : Int) := ⟨_, rfl⟩
      have HR := hid_mk (rsize_any L w.heap.size d v w hl hv hp)
      by_cases hf : (1 ≤ d ∧ d ≤ 16) ∧ Even L
      · obtain ⟨n, rfl⟩ := Int.eq_ofNat_of_zero_le (show 0 ≤ d by omega)
        have hpe : partErr L (lv : Int) = 0 := by unfold partErr; rw [if_neg (by omega), if_pos ⟨⟨by omega, by omega⟩, hf.2⟩]
        by_cases h0 : lostN L ≤ lv
        · have he : mendErr L (lv : Int) = 0 := by unfold mendErr; rw [hpe, if_neg (by simp), if_neg (by omega)]
          have hM := hO he
          have hno : nOf L (lv : Int) = n := by unfold nOf; omega
          unfold MendR at hM
          rw [hno] at hM
          refine (rmend_good L O n lv v w (by omega) (by omega) (by omega) (by omega) hf.2 h0 hM hv).mono ?_
          rintro e w' ⟨u, rfl, hu, hb⟩
          exact ⟨u, by rw [he], by rw [he, if_pos rfl]; exact hu, hb⟩
        · have HE : Hid (mendErr L (lv : Int) = 11) := by show _ = _; unfold mendErr; rw [hpe, if_neg (by simp), if_pos (by omega)]
          have HM := hid_mk (rempty_any L w.heap.size v w hl hv)
          have he : rsz L (n : Int) = (szOf L : Int) := by unfold rsz; rw [if_pos ⟨hf.2, by omega, by omega⟩]
          rw [he] at HR
          have h0' : (lv : Int) < (lostN L : Int) := by omega
          have hzz : ¬ (szOf L : Int) < 0 := by omega
          have hni : (L.length : Int) - (lv : Int) = (n : Int) := hd.symm
          have hn1 : (n : Int) ≤ 16 := by omega
          obtain ⟨ao, cp, rfl⟩ := hv.shape
          clear hv hp he hf h0 hO hpe hd
          go_enter Tryd.func22, Tryd.ntmps22
          go_wp2_with fail
          refine HR.out.mono ?_
          rintro e w1 ⟨rfl, rfl⟩
          go_wp2_with fail
          refine HM.out.mono ?_
          rintro e w1' ⟨rfl, rfl⟩
          go_wp2
          go_ret2
          exact pmPost_bad HE.out (by decide) (Below.refl _ _)
      · have HE : Hid (mendErr L (lv : Int) = 10) := by
          show _ = _
          have hpe : partErr L (lv : Int) = 10 := by unfold partErr; rw [if_neg (by omega), if_neg (by rw [← hd]; exact hf)]
          unfold mendErr
          rw [hpe]
          rfl
        have he : rsz L d = -1 := by
          unfold rsz
          rw [if_neg]
          rintro ⟨h3, h4, h5⟩
          exact hf ⟨⟨h4, h5⟩, h3⟩
        rw [he] at HR
        have hni : (L.length : Int) - (lv : Int) = d := hd.symm
        have hd1 : d ≤ 1000000 := by omega
        have hd2 : -2 ≤ d := by omega
        obtain ⟨ao, cp, rfl⟩ := hv.shape
        clear hv hp he hf hO hd
        go_enter Tryd.func22, Tryd.ntmps22
        go_wp2_with fail
        refine HR.out.mono ?_
        rintro e w1 ⟨rfl, rfl⟩
        go_wp2
        go_ret2
        exact pmPost_bad HE.out (by decide) (Below.refl _ _)

set_option maxRecDepth 100000 in
theorem parityMend_any (L : List (List UInt8)) (v : Value) (level : Int) (w : World) (hT : ErrT w) (hl : L.length ≤ 1000000) (hp : ∀ b ∈ L, b.length ≤ 140737488355328) (hv : Pcs w.heap.size w v L) : Calls Tryd.prog 21 #[v, .int .i64 level] w (fun e w' => ∃ O, (mendErr L level = 0 → MendR L level O) ∧ PMPost (mendErr L level) O w e w') := by
  have HM := hid_mk (mend_any L v level w hl hp hv)
  have hgz := hT.size
  have HT := hid_mk hT
  obtain ⟨ao, cp, rfl⟩ := hv.shape
  clear hv hp hT
  unfold MendPost at HM
  obtain ⟨c, hc⟩ : ∃ c, c = mendErr L level := ⟨_, rfl⟩
  rw [← hc] at HM ⊢
  clear hc
  by_cases h0 : c = 0
  · subst h0
    go_enter Tryd.func21, Tryd.ntmps21
    go_wp2_with fail
    refine HM.out.mono ?_
    rintro e w1 ⟨u, rfl, hu, _, hb⟩
    obtain ⟨O, hO, hu⟩ := hu (by trivial)
    have HU := hid_mk hu
    have HO := hid_mk hO
    have HB := hid_mk hb
    clear hu hb hO
    go_wp2_with fail
    refine (number_nil w1).mono ?_
    rintro e w2 ⟨rfl, hb2⟩
    have HB2 := hid_mk hb2
    clear hb2
    go_wp2
    go_ret2
    exact ⟨O, fun _ => HO.out, u, rfl, by exact (HU.out.keep (fun b _ hb => HB2.out.block b hb)).mono (Nat.le_refl _) HB2.out.size, HB.out.trans (HB2.out.mono HB.out.size)⟩
  · go_enter Tryd.func21, Tryd.ntmps21
    go_wp2_with fail
    refine HM.out.mono ?_
    rintro e w1 ⟨u, rfl, _, hu, hb⟩
    have hu := hu h0
    subst hu
    rw [if_neg h0]
    have HB := hid_mk hb
    clear hb
    go_wp2_with fail
    refine (number_errno c w1 (HT.out.below HB.out hgz)).mono ?_
    rintro e w2 ⟨rfl, hb2⟩
    have HB2 := hid_mk hb2
    clear hb2
    go_wp2
    go_ret2
    exact ⟨[], fun h => absurd h h0, .slice none 0 0, rfl, by rw [if_neg h0]; exact .inl ⟨rfl, rfl⟩, HB.out.trans (HB2.out.mono HB.out.size)⟩
end Go.Proofs.YtigaabhicjcbjabDoor
