/-
  ParityMakes: the walk.
-/
import Derived.Test.YtigaabhicjcbjabDoorL3
namespace Go.Proofs.YtigaabhicjcbjabDoor
open Go.ChangeShapes Go.WideShapes Go.ChangeAt Go.RowKit
set_option linter.unusedVariables false

theorem map_len {S : List ByteArray} (hs : ∀ t ∈ S, t.size ≤ 140737488355328) : ∀ b ∈ (S.take 100).map bl, b.length ≤ 140737488355328 := by
  intro b hb
  simp only [List.mem_map] at hb
  obtain ⟨t, ht, rfl⟩ := hb
  rw [bl_length]
  exact hs t (List.mem_of_mem_take ht)
theorem map_len100 (S : List ByteArray) : ((S.take 100).map bl).length ≤ 100 := by rw [List.length_map, List.length_take]; omega
theorem makeL_len (L : List (List UInt8)) (level : Int) : (makeL L level).length ≤ 2 := by unfold makeL; rw [List.length_take]; simp; omega
theorem if_len (c : Int) (M : List (List UInt8)) (h : M.length ≤ 1000000) : (if c = 0 then M else []).length ≤ 1000000 := by
  split
  · exact h
  · simp
set_option maxRecDepth 100000 in
theorem parityMakes_walk (S : List ByteArray) (v : Value) (level : Int) (w : World) (hl : S.length ≤ 140737488355328) (hs : ∀ t ∈ S, t.size ≤ 140737488355328) (hv : Strs w v S) (hT : ErrT w) :
    Calls Tryd.prog 5 #[v, .int .i64 level] w fun e w' => e = .returned (.bool true) ∧ Below w.heap.size w w' := by
  have HP := hid_mk (lpieces_any S v w hl hs hv)
  have HM := hid_mk (map_len hs)
  have HM1 := hid_mk (map_len100 S)
  obtain ⟨ao, cp, rfl⟩ := hv.shape
  have HT := hid_mk hT
  have hgz := hT.size
  obtain ⟨M, hM⟩ : ∃ M, M = (S.take 100).map bl := ⟨_, rfl⟩
  rw [← hM] at HP HM HM1
  clear hv hs hM hT
  go_enter Tryd.func5, Tryd.ntmps5
  go_wp2_with fail
  refine HP.out.mono ?_
  rintro e w1 ⟨va, vb, vs, G, rfl, hA, hN, hG, hb1⟩
  have HA := hid_mk hA
  have HN := hid_mk hN
  have HG := hid_mk hG
  have HB1 := hid_mk hb1
  obtain ⟨xo, xc, rfl⟩ := hA.shape
  obtain ⟨yo, yc, hy⟩ := hN.1.shape
  rw [hN.2.1] at hy
  subst hy
  clear hA hN hG hb1 HP
  go_wp2_with fail
  refine (parityMake_any M _ level w1 (HT.out.below HB1.out hgz) (by have := HM1.out; omega) HM.out HN.out.pcs).mono ?_
  rintro e w2 ⟨vg, rfl, hg, hb2⟩
  have HGT := hid_mk hg
  have HB2 := hid_mk hb2
  obtain ⟨c, hc⟩ : ∃ c, c = makeErr M level := ⟨_, rfl⟩
  obtain ⟨R, hR⟩ : ∃ R, R = if makeErr M level = 0 then makeL M level else [] := ⟨_, rfl⟩
  rw [← hR] at HGT
  rw [← hc]
  have HC := hid_mk hc
  have HR := hid_mk hR
  have HRL : Hid (R.length ≤ 1000000) := by show _ ≤ _; rw [hR]; exact if_len _ _ (by have := makeL_len M level; omega)
  obtain ⟨zo, zc, rfl⟩ := (HGT.out.pcs (Nat.le_refl _)).shape
  clear hg hb2 hc hR
  have HLL := hid_mk (lall_any M w.heap.size _ _ vs G w1.heap.size w2 HG.out HM1.out HM.out (Nat.le_trans HB1.out.size HB2.out.size) (HA.out.below HB2.out) (HN.out.below HB2.out))
  go_wp2_with fail
  refine HLL.out.mono ?_
  rintro e w3 ⟨rfl, hA3, hb3, hf3⟩
  have HA3 := hid_mk hA3
  have HB3 := hid_mk hb3
  have HG3 : Hid (PcsR w1.heap.size w2.heap.size w3 (.slice zo R.length zc) R) := HGT.out.keep (fun b h1 h2 => hf3 b h1 h2)
  have HBW3 : Hid (Below w.heap.size w w3) := (HB1.out.trans (HB2.out.mono HB1.out.size)).trans HB3.out
  clear hA3 hb3 hf3 HLL
  have HRM := hid_mk (rmake_any M (.slice xo M.length xc) level w3 (by have := HM1.out; omega) HM.out HA3.out.pcs)
  go_wp2_with fail
  refine HRM.out.mono ?_
  rintro e w4 ⟨vw, rfl, hw, hb4⟩
  rw [← HR.out] at hw
  rw [← HC.out]
  have HW := hid_mk hw
  have HB4 := hid_mk hb4
  obtain ⟨qo, qc, rfl⟩ := (HW.out.pcs (Nat.le_refl _)).shape
  have HG4 : Hid (Pcs w3.heap.size w4 (.slice zo R.length zc) R) := (HG3.out.keep (fun b h1 h2 => HB4.out.block b (Nat.lt_of_lt_of_le h2 HB3.out.size))).pcs HB3.out.size
  clear hw hb4 HRM
  have HAL := hid_mk (alike_any R w3.heap.size w4.heap.size _ _ w4 HRL.out HB4.out.size (Nat.le_refl _) HG4.out (HW.out.pcs (Nat.le_refl _)))
  go_wp2_with fail
  refine HAL.out.mono ?_
  rintro e w5 ⟨rfl, m, hm⟩
  have HB5 : Hid (Below w.heap.size w w5) := by
    have h := HBW3.out.trans (HB4.out.mono HBW3.out.size)
    show Below _ _ _
    rw [hm]; exact h.trans (drewN_below _ _ _)
  clear hm HAL
  go_wp2
  go_ret
  exact ⟨rfl, HB5.out⟩
end Go.Proofs.YtigaabhicjcbjabDoor
