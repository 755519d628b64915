/-
  The program's Find with its error as a number; ParityFinds: the walk.
-/
import Derived.Test.YtigaabhicjcbjabDoorD6
import Derived.Test.YtigaabhicjcbjabDoorMk
namespace Go.Proofs.YtigaabhicjcbjabDoor
open Go.ChangeShapes Go.WideShapes Go.ChangeAt Go.RowKit
set_option linter.unusedVariables false

set_option maxRecDepth 100000 in
theorem parityFind_any (L : List (List UInt8)) (v : Value) (level : Int) (w : World) (hT : ErrT w) (hl : L.length ≤ 1000000) (hp : ∀ b ∈ L, b.length ≤ 140737488355328) (hv : Pcs w.heap.size w v L) : Calls Tryd.prog 23 #[v, .int .i64 level] w (RFPost L level w) := by
  have HM := hid_mk (find_any L v level w hl hp hv)
  have hgz := hT.size
  have HT := hid_mk hT
  obtain ⟨ao, cp, rfl⟩ := hv.shape
  clear hv hp hT
  go_enter Tryd.func23, Tryd.ntmps23
  go_wp2_with fail
  refine HM.out.mono ?_
  rintro e w1 ⟨r, c, rfl, hF, hb⟩
  have HF := hid_mk hF
  have HB := hid_mk hb
  clear hF hb HM
  by_cases h0 : c = 0
  · subst h0
    rw [if_pos rfl]
    go_wp2_with fail
    refine (number_nil w1).mono ?_
    rintro e w2 ⟨rfl, hb2⟩
    have HB2 := hid_mk hb2
    clear hb2
    go_wp2
    go_ret2
    exact ⟨r, 0, rfl, HF.out, HB.out.trans (HB2.out.mono HB.out.size)⟩
  · rw [if_neg h0]
    go_wp2_with fail
    refine (number_errno c w1 (HT.out.below HB.out hgz)).mono ?_
    rintro e w2 ⟨rfl, hb2⟩
    have HB2 := hid_mk hb2
    clear hb2
    go_wp2
    go_ret2
    exact ⟨r, c, rfl, HF.out, HB.out.trans (HB2.out.mono HB.out.size)⟩
set_option maxRecDepth 100000 in
theorem parityFinds_walk (S : List ByteArray) (v : Value) (level : Int) (w : World) (hl : S.length ≤ 140737488355328) (hs : ∀ t ∈ S, t.size ≤ 140737488355328) (hv : Strs w v S) (hT : ErrT w) :
    Calls Tryd.prog 7 #[v, .int .i64 level] w fun e w' => e = .returned (.bool true) ∧ Below w.heap.size w w' := by
  have HP := hid_mk (lpieces_any S v w hl hs hv)
  have HM := hid_mk (map_len hs)
  have HM1 := hid_mk (map_len100 S)
  obtain ⟨ao, cp, rfl⟩ := hv.shape
  have HT := hid_mk hT
  have hgz := hT.size
  obtain ⟨M, hM⟩ : ∃ M, M = (S.take 100).map bl := ⟨_, rfl⟩
  rw [← hM] at HP HM HM1
  clear hv hs hM hT
  go_enter Tryd.func7, Tryd.ntmps7
  go_wp2_with fail
  refine HP.out.mono ?_
  rintro e w1 ⟨va, vb, vs, G, rfl, hA, hN, hG, hb1⟩
  have HA := hid_mk hA
  have HN := hid_mk hN
  have HG := hid_mk hG
  have HB1 := hid_mk hb1
  obtain ⟨xo, xc, rfl⟩ := hA.shape
  obtain ⟨yo, yc, hy⟩ := hN.1.shape
  rw [hN.2.1] at hy
  subst hy
  clear hA hN hG hb1 HP
  go_wp2_with fail
  refine (parityFind_any M _ level w1 (HT.out.below HB1.out hgz) (by have := HM1.out; omega) HM.out HN.out.pcs).mono ?_
  rintro e w2 ⟨r, c, rfl, hF, hb2⟩
  have HF := hid_mk hF
  have HB2 := hid_mk hb2
  clear hF hb2
  have HLL := hid_mk (lall_any M w.heap.size _ _ vs G w1.heap.size w2 HG.out HM1.out HM.out (Nat.le_trans HB1.out.size HB2.out.size) (HA.out.below HB2.out) (HN.out.below HB2.out))
  go_wp2_with fail
  refine HLL.out.mono ?_
  rintro e w3 ⟨rfl, hA3, hb3, hf3⟩
  have HA3 := hid_mk hA3
  have HB3 := hid_mk hb3
  have HBW3 : Hid (Below w.heap.size w w3) := (HB1.out.trans (HB2.out.mono HB1.out.size)).trans HB3.out
  clear hA3 hb3 hf3 HLL
  have HRM := hid_mk (rfind_any M (.slice xo M.length xc) level w3 (by have := HM1.out; omega) HM.out HA3.out.pcs)
  go_wp2_with fail
  refine HRM.out.mono ?_
  rintro e w4 ⟨r', c', rfl, hF', hb4⟩
  obtain ⟨hr, hc⟩ := HF.out.unique hF'
  subst hr hc
  have HB5 : Hid (Below w.heap.size w w4) := HBW3.out.trans (hb4.mono HBW3.out.size)
  clear hF' hb4 HRM
  go_wp2
  go_ret
  exact ⟨rfl, HB5.out⟩
end Go.Proofs.YtigaabhicjcbjabDoor
