/-
  SumSums: the walk.
-/
import Derived.Test.YtppmjdmdflcoiaaDoorText
namespace Go.Proofs.YtppmjdmdflcoiaaDoor
open Go.ChangeShapes Go.WideShapes Go.ChangeAt Go.RowKit

theorem sumSums_walk (a : ByteArray) (ha : a.size ≤ 140737488355328) (w : World) (h2 : 2 ≤ w.heap.size) (ht : Tabs w) :
    Calls Tryd.prog 3 #[.string a] w fun e w' => e = .returned (.bool true) ∧ Below w.heap.size w w' := by
  have kc := run_bw
  have ks := bw_size
  have hl := bl_length a
  have hl47 : (bl a).length ≤ 140737488355328 := by omega
  have HL : Hid ((bl a).length = a.size) := hl
  have HT : Hid (Tabs w) := ht
  clear hl ht
  have b1 : Below w.heap.size w (bw w a) := below_bw (Below.refl _ _) (Nat.le_refl _) a
  go_enter Tryd.func3, Tryd.ntmps3
  go_wp2_with fail
  refine (lent_n (bl a) _ _ 0 _ (bw w a) HL.out.symm hl47 (by rw [bw_size]; omega) (bw_bytes w a)).mono ?_
  rintro e w1 ⟨rfl, hB, hbel⟩
  rw [bw_size] at hB hbel
  have b2 : Below w.heap.size w w1 := b1.trans (hbel.mono (by omega))
  have hz1 := hB.size
  clear b1 hbel
  go_wp2_with fail
  refine (sum_n (bl a) _ _ 0 _ w1 HL.out.symm (by omega) hB.bytes (HT.out.below b2 h2)).mono ?_
  rintro e w2 ⟨rfl, n, rfl⟩
  have hB3 : Block (bw (w1.drewN n) a) (w.heap.size + 1) (bl a ++ List.replicate 9 77) := hB.below (below_bw (drewN_below w1.heap.size w1 n) (Nat.le_refl _) a) hz1
  have b3 : Below w.heap.size w (bw (w1.drewN n) a) := below_bw (b2.trans (drewN_below _ w1 n)) (by show w.heap.size ≤ w1.heap.size; omega) a
  clear hB b2
  go_wp2_with fail
  refine (back_n (bl a) _ _ (w.heap.size + 1) _ 0 _ (bw (w1.drewN n) a) HL.out.symm rfl hl47 hB3 (bw_bytes (w1.drewN n) a)).mono ?_
  rintro e w3 ⟨rfl, hg⟩
  have b4 : Below w.heap.size w w3 := b3.trans (grown_below hg (by omega) b3.size)
  clear hB3 b3 hg
  go_wp2_with fail
  refine (refSum_n (bl a) _ _ 0 _ (bw w3 a) HL.out.symm (by omega) (bw_bytes w3 a)).mono ?_
  rintro e w4 ⟨rfl, rfl⟩
  go_wp2_with fail
  go_ret
  exact ⟨rfl, below_bw b4 b4.size a⟩
end Go.Proofs.YtppmjdmdflcoiaaDoor
