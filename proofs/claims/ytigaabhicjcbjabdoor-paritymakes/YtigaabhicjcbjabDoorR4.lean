/-
  The document's own Make, at all arguments.
-/
import Derived.Test.YtigaabhicjcbjabDoorR3
namespace Go.Proofs.YtigaabhicjcbjabDoor
open Go.ChangeShapes Go.WideShapes Go.ChangeAt Go.RowKit
set_option linter.unusedVariables false

set_option maxRecDepth 100000 in
theorem rmake_any (L : List (List UInt8)) (v : Value) (level : Int) (w : World) (hl : L.length ≤ 1000000) (hp : ∀ b ∈ L, b.length ≤ 140737488355328) (hv : Pcs w.heap.size w v L) : Calls Tryd.prog 19 #[v, .int .i64 level] w (PMPost (makeErr L level) (makeL L level) w) := by
  by_cases h1 : level < 0
  · have HE : Hid (makeErr L level = 5) := by show _ = _; unfold makeErr; rw [if_pos (.inl h1)]
    go_enter Tryd.func19, Tryd.ntmps19
    go_wp2
    go_ret2
    exact pmPost_bad HE.out (by decide) (Below.refl _ _)
  · by_cases h2 : 2 < level
    · have HE : Hid (makeErr L level = 5) := by show _ = _; unfold makeErr; rw [if_pos (.inr h2)]
      go_enter Tryd.func19, Tryd.ntmps19
      go_wp2
      go_ret2
      exact pmPost_bad HE.out (by decide) (Below.refl _ _)
    · by_cases hf : (1 ≤ L.length ∧ L.length ≤ 16) ∧ Even L
      · by_cases h0 : lostN L = 0
        · obtain ⟨n, rfl⟩ := Int.eq_ofNat_of_zero_le (show 0 ≤ level by omega)
          refine (rmake_good L n v w (by omega) hf.1 hf.2 h0 hv).mono ?_
          rintro e w' ⟨u, rfl, hu, hb⟩
          have he : makeErr L (n : Int) = 0 := by unfold makeErr; rw [if_neg (by omega), if_pos ⟨hf, h0⟩]
          exact ⟨u, by rw [he], by rw [he, if_pos rfl, ← mkL_make L n (by omega)]; exact hu.pcsR, hb⟩
        · have HE : Hid (makeErr L level = 10) := by show _ = _; unfold makeErr; rw [if_neg (by omega), if_neg (fun h => h0 h.2)]
          have HR := hid_mk (rsize_any L w.heap.size (L.length : Int) v w hl hv hp)
          have HM := hid_mk (rempty_any L w.heap.size v w hl hv)
          have he : rsz L (L.length : Int) = (szOf L : Int) := by unfold rsz; rw [if_pos ⟨hf.2, by omega, by omega⟩]
          rw [he] at HR
          have h0' : (0 : Int) < (lostN L : Int) := by omega
          have hzz : ¬ (szOf L : Int) < 0 := by omega
          obtain ⟨ao, cp, rfl⟩ := hv.shape
          clear hv hp he hf h0
          go_enter Tryd.func19, Tryd.ntmps19
          go_wp2_with fail
          refine HR.out.mono ?_
          rintro e w1 ⟨rfl, rfl⟩
          go_wp2_with fail
          refine HM.out.mono ?_
          rintro e w1' ⟨rfl, rfl⟩
          go_wp2
          go_ret2
          exact pmPost_bad HE.out (by decide) (Below.refl _ _)
      · have HE : Hid (makeErr L level = 10) := by show _ = _; unfold makeErr; rw [if_neg (by omega), if_neg (fun h => hf h.1)]
        have HR := hid_mk (rsize_any L w.heap.size (L.length : Int) v w hl hv hp)
        have he : rsz L (L.length : Int) = -1 := by
          unfold rsz
          rw [if_neg]
          rintro ⟨h3, h4, h5⟩
          exact hf ⟨⟨by omega, by omega⟩, h3⟩
        rw [he] at HR
        obtain ⟨ao, cp, rfl⟩ := hv.shape
        clear hv hp he hf
        go_enter Tryd.func19, Tryd.ntmps19
        go_wp2_with fail
        refine HR.out.mono ?_
        rintro e w1 ⟨rfl, rfl⟩
        go_wp2
        go_ret2
        exact pmPost_bad HE.out (by decide) (Below.refl _ _)
end Go.Proofs.YtigaabhicjcbjabDoor
