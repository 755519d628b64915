import Derived.Test.YtcpdnalmoaojlaaDoorHSp22b
import Derived.Test.YtcpdnalmoaojlaaDoorHSp22c

/-
  Load, walked.
-/
namespace Go.Proofs.YtcpdnalmoaojlaaDoor
open Go.ChangeShapes Go.WideShapes Go.ChangeAt Go.RowKit
set_option linter.unusedVariables false
set_option linter.unusedSimpArgs false

set_option maxRecDepth 100000 in
set_option maxHeartbeats 4000000 in
theorem load_any (bs : List UInt8) (n b off cp : Nat) (w : World) (hn : n = bs.length) (hl : bs.length ≤ 70368744177664) (hcp : bs.length ≤ cp) (hb : b < w.heap.size) (hv : BytesAt w b off bs) :
    Calls Tryd.prog 44 #[.slice (some ⟨b, off, none⟩) n cp] w (LoadPost w bs) := by
  have HNN := hid_mk hn
  have hl' : n ≤ 70368744177664 := by omega
  have hcp' : n ≤ cp := by omega
  have HLL := hid_mk hl
  have HCPP := hid_mk hcp
  clear hn hl hcp
  by_cases h4 : n < 4
  · have HR : Hid (loadR bs = none) := by show _ = _; unfold loadR; rw [if_pos (.inl (by have := HNN.out; omega))]
    have h4i : (n : Int) < 4 := by omega
    clear hv
    go_enter Tryd.func44, Tryd.ntmps44
    go_wp2
    all_goals go_ret2
    all_goals exact load_bad HR.out (Below.refl _ _)
  · by_cases h18 : (n - 4) % 18 ≠ 0
    · have HR : Hid (loadR bs = none) := by show _ = _; unfold loadR; rw [if_pos (.inr (by have := HNN.out; omega))]
      have h4i : ¬ (n : Int) < 4 := by omega
      have hm : ¬ ((n : Int) - 4).tmod 18 = 0 := by rw [Int.tmod_eq_emod_of_nonneg (by omega)]; omega
      have hm2 : ¬ ((n : Int) - 4) % 18 = 0 := by omega
      clear hv
      go_enter Tryd.func44, Tryd.ntmps44
      go_wp2
      all_goals go_ret2
      all_goals exact load_bad HR.out (Below.refl _ _)
    · obtain ⟨K, hK⟩ : ∃ K, n = 4 + 18 * K := ⟨(n - 4) / 18, by omega⟩
      have h4i : ¬ (n : Int) < 4 := by omega
      have hm : ((n : Int) - 4).tmod 18 = 0 := by rw [Int.tmod_eq_emod_of_nonneg (by omega)]; omega
      have hm2 : ((n : Int) - 4) % 18 = 0 := by omega
      have HV := hid_mk hv
      have HK := hid_mk hK
      clear hK
      obtain ⟨rows, hrows⟩ : ∃ rows, rows = leN (bs.take 4) := ⟨_, rfl⟩
      have hr32 : rows < 4294967296 := by rw [hrows]; exact leN_take_lt bs 4
      have HN : Hid (∀ c, Calls Tryd.prog 62 #[.slice (some ⟨b, off, none⟩) 4 c] w fun e w' => e = .returned (.int .u64 (rows : Int)) ∧ w' = w) := by
        intro c
        rw [hrows]
        exact number_any (bs.take 4) 4 b off c w (by have := HNN.out; rw [List.length_take]; omega) (by rw [List.length_take]; omega) (by have := bytesAt_part hv 0 4 (by have := HNN.out; omega); simpa using this)
      have hwr : IntKind.i64.wrap (rows : Int) = (rows : Int) := by rw [IntKind.wrap_i64]; omega
      have c4 : (4 : Int) ≤ (cp : Int) := by omega
      have hc4 : ¬ cp - 4 = 0 ∨ cp - 4 = 0 := by omega
      clear hv
      by_cases hbig : 1073741824 < rows
      · have HR : Hid (loadR bs = none) := by
          show _ = _
          unfold loadR
          rw [if_neg (by have := HNN.out; have := HK.out; omega), if_pos (by rw [← hrows]; exact hbig)]
        have hbi : (1073741824 : Int) < (rows : Int) := by omega
        have HW : Hid (∀ A, Below w.heap.size w (w.alloc A)) := fun A => Below.alloc (Below.refl _ _) (Nat.le_refl _) _
        clear hrows
        go_enter Tryd.func44, Tryd.ntmps44
        go_wp2_with (first | (go_at_call 62; refine (HN.out _).mono ?_; clear HN; rintro e w2 ⟨rfl, rfl⟩))
        all_goals go_ret2
        all_goals exact load_bad HR.out (HW.out _)
      · by_cases hpos : K = 0
        · exact load_zero bs n b off cp w HNN.out HLL.out HCPP.out hb HV.out (by have := HNN.out; have := HK.out; omega) (by rw [← hrows]; exact hbig)
        · exact load_pos bs n b off cp w HNN.out HLL.out HCPP.out hb HV.out (by have := HNN.out; have := HK.out; omega) (by rw [← hrows]; exact hbig)
end Go.Proofs.YtcpdnalmoaojlaaDoor
