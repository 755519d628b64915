/-
  The plain sum of pieces.
-/
import Derived.Test.YtigaabhicjcbjabDoorP2
namespace Go.Proofs.YtigaabhicjcbjabDoor
open Go.ChangeShapes Go.WideShapes Go.ChangeAt Go.RowKit
set_option linter.unusedVariables false

theorem RdS.to_ne {n₀ B : Nat} {w : World} {v : Value} {l : List UInt8} (h : Rd n₀ w v l) (hB : n₀ ≤ B) (hs : n₀ ≤ w.heap.size) : RdS (fun b => b ≠ B ∧ b < w.heap.size) w v l := h.mono (fun b (hb : b < n₀) => ⟨by omega, by omega⟩)
set_option maxRecDepth 100000 in
theorem plain_any (L : List (List UInt8)) (n₀ sz : Nat) (v : Value) (w : World) (hl : L.length ≤ 1000000) (hsz : sz ≤ 4096) (hn : n₀ ≤ w.heap.size) (hv : Pcs n₀ w v L) (hp : ∀ b ∈ L, b.length = 0 ∨ b.length = sz) : Calls Tryd.prog 62 #[v, .int .i64 (sz : Int)] w (SumPost w sz (colP L)) := by
  obtain ⟨ao, cp, rfl⟩ := hv.shape
  have HV : Hid (Pcs n₀ w (.slice ao L.length cp) L) := hv
  have HPL := hid_mk hp
  clear hv hp
  obtain ⟨i0, hi, hz0, hz1, hz2⟩ := info_parts Tryd.info5
  go_enter Tryd.func62, Tryd.ntmps62
  go_wp2_with (at_make; refine wpList_make_full _ rfl _ _ 82 rfl w.heap.size 5 i0 (.int .u8 0) 1 Tryd.underlying82 hi hz0 hz1 _ _ _ _ sz rfl rfl rfl rfl (by rw [hz2]; omega) (by unfold maxLen; omega) (by simp) ?_; intro w0 hown0 hgrow0)
  have HP0 := hid_mk (part_made hown0)
  have HB0 : Hid (Below w.heap.size w w0) := (Below.refl _ _).grown hgrow0 (Nat.le_refl _) (fun k h => by cases h)
  clear hown0 hgrow0 hi hz0 hz1 hz2
  go_loopw [12] (fun i wr => ∃ k : Nat, i = .int .i64 k ∧ k ≤ L.length ∧ Part wr w.heap.size sz sz (vec sz (colP (L.take k))) ∧ Below w.heap.size w wr) (fun i _ => L.length - (intOf i).toNat)
  case atStart => exact ⟨0, rfl, by omega, HP0.out, HB0.out⟩
  case round =>
    obtain ⟨k, rfl, hk, hpr, hb⟩ := hrel
    have HR := hid_mk hpr
    have HB := hid_mk hb
    clear hpr hb HP0 HB0
    by_cases hlt : k < L.length
    · obtain ⟨b, off, ul, ucp, rfl, hbb, hc0, hr0⟩ := HV.out.get k hlt
      have hc : wr.cell? ⟨b, off + k, none⟩ = some (.slice ul L[k].length ucp) := (HB.out.cell (p := ⟨b, off + k, none⟩) (show b < _ by omega)).trans hc0
      have hr : Rd n₀ wr (.slice ul L[k].length ucp) L[k] := hr0.below HB.out hn
      have HA := hid_mk (add_any L[k] (colP (L.take k)) sz sz w.heap.size sz _ wr rfl (by omega) HR.out (HPL.out _ (List.getElem_mem hlt)) (hr.to_ne hn (Nat.le_trans hn HB.out.size)))
      clear hr hr0 hc0
      go_wp2_with fail
      refine HA.out.mono ?_
      rintro e w1 ⟨⟨u, rfl⟩, hp1, hg1⟩
      have HP1 : Hid (Part w1 w.heap.size sz sz (vec sz (colP (L.take (k + 1))))) := by
        show Part _ _ _ _ _
        rw [take_snoc L k hlt, vec_congr (fun i _ => colP_snoc (L.take k) L[k] i)]
        exact hp1
      have HB1 : Hid (Below w.heap.size w w1) := HB.out.trans (grown_below hg1 (Nat.le_refl _) HB.out.size)
      clear hp1 hg1 HA
      go_wp2
      go_roundw
      case rel => exact ⟨k + 1, by go_num, by omega, HP1.out, HB1.out⟩
      case measure => simp [intOf]; omega
    · have hkn : k = L.length := by omega
      subst hkn
      go_wp2
      go_ret
      exact ⟨w.heap.size, rfl, Nat.le_refl _, by have h := HR.out; rw [List.take_length] at h; exact h, HB.out⟩
end Go.Proofs.YtigaabhicjcbjabDoor
