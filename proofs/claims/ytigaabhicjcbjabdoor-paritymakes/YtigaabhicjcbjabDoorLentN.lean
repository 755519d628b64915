/-
  Nothing that is lent, and comes back.
-/
import Derived.Test.YtigaabhicjcbjabDoorText
namespace Go.Proofs.YtigaabhicjcbjabDoor
open Go.ChangeShapes Go.WideShapes Go.ChangeAt Go.RowKit
set_option linter.unusedVariables false

theorem lent_nil (w : World) :
    Calls Tryd.prog 8 #[.slice none 0 0] w fun e w' => e = .returned (.slice (some ⟨w.heap.size, 0, none⟩) 0 9) ∧ Block w' w.heap.size (List.replicate 9 77) ∧ Below w.heap.size w w' := by
  obtain ⟨i0, hi, hz0, hz1, hz2⟩ := info_parts Tryd.info5
  go_enter Tryd.func8, Tryd.ntmps8
  go_wp2_with (at_make; refine wpList_make_own _ rfl _ _ 22 rfl w.heap.size 5 i0 (.int .u8 0) 1 Tryd.underlying22 hi hz0 hz1 _ _ _ 9 rfl rfl (by omega) ?b2 ?b3 (Nat.le_refl _) ?_)
  case b2 => rw [hz2]; omega
  case b3 => unfold maxLen; omega
  intro w0 hown0 hgrow0
  have bel0 : Below w.heap.size w w0 := (Below.refl _ _).grown hgrow0 (Nat.le_refl _) (fun k h => by cases h)
  go_wp2_with (at_builtin; refine wpList_append_fits_any _ rfl _ _ 22 rfl w.heap.size 5 i0 1 Tryd.underlying22 hi hz1 w.heap.size 0 9 _ rfl hown0 none 0 0 [] rfl rfl (fun _ => ⟨rfl, rfl⟩) (fun ad h => by cases h) (fun u hu => by cases hu) (by omega) ?_)
  intro w1 hown1 hgrow1
  have hp : Part w1 w.heap.size 9 0 [] := by
    exact Part.of_owns (l := []) (by simpa using hown1)
  have hs0 : w.heap.size < w0.heap.size := by
    obtain ⟨_, h⟩ := hown0
    rcases h with ⟨h, _⟩ | ⟨g, c, cur, h3, _, h4, _⟩
    · cases h
    · simp at h3
      obtain ⟨rfl, _⟩ := h3
      exact (Array.getElem?_eq_some_iff.1 h4).1
  have bel1 : Below w.heap.size w w1 := bel0.grown hgrow1 bel0.size (fun k h => by cases h; exact Nat.le_refl _)
  clear hown0 hown1 hgrow0 hgrow1 hi hz0 hz1 hz2
  go_wp2
  go_loopw [5] (fun i wr => ∃ k : Nat, i = .int .i64 (k : Int) ∧ k ≤ 9 ∧ Part wr w.heap.size 9 k (List.replicate k 77) ∧ Below w.heap.size w wr) (fun i _ => 9 - (intOf i).toNat)
  case atStart => exact ⟨0, rfl, by omega, hp, bel1⟩
  case round =>
    obtain ⟨k, rfl, hk, hpr, hbel⟩ := hrel
    have HP : Hid (Part wr w.heap.size 9 k (List.replicate k 77)) := hpr
    have HB : Hid (Below w.heap.size w wr) := hbel
    clear hp bel1 bel0
    by_cases h9 : k < 9
    · obtain ⟨v, hv, hf⟩ := hpr.cell (by omega)
      clear hpr hbel
      go_wp2
      go_roundw
      case rel => exact ⟨k + 1, by go_num, by omega, by have h := HP.out.next (by omega) (by simp) 77; rw [List.replicate_succ']; exact h, HB.out.setCell (Nat.le_refl _) _⟩
      case measure => simp [intOf]; omega
    · have hk9 : k = 9 := by omega
      clear hpr hbel
      subst hk9
      go_wp2
      go_ret
      exact ⟨rfl, HP.out.whole, HB.out⟩


theorem same_nil (B c : Nat) (w : World) : Calls Tryd.prog 12 #[.slice (some ⟨B, 0, none⟩) 0 c, .slice none 0 0] w fun e w' => e = .returned (.bool true) ∧ w' = w := by
  have k1 := run_convert_bytes_back (P := Tryd.prog) w 22 9 5 ⟨B, 0, none⟩ c [] Tryd.underlying22 Tryd.underlying5 Tryd.underlying9 (fun j hj => by simp at hj)
  have k2 := run_convert_bytes_nil (P := Tryd.prog) (w := w) 22 5 Tryd.underlying22 Tryd.underlying5 0 0 9 Tryd.underlying9
  simp only [List.length_nil] at k1
  go_enter Tryd.func12, Tryd.ntmps12
  go_wp2
  go_ret
  exact ⟨rfl, rfl⟩

theorem back_nil (B : Nat) (w : World) (hB : Block w B (List.replicate 9 77)) :
    Calls Tryd.prog 10 #[.slice (some ⟨B, 0, none⟩) 0 9, .slice none 0 0] w fun e w' => e = .returned (.bool true) ∧ w.grownBy w' (some B) := by
  have hs := same_nil B 9 w
  have hr : Rest w B 9 0 (List.replicate 9 77) := by have h := Rest.of_block hB; simpa using h
  clear hB
  go_enter Tryd.func10, Tryd.ntmps10
  go_wp2_with (go_at_call 12; refine hs.mono ?_; rintro e w' ⟨rfl, rfl⟩; clear hs)
  go_loopw [5, 7] (fun ok i wr => ∃ k : Nat, ok = .bool true ∧ i = .int .i64 k ∧ k ≤ 9 ∧ Rest wr B 9 k ((List.replicate 9 77).drop k) ∧ w'.grownBy wr (some B)) (fun _ i _ => 9 - (intOf i).toNat)
  case atStart => exact ⟨0, rfl, rfl, by omega, by simpa using hr, World.grownBy.refl _ _⟩
  case round =>
    obtain ⟨k, rfl, rfl, hk, hrest, hg⟩ := hrel
    have HG : Hid (w'.grownBy wr (some B)) := hg
    clear hg hr
    by_cases h9 : k < 9
    · obtain ⟨x, hx⟩ : ∃ x, x = (List.replicate 9 (77 : UInt8))[k]'(by simpa using h9) := ⟨_, rfl⟩
      rw [List.drop_eq_getElem_cons (by simpa using h9), ← hx] at hrest
      have HN : Hid (∀ v, Rest (wr.setCell ⟨B, k, none⟩ v) B 9 (k + 1) ((List.replicate 9 77).drop (k + 1))) := fun v => hrest.next v
      obtain ⟨hv, hf⟩ := hrest.cell
      clear hrest
      have hx77 : x = 77 := by rw [hx]; exact List.getElem_replicate _
      subst hx77
      have hv77 : wr.cell? ⟨B, k, none⟩ = some (.int .u8 77) := hv
      clear hv hx
      go_wp2
      go_roundw
      case rel => exact ⟨k + 1, rfl, by go_num, by omega, HN.out _, grown_set HG.out _⟩
      case measure => simp [intOf]; omega
    · clear hrest
      go_wp2
      go_ret
      exact ⟨rfl, HG.out⟩
end Go.Proofs.YtigaabhicjcbjabDoor
