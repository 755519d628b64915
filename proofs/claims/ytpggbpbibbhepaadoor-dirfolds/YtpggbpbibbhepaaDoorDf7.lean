/-
  The program's Good, whole; the card.
-/
import Derived.Test.YtpggbpbibbhepaaDoorDf6
import Derived.Test.YtpggbpbibbhepaaDoorDfCard
namespace Go.Proofs.YtpggbpbibbhepaaDoor
open Go.ChangeShapes Go.WideShapes Go.ChangeAt Go.RowKit
set_option linter.unusedVariables false
set_option linter.unusedSimpArgs false

theorem set_zero : (Tryd.prog.info? 43).map (fun i => (i.zero, i.size)) = some (some (.agg (Array.replicate 256 (.bool false))), 256) := by kernel_rfl

theorem any_index_walk (C : ByteArray) (hC : C = bars) (s : ByteArray) (hs : s.size ≤ 40) (w : World) :
    Calls Tryd.prog 18 #[.string s, .string C] w fun e w' => ∃ i : Int, e = .returned (.int .i64 i) ∧ decide (0 ≤ i) = anyB s ∧ Below w.heap.size w w' := by
  by_cases h8 : s.size ≤ 8
  · exact any_short C hC s h8 w
  · refine (Tryd.strings_IndexAny_long (zero_of_info set_zero).1 s C w (by rw [hC]; decide) (by omega) (by omega) (by rw [hC]; decide) ?_).mono ?_
    · intro j b hj
      rw [hC] at hj
      have hb : b ∈ [(47 : UInt8), 0] := List.mem_of_getElem? (show [(47 : UInt8), 0][j]? = some b from hj)
      simp at hb
      rcases hb with rfl | rfl <;> decide
    · rintro e w' ⟨rfl, hw⟩
      refine ⟨_, rfl, by rw [hC]; exact any_index (bl s), ?_⟩
      rw [hw]
      exact ((Below.refl _ _).alloc (Nat.le_refl _) _).alloc (by simp) _

set_option maxHeartbeats 4000000 in
set_option maxRecDepth 1000000 in
theorem contains_walk (C : ByteArray) (hC : C = bars) (s : ByteArray) (hs : s.size ≤ 40) (w : World) :
    Calls Tryd.prog 13 #[.string s, .string C] w fun e w' => e = .returned (.bool (anyB s)) ∧ Below w.heap.size w w' := by
  have c := any_index_walk C hC s hs w
  clear hC
  obtain ⟨g, hg⟩ : ∃ g, anyB s = g := ⟨_, rfl⟩
  rw [hg] at c ⊢
  go_enter Tryd.func13, Tryd.ntmps13
  go_wp2_with (go_at_call 18; refine c.mono ?_; rintro e w1 ⟨i, rfl, hi, hb1⟩)
  go_ret
  exact ⟨by rw [← hi]; first | rfl | simp, hb1⟩

set_option maxHeartbeats 4000000 in
set_option maxRecDepth 1000000 in
theorem good_ok (s : ByteArray) (hs : s.size + 4 ≤ 140737488355328) : GoodOk s := by
  intro w _
  by_cases h1 : s.size = 0
  · have h1' : ((s.size : Int) == 0) = true := by rw [beq_iff_eq]; omega
    have HG : Hid (goodB s = false) := by show goodB s = false; simp [goodB, h1]
    clear h1
    go_enter Tryd.func6, Tryd.ntmps6
    go_wp2
    go_ret
    exact ⟨by rw [HG.out]; rfl, Below.refl _ _⟩
  · have h1' : ((s.size : Int) == 0) = false := by rw [beq_eq_false_iff_ne]; omega
    by_cases h40 : s.size ≤ 40
    · have h40' : ¬ (40 : Int) < (s.size : Int) := by omega
      have h40d : decide ((40 : Int) < (s.size : Int)) = false := by simpa using h40'
      have HG : Hid (goodB s = (!anyB s && !(s.toList == [46]) && !(s.toList == [46, 46]))) := by
        show goodB s = _
        rw [goodB, anyB, ByteArray.toList_eq]
        simp [show 1 ≤ s.size by omega, h40]
      cases hd : (s.toList == [46]) with
      | true =>
        have HG2 : Hid (goodB s = false) := by show goodB s = false; rw [HG.out, hd]; simp
        clear HG h1
        go_enter Tryd.func6, Tryd.ntmps6
        go_wp2
        go_ret
        exact ⟨by rw [HG2.out]; rfl, Below.refl _ _⟩
      | false =>
        cases hd2 : (s.toList == [46, 46]) with
        | true =>
          have HG2 : Hid (goodB s = false) := by show goodB s = false; rw [HG.out, hd, hd2]; simp
          clear HG h1
          go_enter Tryd.func6, Tryd.ntmps6
          go_wp2
          go_ret
          exact ⟨by rw [HG2.out]; rfl, Below.refl _ _⟩
        | false =>
          have HG2 : Hid (goodB s = !anyB s) := by show goodB s = _; rw [HG.out, hd, hd2]; simp
          have c : Hid (∀ w, Calls Tryd.prog 13 #[.string s, .string ⟨#[47, 0]⟩] w fun e w' => e = .returned (.bool (anyB s)) ∧ Below w.heap.size w w') := fun w => contains_walk bars rfl s h40 w
          clear HG h1
          go_enter Tryd.func6, Tryd.ntmps6
          go_wp2_with (go_at_call 13; refine (c.out _).mono ?_; rintro e w1 ⟨rfl, hb1⟩)
          go_ret
          exact ⟨by rw [HG2.out]; first | rfl | simp, hb1⟩
    · have h40' : (40 : Int) < (s.size : Int) := by omega
      have h40d : decide ((40 : Int) < (s.size : Int)) = true := by simpa using h40'
      have HG : Hid (goodB s = false) := by show goodB s = false; simp [goodB, h40]
      clear h1
      go_enter Tryd.func6, Tryd.ntmps6
      go_wp2
      go_ret
      exact ⟨by rw [HG.out]; rfl, Below.refl _ _⟩

/-- THE CARD. -/
theorem dirFolds_card : Rows.DirFoldsCardSaid := card_of fold_ok good_ok
#print axioms dirFolds_card
end Go.Proofs.YtpggbpbibbhepaaDoor
