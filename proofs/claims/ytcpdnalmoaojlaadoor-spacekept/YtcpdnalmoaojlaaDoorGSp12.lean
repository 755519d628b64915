import Derived.Test.YtcpdnalmoaojlaaDoorGSp8
import Derived.Deep.RegionHeld3
import Derived.Laws.Rows

/-
  runOf.
-/
namespace Go.Proofs.YtcpdnalmoaojlaaDoor
open Go.ChangeShapes Go.WideShapes Go.ChangeAt Go.RowKit
set_option linter.unusedVariables false
set_option linter.unusedSimpArgs false

theorem bytesAt_part {w : World} {b off : Nat} {l : List UInt8} (hv : BytesAt w b off l) (i k : Nat) (h : i + k ≤ l.length) : BytesAt w b (off + i) ((l.drop i).take k) := by
  intro j hj
  have hj' : j < k := by rw [List.length_take] at hj; omega
  have := hv (i + j) (by omega)
  rw [Nat.add_assoc, this]
  simp
def runv (p : Pc) : Array Value := #[.int .i64 (p.at' : Int), .int .i64 (p.n : Int), .int .i64 (p.count : Int), .int .u64 (p.tag : Int)]
set_option maxRecDepth 100000 in
set_option maxHeartbeats 4000000 in
theorem runOf_any (l : List UInt8) (b off cp : Nat) (w : World) (hl : l.length = 18) (hcp : 18 ≤ cp) (hb : b < w.heap.size) (hv : BytesAt w b off l) :
    Calls Tryd.prog 63 #[.slice (some ⟨b, off, none⟩) 18 cp] w fun e w' => e = .returned (.agg (runv (runP l))) ∧ Below w.heap.size w w' := by
  obtain ⟨b1, b2, b3, b4, _⟩ := runP_bounds l hl
  have hv' : ∀ W, Below w.heap.size w W → BytesAt W b off l := fun W hW i hi => (hW.cell (p := ⟨b, off + i, none⟩) hb).trans (hv i hi)
  have H1 : Hid (∀ W c, Below w.heap.size w W → Calls Tryd.prog 62 #[.slice (some ⟨b, off, none⟩) 4 c] W fun e w' => e = .returned (.int .u64 ((runP l).at' : Int)) ∧ w' = W) := fun W c hW => number_any (l.take 4) 4 b off c W (by rw [List.length_take]; omega) (by rw [List.length_take]; omega) (by have := bytesAt_part (hv' W hW) 0 4 (by omega); simpa using this)
  have H2 : Hid (∀ W c, Below w.heap.size w W → Calls Tryd.prog 62 #[.slice (some ⟨b, off + 4, none⟩) 4 c] W fun e w' => e = .returned (.int .u64 ((runP l).n : Int)) ∧ w' = W) := fun W c hW => number_any _ 4 b (off + 4) c W (by rw [List.length_take, List.length_drop]; omega) (by rw [List.length_take, List.length_drop]; omega) (bytesAt_part (hv' W hW) 4 4 (by omega))
  have H3 : Hid (∀ W c, Below w.heap.size w W → Calls Tryd.prog 62 #[.slice (some ⟨b, off + 8, none⟩) 2 c] W fun e w' => e = .returned (.int .u64 ((runP l).count : Int)) ∧ w' = W) := fun W c hW => number_any _ 2 b (off + 8) c W (by rw [List.length_take, List.length_drop]; omega) (by rw [List.length_take, List.length_drop]; omega) (bytesAt_part (hv' W hW) 8 2 (by omega))
  have H4 : Hid (∀ W c, Below w.heap.size w W → Calls Tryd.prog 62 #[.slice (some ⟨b, off + 10, none⟩) 8 c] W fun e w' => e = .returned (.int .u64 ((runP l).tag : Int)) ∧ w' = W) := fun W c hW => number_any _ 8 b (off + 10) c W (by rw [List.length_drop]; omega) (by rw [List.length_drop]; omega) (by have := bytesAt_part (hv' W hW) 10 8 (by omega); rwa [List.take_of_length_le (by rw [List.length_drop]; omega)] at this)
  unfold runv
  obtain ⟨A, hA⟩ : ∃ A, A = (runP l).at' := ⟨_, rfl⟩
  obtain ⟨B, hB⟩ : ∃ B, B = (runP l).n := ⟨_, rfl⟩
  obtain ⟨C, hC⟩ : ∃ C, C = (runP l).count := ⟨_, rfl⟩
  obtain ⟨D, hD⟩ : ∃ D, D = (runP l).tag := ⟨_, rfl⟩
  rw [← hA] at H1 b1 ⊢
  rw [← hB] at H2 b2 ⊢
  rw [← hC] at H3 b3 ⊢
  rw [← hD] at H4 b4 ⊢
  clear hA hB hC hD hv hv' hl
  have wA : IntKind.i64.wrap (A : Int) = (A : Int) := by rw [IntKind.wrap_i64]; omega
  have wB : IntKind.i64.wrap (B : Int) = (B : Int) := by rw [IntKind.wrap_i64]; omega
  have wC : IntKind.i64.wrap (C : Int) = (C : Int) := by rw [IntKind.wrap_i64]; omega
  have HW : Hid (∀ A, Below w.heap.size w (w.alloc A)) := fun A => Below.alloc (Below.refl _ _) (Nat.le_refl _) _
  obtain ⟨V, hV⟩ : ∃ V, V = w.alloc (.cells #[.int .i64 0, .int .i64 0, .int .i64 0, .int .u64 0] 48) := ⟨_, rfl⟩
  have HV : Hid (Below w.heap.size w V) := by show Below _ _ _; rw [hV]; exact HW.out _
  have h4c : (4 : Int) ≤ (cp : Int) := by omega
  have h8c : (8 : Int) ≤ (cp : Int) := by omega
  have h10c : (10 : Int) ≤ (cp : Int) := by omega
  have h18c : (18 : Int) ≤ (cp : Int) := by omega
  have n4 : ¬ cp - 4 = 0 := by omega
  have n8 : ¬ cp - 8 = 0 := by omega
  have n10 : ¬ cp - 10 = 0 := by omega
  have m4 : ¬ cp = 4 := by omega
  have m8 : ¬ cp = 8 := by omega
  have m10 : ¬ cp = 10 := by omega
  have l4 : ¬ cp ≤ 4 := by omega
  have l8 : ¬ cp ≤ 8 := by omega
  have l10 : ¬ cp ≤ 10 := by omega
  go_enter Tryd.func63, Tryd.ntmps63
  go_wp2_with fail
  clear hV HV
  go_region_held3 (fun _ => True) (trivial) (first
    | (go_at_call 62; refine (H1.out (w.alloc (.cells #[.int .i64 0, .int .i64 0, .int .i64 0, .int .u64 0] 48)).drew cp (Below.drew (HW.out _))).mono ?_; clear H1; rintro e w2 ⟨rfl, hw2⟩; rw [hw2]; clear hw2)
    | (go_at_call 62; refine (H2.out (w.alloc (.cells #[.int .i64 0, .int .i64 0, .int .i64 0, .int .u64 0] 48)).drew (cp - 4) (Below.drew (HW.out _))).mono ?_; clear H2; rintro e w2 ⟨rfl, hw2⟩; rw [hw2]; clear hw2)
    | (go_at_call 62; refine (H3.out (w.alloc (.cells #[.int .i64 0, .int .i64 0, .int .i64 0, .int .u64 0] 48)).drew (cp - 8) (Below.drew (HW.out _))).mono ?_; clear H3; rintro e w2 ⟨rfl, hw2⟩; rw [hw2]; clear hw2)
    | (go_at_call 62; refine (H4.out (w.alloc (.cells #[.int .i64 0, .int .i64 0, .int .i64 0, .int .u64 0] 48)).drew (cp - 10) (Below.drew (HW.out _))).mono ?_; clear H4; rintro e w2 ⟨rfl, hw2⟩; rw [hw2]; clear hw2))
  go_wp2_with fail
  refine bodyPost_ret (v := .agg #[.int .i64 (A : Int), .int .i64 (B : Int), .int .i64 (C : Int), .int .u64 (D : Int)]) ?_ rfl ⟨rfl, Below.drew (HW.out _)⟩
  exact results_cell_row rfl _ _ w.heap.size 48 _ (0, 0) _ rfl (heap_alloc_new w _) rfl rfl rfl
end Go.Proofs.YtcpdnalmoaojlaaDoor
