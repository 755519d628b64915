/-
  strings.IndexRune, asked for a character beyond ASCII among the two signs that a name may not have.
-/
import Derived.Test.YtpggbpbibbhepaaDoorDf4
import Derived.Laws.Runes
import Derived.Deep.QuietTactic
import Derived.BigQuiet
import Derived.WalkMore
namespace Go.Proofs.YtpggbpbibbhepaaDoor
open Go.ChangeShapes Go.WideShapes Go.ChangeAt Go.RowKit
set_option linter.unusedVariables false
set_option linter.unusedSimpArgs false

/-- The two signs. -/
def bars : ByteArray := ⟨#[47, 0]⟩
theorem bars_0 : Utf8.decode bars 0 = (47, 1) := by decide +kernel
theorem bars_1 : Utf8.decode bars 1 = (0, 1) := by decide +kernel
theorem bars_size : bars.size = 2 := rfl
theorem below_drewN {B : Nat} {a w : World} (h : Below B a w) (n : Nat) : Below B a (w.drewN n) := h.trans ⟨rfl, rfl, rfl, Nat.le_refl _, fun _ _ => rfl⟩

set_option maxHeartbeats 4000000 in
set_option maxRecDepth 1000000 in
theorem rune_bad (C : ByteArray) (hC : C = bars) (w : World) : Calls Tryd.prog 19 #[.string C, .int .i32 65533] w fun e w' => e = .returned (.int .i64 (-1)) ∧ Below w.heap.size w w' := by
  have hsz : C.size = 2 := by rw [hC]; rfl
  have HC : Hid (C = bars) := hC
  clear hC
  go_enter Tryd.func19, Tryd.ntmps19
  go_wp2
  go_loopw [5, 6] (fun _ _ wr => ∃ pos : Nat, pos ≤ 2 ∧ wr.heap[w.heap.size]? = some (.stringIter C pos) ∧ Below w.heap.size w wr) (fun _ _ wr => 2 - wr.iterPos w.heap.size)
  case atStart => exact ⟨0, by omega, World.iter_heap w C 0, (Below.refl _ _).alloc (Nat.le_refl _) _⟩
  case round =>
    obtain ⟨pos, hpos, hit, hbel⟩ := hrel
    have hpos0 := iterPos_of hit
    by_cases hp : pos < C.size
    · have hdk : (Utf8.decode C pos).2 = 1 ∧ (((Utf8.decode C pos).1 : Int) == 65533) = false := by
        rw [HC.out]
        by_cases h : pos = 0
        · subst h; rw [bars_0]; exact ⟨rfl, rfl⟩
        · obtain rfl : pos = 1 := by omega
          rw [bars_1]; exact ⟨rfl, rfl⟩
      have hnx : ∀ ty, (Instr.next (.pointer (some ⟨w.heap.size, 0, none⟩)) true ty).run Tryd.prog wr = _ := fun ty => Lib.run_next_any_at wr w.heap.size C pos ty hit hp
      rw [hdk.1] at hnx
      have hit2 := Lib.iterAt_heap wr w.heap.size C pos (pos + 1) hit
      have hbw2 := Lib.below_iterAt hbel (k := w.heap.size) (Nat.le_refl _) C (pos + 1)
      obtain ⟨R, hR⟩ : ∃ R, (Utf8.decode C pos).1 = R := ⟨_, rfl⟩
      have hne := hdk.2
      rw [hR] at hnx hne
      obtain ⟨W2, hW2⟩ : ∃ W2, W2 = wr.iterAt w.heap.size C (pos + 1) := ⟨_, rfl⟩
      rw [← hW2] at hnx hit2 hbw2
      clear hW2 hR hdk hit hbel
      go_wp2
      go_roundw
      case rel => exact ⟨pos + 1, by omega, hit2, hbw2⟩
      case measure => rw [iterPos_of hit2, hpos0]; omega
    · have hnx : ∀ ty, (Instr.next (.pointer (some ⟨w.heap.size, 0, none⟩)) true ty).run Tryd.prog wr = _ := fun ty => Lib.run_next_end_at wr w.heap.size C pos ty hit hp
      go_wp2
      go_ret
      exact ⟨rfl, hbel⟩

set_option maxHeartbeats 4000000 in
set_option maxRecDepth 1000000 in
theorem rune_high (C : ByteArray) (hC : C = bars) (r : Int) (h0 : 128 ≤ r) (h1 : r ≤ 1114111) (hne : (r == 65533) = false) (hv : Lib.validRune r = true) (w : World) : Calls Tryd.prog 19 #[.string C, .int .i32 r] w fun e w' => e = .returned (.int .i64 (-1)) ∧ Below w.heap.size w w' := by
  have hsz : C.size = 2 := by rw [hC]; rfl
  have hva : Utf8.valid r = true := by
    rw [validRune_eq]
    exact hv
  obtain ⟨e2, e4, el⟩ := encode_facts r hva h0
  obtain ⟨E, hE⟩ : ∃ E, Utf8.encode r = E := ⟨_, rfl⟩
  rw [hE] at e2 e4 el
  have hcv := fun (w : World) => run_convert_int_string (P := Tryd.prog) w 21 9 .i32 r (by rw [Tryd.underlying21]; rfl) Tryd.underlying9
  rw [hE] at hcv
  have hn0 : (0 : Int) ≤ r := by omega
  have hn1 : ¬ r < 128 := by omega
  have HC : Hid (C = bars) := hC
  clear hC hva hE
  go_enter Tryd.func19, Tryd.ntmps19
  go_wp2_with (go_at_call 24; refine (Tryd.utf8_ValidRune r _).mono ?_; rintro e w' ⟨rfl, hw⟩; rw [hw, hv])
  go_step3
  go_wp2
  go_loopw [9, 10, 11, 12] (fun i _ _ _ wr => i = .int .i64 ((E.size : Int) - 1) ∧ wr = w) (fun _ _ _ _ _ => 0)
  case atStart => exact ⟨rfl, rfl⟩
  case round =>
    obtain ⟨rfl, rfl⟩ := hrel
    by_cases h2 : E.size = 2
    · have h1c : E.size - 1 = 1 := by omega
      have hE1 : 1 < E.size := by omega
      have hlast : 128 ≤ (E[1]'hE1).toNat := by
        have := el (by omega)
        simpa [h1c] using this
      have hC1 : 1 < C.size := by omega
      have hc1 : (C[1]'hC1).toNat = 0 := by
        have : ∀ (D : ByteArray) (h : D = bars) (h1 : 1 < D.size), (D[1]'h1).toNat = 0 := by
          intro D h h1; subst h; rfl
        exact this C HC.out hC1
      have hEz : ((E.size : Int) - 1) = 1 := by omega
      have hCz : (C.size : Int) = 2 := by omega
      have cI : Hid (∀ (c : Int) (w : World), Calls Tryd.prog 23 #[.string ByteArray.empty, .int .u8 c] w fun e w' => e = .returned (.int .i64 (-1)) ∧ w' = w) := fun c w => Tryd.strings_IndexByte ByteArray.empty c w
      have hcmp : (((C[1]'hC1).toNat : Int) == ((E[1]'hE1).toNat : Int)) = false := by rw [beq_eq_false_iff_ne, hc1]; omega
      have hw2 : IntKind.i64.wrap 2 = 2 := by decide
      have hle2 : (2 : Int) ≤ (C.size : Int) := by omega
      clear el
      rw [hEz]
      go_wp2
      go_step3
      go_wp2
      go_quiet (fail)
      go_wp2
      go_quiet (first | (go_at_call 23; exact (cI.out _ _).mono (fun e w' h => ⟨h.1, _, h.2⟩)))
      go_wp2
      show bodyPost Tryd.prog Tryd.f19 (fun e w' => e = .returned (.int .i64 (-1)) ∧ Below wr.heap.size wr w') Exit.ret _ _
      go_ret
      exact ⟨rfl, below_drewN (Below.refl _ _) _⟩
    · have hlt : ¬ ((E.size : Int) - 1 < (C.size : Int)) := by omega
      go_wp2
      go_ret
      exact ⟨rfl, Below.refl _ _⟩
end Go.Proofs.YtpggbpbibbhepaaDoor
