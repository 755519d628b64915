/-
  A character is written: those of one byte and of two.
-/
import Derived.Test.YtpggbpbibbhepaaDoorDf1
namespace Go.Proofs.YtpggbpbibbhepaaDoor
open Go.ChangeShapes Go.WideShapes Go.ChangeAt Go.RowKit
set_option linter.unusedVariables false
set_option linter.unusedSimpArgs false

set_option maxHeartbeats 4000000 in
set_option maxRecDepth 1000000 in
theorem enc_one (b off len cap : Nat) (r : Int) (h0 : 0 ≤ r) (h1 : r ≤ 127) (w : World) (hl : 1 ≤ len) (c0 : Value) (hc0 : w.cell? ⟨b, off, none⟩ = some c0) (hf0 : w.frozen? ⟨b, off, none⟩ = false) :
    Calls Tryd.prog 9 #[.slice (some ⟨b, off, none⟩) len cap, .int .i32 r] w fun e w' => e = .returned (.int .i64 1) ∧ w' = w.setCells b off [.int .u8 r] := by
  go_enter Tryd.func9, Tryd.ntmps9
  go_wp2
  go_ret
  exact ⟨rfl, rfl⟩

set_option maxHeartbeats 4000000 in
set_option maxRecDepth 1000000 in
theorem enc_two_in (b off len cap : Nat) (r : Int) (h0 : 128 ≤ r) (h1 : r ≤ 2047) (w : World) (hl : 2 ≤ len) (c0 c1 : Value) (hc0 : w.cell? ⟨b, off, none⟩ = some c0) (hf0 : w.frozen? ⟨b, off, none⟩ = false) (hc1 : w.cell? ⟨b, off + 1, none⟩ = some c1) (hf1 : w.frozen? ⟨b, off + 1, none⟩ = false) :
    Calls Tryd.prog 15 #[.slice (some ⟨b, off, none⟩) len cap, .int .i32 r] w fun e w' => e = .returned (.int .i64 2) ∧ w' = w.setCells b off [.int .u8 (192 + r / 64), .int .u8 (128 + r % 64)] := by
  go_enter Tryd.func15, Tryd.ntmps15
  go_wp2
  go_ret
  exact ⟨rfl, rfl⟩

set_option maxHeartbeats 4000000 in
set_option maxRecDepth 1000000 in
theorem enc_two (b off len cap : Nat) (r : Int) (h0 : 128 ≤ r) (h1 : r ≤ 2047) (w : World) (hl : 2 ≤ len) (c0 c1 : Value) (hc0 : w.cell? ⟨b, off, none⟩ = some c0) (hf0 : w.frozen? ⟨b, off, none⟩ = false) (hc1 : w.cell? ⟨b, off + 1, none⟩ = some c1) (hf1 : w.frozen? ⟨b, off + 1, none⟩ = false) :
    Calls Tryd.prog 9 #[.slice (some ⟨b, off, none⟩) len cap, .int .i32 r] w fun e w' => e = .returned (.int .i64 2) ∧ w' = w.setCells b off [.int .u8 (192 + r / 64), .int .u8 (128 + r % 64)] := by
  have cN := enc_two_in b off len cap r h0 h1 w hl c0 c1 hc0 hf0 hc1 hf1
  clear hc0 hf0 hc1 hf1
  go_enter Tryd.func9, Tryd.ntmps9
  go_wp2_with (go_at_call 15; refine cN.mono ?_; rintro e w' ⟨rfl, hw⟩; rw [hw])
  go_ret
  exact ⟨rfl, rfl⟩

/-- What is taken in the place of a character of one byte or two, written over it. -/
theorem enc_walk (B off len cap : Nat) (r : Int) (h0 : 0 ≤ r) (h1 : r ≤ 2047) (w : World) (a m c : List UInt8) (ha : a.length = off) (hm : m.length = (Lib.encodeRune r).length) (hlen : m.length ≤ len) (hR : Row w B (a ++ m ++ c)) :
    Calls Tryd.prog 9 #[.slice (some ⟨B, off, none⟩) len cap, .int .i32 r] w fun e w' => (∃ k, e = .returned k) ∧ w' = w.setCells B off ((Lib.encodeRune r).map by8) := by
  have hcell : ∀ j, j < m.length → ∃ v, w.cell? ⟨B, off + j, none⟩ = some v := fun j hj => Option.isSome_iff_exists.1 (hR.some _ (by simp; omega))
  have hfz : ∀ j, j < m.length → w.frozen? ⟨B, off + j, none⟩ = false := fun j hj => hR.2 _ (by simp; omega)
  rw [← cells_by8]
  rw [encode_length] at hm
  by_cases h : r ≤ 127
  · rw [Lib.encodeRuneZ_one h0 h] at hm
    obtain ⟨v, hv⟩ := hcell 0 (by simp at hm; omega)
    rw [Lib.runeCells, Lib.encodeRuneZ_one h0 h]
    exact (enc_one B off len cap r h0 h w (by simp at hm; omega) v hv (hfz 0 (by simp at hm; omega))).mono fun e w' h => ⟨⟨_, h.1⟩, h.2⟩
  · rw [Lib.encodeRuneZ_two (by omega) h1] at hm
    obtain ⟨v, hv⟩ := hcell 0 (by simp at hm; omega)
    obtain ⟨v1, hv1⟩ := hcell 1 (by simp at hm; omega)
    rw [Lib.runeCells, Lib.encodeRuneZ_two (by omega) h1]
    exact (enc_two B off len cap r (by omega) h1 w (by simp at hm; omega) v v1 hv (hfz 0 (by simp at hm; omega)) hv1 (hfz 1 (by simp at hm; omega))).mono fun e w' h => ⟨⟨_, h.1⟩, h.2⟩
end Go.Proofs.YtpggbpbibbhepaaDoor
