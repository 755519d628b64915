/-
  Bytes that may be written over, and an iterator beside them.
-/
import Derived.Test.YtpggbpbibbhepaaDoorDb2
import Derived.Test.YtpggbpbibbhepaaDoorDd
import Derived.Lib.OthersKept
import Derived.Laws.IdiomCopy
import Derived.Lib.SlBuf
namespace Go.Proofs.YtpggbpbibbhepaaDoor
open Go.ChangeShapes Go.WideShapes Go.ChangeAt Go.RowKit
set_option linter.unusedVariables false

/-- Bytes that lie somewhere, and may be written over. -/
def Row (w : World) (B : Nat) (l : List UInt8) : Prop := BytesAt w B 0 l ∧ ∀ i, i < l.length → w.frozen? ⟨B, i, none⟩ = false

theorem Row.some {w : World} {B : Nat} {l : List UInt8} (h : Row w B l) (i : Nat) (hi : i < l.length) : (w.cell? ⟨B, i, none⟩).isSome = true := by
  have := h.1 i hi
  rw [Nat.zero_add] at this
  rw [this]; rfl
theorem Row.sets {w : World} {B : Nat} {a m c n : List UInt8} (h : Row w B (a ++ m ++ c)) (hl : n.length = m.length) : Row (w.setCells B a.length (n.map by8)) B (a ++ n ++ c) := by
  refine ⟨fun i hi => ?_, fun i hi => ?_⟩
  · rw [Nat.zero_add]
    have hlen : i < (a ++ m ++ c).length := by simp at hi ⊢; omega
    by_cases h1 : i < a.length
    · rw [World.cell?_setCells_out B _ _ _ _ (fun _ _ => Or.inl h1)]
      have := h.1 i hlen
      rw [Nat.zero_add] at this
      rw [this]
      simp [h1]
    · by_cases h2 : i < a.length + n.length
      · have := World.cell?_setCells_in B (n.map by8) a.length w (fun j hj => h.some _ (by simp at hj ⊢; omega)) (i - a.length) (by simp; omega)
        rw [show a.length + (i - a.length) = i by omega] at this
        rw [this]
        simp [List.getElem_append, h1, show i - a.length < n.length by omega, by8]
      · rw [World.cell?_setCells_out B _ _ _ _ (fun _ _ => Or.inr (by simp; omega))]
        have := h.1 i hlen
        rw [Nat.zero_add] at this
        rw [this]
        simp [List.getElem_append, h1, show ¬ i - a.length < m.length by omega, hl]
  · rw [World.frozen?_setCells]
    exact h.2 i (by simp at hi ⊢; omega)
theorem setCells_other (B : Nat) {k : Nat} (hk : k ≠ B) : ∀ (vs : List Value) (o : Nat) (w : World), (w.setCells B o vs).heap[k]? = w.heap[k]?
  | [], _, _ => rfl
  | v :: r, o, w => by rw [World.setCells, setCells_other B hk r, Below.heap_setCell _ _ _ _ (by simpa using hk)]
theorem Row.block {w w' : World} {B : Nat} {l : List UInt8} (h : Row w B l) (he : w'.heap[B]? = w.heap[B]?) : Row w' B l :=
  ⟨fun i hi => (World.cell?_of_block (a := ⟨B, 0 + i, none⟩) he).trans (h.1 i hi), fun i hi => by have := h.2 i hi; simpa [World.frozen?, he] using this⟩
theorem bw_row (w : World) (s : ByteArray) : Row (bw w s) w.heap.size (bl s) := by
  refine ⟨bw_bytes w s, fun i hi => ?_⟩
  have h : (bw w s).heap[w.heap.size]? = some (laidRow w s) := by
    show (w.heap.push _)[w.heap.size]? = _
    simp
  rw [bl_length] at hi
  have : s.size ≤ (bytesRow s (room w s)).size := by
    unfold bytesRow
    rw [Array.size_append, Array.size_map, ByteArray.size_data]
    omega
  simp [World.frozen?, h, laidRow]
  omega
end Go.Proofs.YtpggbpbibbhepaaDoor
