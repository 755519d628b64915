/-
  Bytes in memory; a text's bytes laid in new memory.
-/
import Derived.Test.YtppmjdmdflcoiafDoorProg
import Derived.Test.YtppmjdmdflcoiafDoorBits
import Derived.WalkKit
import Derived.ProofKit
import Derived.OpenShut
import Derived.Laws.IdiomStrings
import Derived.Deep.QuietTactic
namespace Go.Proofs.YtppmjdmdflcoiafDoor
open Go.ChangeShapes Go.WideShapes Go.ChangeAt Go.RowKit

/-- A byte as a value. -/
def by8 (b : UInt8) : Value := .int .u8 (b.toNat : Int)
/-- Bytes that lie somewhere. -/
def BytesAt (w : World) (b off : Nat) (l : List UInt8) : Prop := ∀ i (hi : i < l.length), w.cell? ⟨b, off + i, none⟩ = some (.int .u8 (l[i].toNat))
theorem BytesAt.below {w w' : World} {b B off : Nat} {l : List UInt8} (h : BytesAt w b off l) (hb : Below B w w') (hB : b < B) : BytesAt w' b off l := fun i hi => (hb.cell (p := ⟨b, off + i, none⟩) hB).trans (h i hi)

/-- The bytes of a text. -/
abbrev bl (s : ByteArray) : List UInt8 := s.data.toList
theorem bl_length (s : ByteArray) : (bl s).length = s.size := by rw [bl, Array.length_toList, ByteArray.size]

/-- The room, and the world, behind a text's bytes that are laid in new memory. -/
def room (w : World) (s : ByteArray) : Nat := grownCap w s.size 0 5
def laidRow (w : World) (s : ByteArray) : Obj := .cells (bytesRow s (room w s)) 5 ((bytesRow s (room w s)).size, (bytesRow s (room w s)).size + 1)
def bw (w : World) (s : ByteArray) : World := w.drew.alloc (laidRow w s)
theorem bw_size (w : World) (s : ByteArray) : (bw w s).heap.size = w.heap.size + 1 := by
  show (w.heap.push _).size = _
  simp
theorem run_bw (w : World) (s : ByteArray) : (convert 9 23 (.string s)).run Tryd.prog w = .ok (.slice (some ⟨w.heap.size, 0, none⟩) s.size (room w s)) (bw w s) :=
  run_bytes_of_string (P := Tryd.prog) w 9 23 5 s Tryd.underlying9 Tryd.underlying23 Tryd.underlying5
theorem below_bw {B : Nat} {W w : World} (h : Below B W w) (hB : B ≤ w.heap.size) (s : ByteArray) : Below B W (bw w s) := Below.alloc (Below.drew h) hB _

/-- A row whose first bytes are known, and may be written. -/
def Open (w : World) (b : Nat) (l : List UInt8) : Prop := ∃ (z : List Value) (m : Nat × Nat), w.heap[b]? = some (.cells (l.map by8 ++ z).toArray 5 m) ∧ l.length ≤ m.1
theorem Open.bytes {w : World} {b : Nat} {l : List UInt8} (h : Open w b l) : BytesAt w b 0 l := by
  obtain ⟨z, m, h, _⟩ := h
  intro i hi
  simp [World.cell?, h, by8, List.getElem?_append_left, hi]
theorem Open.thaw {w : World} {b : Nat} {l : List UInt8} (h : Open w b l) (i : Nat) (hi : i < l.length) : w.frozen? ⟨b, i, none⟩ = false := by
  obtain ⟨z, m, h, hm⟩ := h
  simp [World.frozen?, h]; omega
theorem Open.set {w : World} {b : Nat} {l : List UInt8} (h : Open w b l) (i : Nat) (hi : i < l.length) (x : UInt8) : Open (w.setCell ⟨b, i, none⟩ (.int .u8 (x.toNat : Int))) b (l.set i x) := by
  obtain ⟨z, m, h, hm⟩ := h
  refine ⟨z, m, ?_, by simpa using hm⟩
  simp [World.setCell, Array.getElem?_modify, h]
  rw [List.set_append_left _ _ (by simpa using hi)]
  rfl
theorem Open.below {w w' : World} {b B : Nat} {l : List UInt8} (h : Open w b l) (hb : Below B w w') (hB : b < B) : Open w' b l := by
  obtain ⟨z, m, h, hm⟩ := h
  exact ⟨z, m, by rw [hb.block b hB]; exact h, hm⟩
theorem bw_open (w : World) (s : ByteArray) : Open (bw w s) w.heap.size (bl s) := by
  refine ⟨List.replicate (room w s - s.size) (.int .u8 0), ((bytesRow s (room w s)).size, (bytesRow s (room w s)).size + 1), ?_, ?_⟩
  · show (w.heap.push _)[w.heap.size]? = _
    simp only [Array.getElem?_push_size, laidRow]
    congr 2
    apply Array.toList_inj.1
    simp only [bytesRow, Array.toList_append, Array.toList_map, Array.toList_replicate]
    rfl
  · show (bl s).length ≤ (bytesRow s (room w s)).size
    simp only [bytesRow, Array.size_append, Array.size_map, bl, Array.length_toList]
    omega
theorem drewN_below (B : Nat) (w : World) (n : Nat) : Below B w (w.drewN n) := ⟨rfl, rfl, rfl, Nat.le_refl _, fun _ _ => rfl⟩
end Go.Proofs.YtppmjdmdflcoiafDoor
