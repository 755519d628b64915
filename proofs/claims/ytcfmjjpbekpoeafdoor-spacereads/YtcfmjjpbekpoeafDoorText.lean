/-
  A text's bytes laid in new memory.
-/
import Derived.Test.YtcfmjjpbekpoeafDoorLent
namespace Go.Proofs.YtcfmjjpbekpoeafDoor
open Go.ChangeShapes Go.WideShapes Go.ChangeAt Go.RowKit

/-- The bytes of a text. -/
abbrev bl (s : ByteArray) : List UInt8 := s.data.toList
theorem bl_length (s : ByteArray) : (bl s).length = s.size := by rw [bl, Array.length_toList, ByteArray.size]

/-- The room, and the world, behind a text's bytes that are laid in new memory. -/
def room (w : World) (s : ByteArray) : Nat := grownCap w s.size 0 5
def laidRow (w : World) (s : ByteArray) : Obj := .cells (bytesRow s (room w s)) 5 ((bytesRow s (room w s)).size, (bytesRow s (room w s)).size + 1)
def bw (w : World) (s : ByteArray) : World := w.drew.alloc (laidRow w s)
theorem bw_size (w : World) (s : ByteArray) : (bw w s).heap.size = w.heap.size + 1 := by
  show (w.heap.push _).size = _
  simp
theorem run_bw (w : World) (s : ByteArray) : (convert 9 23 (.string s)).run Tryd.prog w = .ok (.slice (some ⟨w.heap.size, 0, none⟩) s.size (room w s)) (bw w s) :=
  run_bytes_of_string (P := Tryd.prog) w 9 23 5 s Tryd.underlying9 Tryd.underlying23 Tryd.underlying5
theorem below_bw {B : Nat} {W w : World} (h : Below B W w) (hB : B ≤ w.heap.size) (s : ByteArray) : Below B W (bw w s) := Below.alloc (Below.drew h) hB _

theorem bw_bytes (w : World) (s : ByteArray) : BytesAt (bw w s) w.heap.size 0 (bl s) := by
  intro i hi
  have h : (bw w s).heap[w.heap.size]? = some (laidRow w s) := by
    show (w.heap.push _)[w.heap.size]? = _
    simp
  have hs : i < s.size := by rw [← bl_length]; exact hi
  simp only [World.cell?, h, Nat.zero_add, laidRow]
  simp [bytesRow, hs, Array.getElem?_append]

theorem Block.size {w : World} {b : Nat} {l : List UInt8} (h : Block w b l) : b < w.heap.size := (Array.getElem?_eq_some_iff.1 h).1
theorem grown_below {w w' : World} {B k : Nat} (h : w.grownBy w' (some B)) (hk : k ≤ B) (hs : k ≤ w.heap.size) : Below k w w' := (Below.refl k w).grown h hs (fun j hj => by cases hj; exact hk)
theorem Block.grown {w w' : World} {b B : Nat} {l : List UInt8} (h : Block w b l) (hg : w.grownBy w' (some B)) (hne : b ≠ B) : Block w' b l := by
  unfold Block; rw [hg.block b h.size (by simpa using hne)]; exact h
theorem BytesAt.grown {w w' : World} {b B off : Nat} {l : List UInt8} (h : BytesAt w b off l) (hb : b < w.heap.size) (hg : w.grownBy w' (some B)) (hne : b ≠ B) : BytesAt w' b off l := fun i hi =>
  (World.cell?_of_block (a := ⟨b, off + i, none⟩) (hg.block b hb (by simpa using hne))).trans (h i hi)
end Go.Proofs.YtcfmjjpbekpoeafDoor
