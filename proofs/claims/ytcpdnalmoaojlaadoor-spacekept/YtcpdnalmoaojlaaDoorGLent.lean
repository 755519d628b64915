import Derived.Test.YtcpdnalmoaojlaaDoorProg
import Derived.WalkKit
import Derived.ProofKit
import Derived.OpenShut
import Derived.Laws.IdiomStrings
import Derived.Laws.BytesArg

/-
  Bytes that are lent, and come back.
-/
namespace Go.Proofs.YtcpdnalmoaojlaaDoor
open Go.ChangeShapes Go.WideShapes Go.ChangeAt Go.RowKit

theorem Tryd.info5 : (Tryd.prog.info? 5).map (fun i => (i.zero, i.size, i.bytes)) = some (some (.int .u8 0), 1, 1) := by kernel_rfl

/-- A byte as a value. -/
def by8 (b : UInt8) : Value := .int .u8 (b.toNat : Int)
/-- Bytes that lie somewhere. -/
def BytesAt (w : World) (b off : Nat) (l : List UInt8) : Prop := ∀ i (hi : i < l.length), w.cell? ⟨b, off + i, none⟩ = some (.int .u8 (l[i].toNat))
/-- A block of bytes, whole. -/
def Block (w : World) (b : Nat) (l : List UInt8) : Prop := w.heap[b]? = some (.cells (l.map by8).toArray 5 (0, 0))

theorem Block.at {w : World} {b : Nat} {l : List UInt8} (h : Block w b l) (i : Nat) (hi : i < l.length) : w.cell? ⟨b, i, none⟩ = some (.int .u8 (l[i].toNat)) := by
  unfold Block at h
  simp [World.cell?, h, hi, by8]
theorem Block.thaw {w : World} {b : Nat} {l : List UInt8} (h : Block w b l) (i : Nat) : w.frozen? ⟨b, i, none⟩ = false := by
  unfold Block at h
  simp [World.frozen?, h]
theorem Block.bytes {w : World} {b : Nat} {l m : List UInt8} (h : Block w b (l ++ m)) : BytesAt w b 0 l := by
  intro i hi
  have := h.at i (by simp; omega)
  rw [Nat.zero_add, this, List.getElem_append_left hi]
theorem Block.below {w w' : World} {b B : Nat} {l : List UInt8} (h : Block w b l) (hb : Below B w w') (hB : b < B) : Block w' b l := by
  unfold Block; rw [hb.block b hB]; exact h
theorem BytesAt.below {w w' : World} {b B off : Nat} {l : List UInt8} (h : BytesAt w b off l) (hb : Below B w w') (hB : b < B) : BytesAt w' b off l := fun i hi => (hb.cell (p := ⟨b, off + i, none⟩) hB).trans (h i hi)

/-- What a store does to the block that it goes to. -/
theorem heap_set (w : World) (B k : Nat) (cur : Array Value) (v : Value) (h : w.heap[B]? = some (.cells cur 5 (0, 0))) :
    (w.setCell ⟨B, k, none⟩ v).heap[B]? = some (.cells (cur.setIfInBounds k v) 5 (0, 0)) := by
  simp [World.setCell, Array.getElem?_modify, h]

/-- A row whose first k bytes are known. -/
def Part (w : World) (B cap k : Nat) (l : List UInt8) : Prop := ∃ cur : Array Value, w.heap[B]? = some (.cells cur 5 (0, 0)) ∧ cur.size = cap ∧ cur.toList.take k = l.map by8
theorem Part.cell {w : World} {B cap k : Nat} {l : List UInt8} (h : Part w B cap k l) (hk : k < cap) : ∃ v, w.cell? ⟨B, k, none⟩ = some v ∧ w.frozen? ⟨B, k, none⟩ = false := by
  obtain ⟨cur, h1, h2, h3⟩ := h
  exact ⟨cur[k]'(by omega), by simp [World.cell?, h1, h2, hk], by simp [World.frozen?, h1]⟩
theorem Part.next {w : World} {B cap k : Nat} {l : List UInt8} (h : Part w B cap k l) (hk : k < cap) (hl : l.length = k) (x : UInt8) : Part (w.setCell ⟨B, k, none⟩ (.int .u8 (x.toNat : Int))) B cap (k + 1) (l ++ [x]) := by
  obtain ⟨cur, h1, h2, h3⟩ := h
  refine ⟨_, heap_set w B k cur _ h1, by simpa using h2, ?_⟩
  rw [Array.toList_setIfInBounds, List.take_set, List.map_append, ← h3, List.take_succ_eq_append_getElem (by simp; omega)]
  have hk' : (List.take k cur.toList).length = k := by simp; omega
  rw [List.set_append_right _ _ (by omega), hk']
  simp [by8]
theorem Part.whole {w : World} {B cap : Nat} {l : List UInt8} (h : Part w B cap cap l) : Block w B l := by
  obtain ⟨cur, h1, h2, h3⟩ := h
  unfold Block
  rw [h1, ← h3, List.take_of_length_le (by simp; omega)]
theorem Part.of_owns {w : World} {B cap k base : Nat} {l : List UInt8} (h : w.ownsRow base 5 1 (.slice (some ⟨B, 0, none⟩) k cap) k (l.map by8)) : Part w B cap k l := by
  obtain ⟨_, h2⟩ := h
  rcases h2 with ⟨h2, _⟩ | ⟨g, c, cur, h3, _, h4, _, _, h5, h6⟩
  · cases h2
  · simp at h3
    obtain ⟨rfl, rfl⟩ := h3
    exact ⟨cur, h4, by simpa using h5, by simpa using h6⟩

theorem add_at (b off j : Nat) : (⟨b, off, none⟩ : Addr).add j = ⟨b, off + j, none⟩ := by
  simp [Addr.add]

/-- A row of which all from the k-th byte on is known. -/
def Rest (w : World) (B cap k : Nat) (l : List UInt8) : Prop := ∃ cur : Array Value, w.heap[B]? = some (.cells cur 5 (0, 0)) ∧ cur.size = cap ∧ cur.toList.drop k = l.map by8
theorem Rest.cell {w : World} {B cap k : Nat} {x : UInt8} {l : List UInt8} (h : Rest w B cap k (x :: l)) : w.cell? ⟨B, k, none⟩ = some (.int .u8 (x.toNat : Int)) ∧ w.frozen? ⟨B, k, none⟩ = false := by
  obtain ⟨cur, h1, h2, h3⟩ := h
  have hk : cur[k]? = some (by8 x) := by
    have : (cur.toList.drop k)[0]? = some (by8 x) := by rw [h3]; rfl
    simpa using this
  exact ⟨by simp [World.cell?, h1, hk, by8], by simp [World.frozen?, h1]⟩
theorem Rest.next {w : World} {B cap k : Nat} {x : UInt8} {l : List UInt8} (h : Rest w B cap k (x :: l)) (v : Value) : Rest (w.setCell ⟨B, k, none⟩ v) B cap (k + 1) l := by
  obtain ⟨cur, h1, h2, h3⟩ := h
  refine ⟨_, heap_set w B k cur _ h1, by simpa using h2, ?_⟩
  rw [Array.toList_setIfInBounds, List.drop_set, if_pos (by omega), ← List.drop_drop, h3]
  rfl
theorem Rest.of_block {w : World} {B : Nat} {l : List UInt8} (h : Block w B l) : Rest w B l.length 0 l := ⟨_, h, by simp, by simp⟩
theorem grown_set {w w' : World} {B k : Nat} (h : w.grownBy w' (some B)) (v : Value) : w.grownBy (w'.setCell ⟨B, k, none⟩ v) (some B) :=
  ⟨h.os, h.tape, h.output, by simpa [World.setCell] using h.size, fun j hj hne => by rw [Below.heap_setCell _ _ _ _ (fun e => hne (by rw [e]))]; exact h.block j hj hne⟩

end Go.Proofs.YtcpdnalmoaojlaaDoor

/-
  A text's bytes laid in new memory.
-/
namespace Go.Proofs.YtcpdnalmoaojlaaDoor
open Go.ChangeShapes Go.WideShapes Go.ChangeAt Go.RowKit

/-- The bytes of a text. -/
abbrev bl (s : ByteArray) : List UInt8 := s.data.toList
theorem bl_length (s : ByteArray) : (bl s).length = s.size := by rw [bl, Array.length_toList, ByteArray.size]

/-- The room, and the world, behind a text's bytes that are laid in new memory. -/
def room (w : World) (s : ByteArray) : Nat := grownCap w s.size 0 5
def laidRow (w : World) (s : ByteArray) : Obj := .cells (bytesRow s (room w s)) 5 ((bytesRow s (room w s)).size, (bytesRow s (room w s)).size + 1)
def bw (w : World) (s : ByteArray) : World := w.drew.alloc (laidRow w s)
theorem bw_size (w : World) (s : ByteArray) : (bw w s).heap.size = w.heap.size + 1 := by
  show (w.heap.push _).size = _
  simp
theorem run_bw (w : World) (s : ByteArray) : (convert 9 53 (.string s)).run Tryd.prog w = .ok (.slice (some ⟨w.heap.size, 0, none⟩) s.size (room w s)) (bw w s) :=
  run_bytes_of_string (P := Tryd.prog) w 9 53 5 s Tryd.underlying9 Tryd.underlying53 Tryd.underlying5
theorem below_bw {B : Nat} {W w : World} (h : Below B W w) (hB : B ≤ w.heap.size) (s : ByteArray) : Below B W (bw w s) := Below.alloc (Below.drew h) hB _

theorem bw_bytes (w : World) (s : ByteArray) : BytesAt (bw w s) w.heap.size 0 (bl s) := by
  intro i hi
  have h : (bw w s).heap[w.heap.size]? = some (laidRow w s) := by
    show (w.heap.push _)[w.heap.size]? = _
    simp
  have hs : i < s.size := by rw [← bl_length]; exact hi
  simp only [World.cell?, h, Nat.zero_add, laidRow]
  simp [bytesRow, hs, Array.getElem?_append]

theorem Block.size {w : World} {b : Nat} {l : List UInt8} (h : Block w b l) : b < w.heap.size := (Array.getElem?_eq_some_iff.1 h).1
theorem grown_below {w w' : World} {B k : Nat} (h : w.grownBy w' (some B)) (hk : k ≤ B) (hs : k ≤ w.heap.size) : Below k w w' := (Below.refl k w).grown h hs (fun j hj => by cases hj; exact hk)
theorem Block.grown {w w' : World} {b B : Nat} {l : List UInt8} (h : Block w b l) (hg : w.grownBy w' (some B)) (hne : b ≠ B) : Block w' b l := by
  unfold Block; rw [hg.block b h.size (by simpa using hne)]; exact h
theorem BytesAt.grown {w w' : World} {b B off : Nat} {l : List UInt8} (h : BytesAt w b off l) (hb : b < w.heap.size) (hg : w.grownBy w' (some B)) (hne : b ≠ B) : BytesAt w' b off l := fun i hi =>
  (World.cell?_of_block (a := ⟨b, off + i, none⟩) (hg.block b hb (by simpa using hne))).trans (h i hi)
end Go.Proofs.YtcpdnalmoaojlaaDoor
