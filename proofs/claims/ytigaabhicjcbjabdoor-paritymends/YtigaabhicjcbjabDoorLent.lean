/-
  Bytes that are lent, and come back.
-/
import Derived.Test.YtigaabhicjcbjabDoorProg
import Derived.WalkKit
import Derived.ProofKit
import Derived.OpenShut
import Derived.Laws.IdiomStrings
import Derived.Laws.BytesArg
namespace Go.Proofs.YtigaabhicjcbjabDoor
open Go.ChangeShapes Go.WideShapes Go.ChangeAt Go.RowKit

theorem Tryd.info5 : (Tryd.prog.info? 5).map (fun i => (i.zero, i.size, i.bytes)) = some (some (.int .u8 0), 1, 1) := by kernel_rfl

/-- A byte as a value. -/
def by8 (b : UInt8) : Value := .int .u8 (b.toNat : Int)
/-- Bytes that lie somewhere. -/
def BytesAt (w : World) (b off : Nat) (l : List UInt8) : Prop := ∀ i (hi : i < l.length), w.cell? ⟨b, off + i, none⟩ = some (.int .u8 (l[i].toNat))
/-- A block of bytes, whole. -/
def Block (w : World) (b : Nat) (l : List UInt8) : Prop := w.heap[b]? = some (.cells (l.map by8).toArray 5 (0, 0))

theorem Block.at {w : World} {b : Nat} {l : List UInt8} (h : Block w b l) (i : Nat) (hi : i < l.length) : w.cell? ⟨b, i, none⟩ = some (.int .u8 (l[i].toNat)) := by
  unfold Block at h
  simp [World.cell?, h, hi, by8]
theorem Block.thaw {w : World} {b : Nat} {l : List UInt8} (h : Block w b l) (i : Nat) : w.frozen? ⟨b, i, none⟩ = false := by
  unfold Block at h
  simp [World.frozen?, h]
theorem Block.bytes {w : World} {b : Nat} {l m : List UInt8} (h : Block w b (l ++ m)) : BytesAt w b 0 l := by
  intro i hi
  have := h.at i (by simp; omega)
  rw [Nat.zero_add, this, List.getElem_append_left hi]
theorem Block.below {w w' : World} {b B : Nat} {l : List UInt8} (h : Block w b l) (hb : Below B w w') (hB : b < B) : Block w' b l := by
  unfold Block; rw [hb.block b hB]; exact h
theorem BytesAt.below {w w' : World} {b B off : Nat} {l : List UInt8} (h : BytesAt w b off l) (hb : Below B w w') (hB : b < B) : BytesAt w' b off l := fun i hi => (hb.cell (p := ⟨b, off + i, none⟩) hB).trans (h i hi)

/-- What a store does to the block that it goes to. -/
theorem heap_set (w : World) (B k : Nat) (cur : Array Value) (v : Value) (h : w.heap[B]? = some (.cells cur 5 (0, 0))) :
    (w.setCell ⟨B, k, none⟩ v).heap[B]? = some (.cells (cur.setIfInBounds k v) 5 (0, 0)) := by
  simp [World.setCell, Array.getElem?_modify, h]

/-- A row whose first k bytes are known. -/
def Part (w : World) (B cap k : Nat) (l : List UInt8) : Prop := ∃ cur : Array Value, w.heap[B]? = some (.cells cur 5 (0, 0)) ∧ cur.size = cap ∧ cur.toList.take k = l.map by8
theorem Part.cell {w : World} {B cap k : Nat} {l : List UInt8} (h : Part w B cap k l) (hk : k < cap) : ∃ v, w.cell? ⟨B, k, none⟩ = some v ∧ w.frozen? ⟨B, k, none⟩ = false := by
  obtain ⟨cur, h1, h2, h3⟩ := h
  exact ⟨cur[k]'(by omega), by simp [World.cell?, h1, h2, hk], by simp [World.frozen?, h1]⟩
theorem Part.next {w : World} {B cap k : Nat} {l : List UInt8} (h : Part w B cap k l) (hk : k < cap) (hl : l.length = k) (x : UInt8) : Part (w.setCell ⟨B, k, none⟩ (.int .u8 (x.toNat : Int))) B cap (k + 1) (l ++ [x]) := by
  obtain ⟨cur, h1, h2, h3⟩ := h
  refine ⟨_, heap_set w B k cur _ h1, by simpa using h2, ?_⟩
  rw [Array.toList_setIfInBounds, List.take_set, List.map_append, ← h3, List.take_succ_eq_append_getElem (by simp; omega)]
  have hk' : (List.take k cur.toList).length = k := by simp; omega
  rw [List.set_append_right _ _ (by omega), hk']
  simp [by8]
theorem Part.whole {w : World} {B cap : Nat} {l : List UInt8} (h : Part w B cap cap l) : Block w B l := by
  obtain ⟨cur, h1, h2, h3⟩ := h
  unfold Block
  rw [h1, ← h3, List.take_of_length_le (by simp; omega)]
theorem Part.of_owns {w : World} {B cap k base : Nat} {l : List UInt8} (h : w.ownsRow base 5 1 (.slice (some ⟨B, 0, none⟩) k cap) k (l.map by8)) : Part w B cap k l := by
  obtain ⟨_, h2⟩ := h
  rcases h2 with ⟨h2, _⟩ | ⟨g, c, cur, h3, _, h4, _, _, h5, h6⟩
  · cases h2
  · simp at h3
    obtain ⟨rfl, rfl⟩ := h3
    exact ⟨cur, h4, by simpa using h5, by simpa using h6⟩

theorem add_at (b off j : Nat) : (⟨b, off, none⟩ : Addr).add j = ⟨b, off + j, none⟩ := by
  simp [Addr.add]

theorem lent_any (l : List UInt8) (b off cap : Nat) (w : World) (hl : l.length ≤ 140737488355328) (hb : b < w.heap.size) (hc : BytesAt w b off l) :
    Calls Tryd.prog 8 #[.slice (some ⟨b, off, none⟩) l.length cap] w fun e w' => e = .returned (.slice (some ⟨w.heap.size, 0, none⟩) l.length (l.length + 9)) ∧ Block w' w.heap.size (l ++ List.replicate 9 77) ∧ Below w.heap.size w w' := by
  obtain ⟨i0, hi, hz0, hz1, hz2⟩ := info_parts Tryd.info5
  have HC : Hid (BytesAt w b off l) := hc
  clear hc
  go_enter Tryd.func8, Tryd.ntmps8
  go_wp2_with (at_make; refine wpList_make_own _ rfl _ _ 22 rfl w.heap.size 5 i0 (.int .u8 0) 1 Tryd.underlying22 hi hz0 hz1 _ _ _ (l.length + 9) rfl rfl (by omega) ?b2 ?b3 (Nat.le_refl _) ?_)
  case b2 => rw [hz2]; omega
  case b3 => unfold maxLen; omega
  intro w0 hown0 hgrow0
  have bel0 : Below w.heap.size w w0 := (Below.refl _ _).grown hgrow0 (Nat.le_refl _) (fun k h => by cases h)
  go_wp2_with (at_builtin; refine wpList_append_fits _ rfl _ _ 22 rfl w.heap.size 5 i0 1 Tryd.underlying22 hi hz1 w.heap.size 0 (l.length + 9) _ rfl hown0 ⟨b, off, none⟩ l.length cap (l.map by8) rfl (by simp) ?c1 ?c2 (by omega) ?_)
  case c1 =>
    intro j u hj
    have hj' : j < l.length := by
      have := (List.getElem?_eq_some_iff.1 hj).1
      simpa using this
    have h := (HC.out.below bel0 hb) j hj'
    simp [hj', by8] at hj
    subst hj
    rw [add_at]; exact h
  case c2 => intro u hu; simp at hu; obtain ⟨x, _, rfl⟩ := hu; rfl
  intro w1 hown1 hgrow1
  have hp : Part w1 w.heap.size (l.length + 9) l.length l := by
    exact Part.of_owns (by simpa using hown1)
  have hs0 : w.heap.size < w0.heap.size := by
    obtain ⟨_, h⟩ := hown0
    rcases h with ⟨h, _⟩ | ⟨g, c, cur, h3, _, h4, _⟩
    · cases h
    · simp at h3
      obtain ⟨rfl, _⟩ := h3
      exact (Array.getElem?_eq_some_iff.1 h4).1
  have bel1 : Below w.heap.size w w1 := bel0.grown hgrow1 bel0.size (fun k h => by cases h; exact Nat.le_refl _)
  clear hown0 hown1 hgrow0 hgrow1 hi hz0 hz1 hz2
  go_wp2
  go_loopw [5] (fun i wr => ∃ k : Nat, i = .int .i64 ((l.length + k : Nat) : Int) ∧ k ≤ 9 ∧ Part wr w.heap.size (l.length + 9) (l.length + k) (l ++ List.replicate k 77) ∧ Below w.heap.size w wr) (fun i _ => l.length + 9 - (intOf i).toNat)
  case atStart => exact ⟨0, by simp, by omega, by simpa using hp, bel1⟩
  case round =>
    obtain ⟨k, rfl, hk, hpr, hbel⟩ := hrel
    have HP : Hid (Part wr w.heap.size (l.length + 9) (l.length + k) (l ++ List.replicate k 77)) := hpr
    have HB : Hid (Below w.heap.size w wr) := hbel
    clear hp bel1 bel0 HC
    by_cases h9 : k < 9
    · obtain ⟨v, hv, hf⟩ := hpr.cell (by omega)
      clear hpr hbel
      go_wp2
      go_roundw
      case rel => exact ⟨k + 1, by go_num, by omega, by have h := HP.out.next (by omega) (by simp) 77; rw [List.replicate_succ', ← List.append_assoc]; exact h, HB.out.setCell (Nat.le_refl _) _⟩
      case measure => simp [intOf]; omega
    · have hk9 : k = 9 := by omega
      clear hpr hbel
      subst hk9
      go_wp2
      go_ret
      exact ⟨rfl, HP.out.whole, HB.out⟩

theorem same_true (l : List UInt8) (b off cap b' off' cap' : Nat) (w : World) (h : BytesAt w b off l) (h' : BytesAt w b' off' l) :
    Calls Tryd.prog 12 #[.slice (some ⟨b, off, none⟩) l.length cap, .slice (some ⟨b', off', none⟩) l.length cap'] w fun e w' => e = .returned (.bool true) ∧ w' = w := by
  have k1 := run_convert_bytes_back (P := Tryd.prog) w 22 9 5 ⟨b, off, none⟩ cap l Tryd.underlying22 Tryd.underlying5 Tryd.underlying9 (fun j hj => by rw [add_at]; exact h j hj)
  have k2 := run_convert_bytes_back (P := Tryd.prog) w 22 9 5 ⟨b', off', none⟩ cap' l Tryd.underlying22 Tryd.underlying5 Tryd.underlying9 (fun j hj => by rw [add_at]; exact h' j hj)
  clear h h'
  go_enter Tryd.func12, Tryd.ntmps12
  go_wp2
  go_ret
  exact ⟨rfl, rfl⟩

/-- A row of which all from the k-th byte on is known. -/
def Rest (w : World) (B cap k : Nat) (l : List UInt8) : Prop := ∃ cur : Array Value, w.heap[B]? = some (.cells cur 5 (0, 0)) ∧ cur.size = cap ∧ cur.toList.drop k = l.map by8
theorem Rest.cell {w : World} {B cap k : Nat} {x : UInt8} {l : List UInt8} (h : Rest w B cap k (x :: l)) : w.cell? ⟨B, k, none⟩ = some (.int .u8 (x.toNat : Int)) ∧ w.frozen? ⟨B, k, none⟩ = false := by
  obtain ⟨cur, h1, h2, h3⟩ := h
  have hk : cur[k]? = some (by8 x) := by
    have : (cur.toList.drop k)[0]? = some (by8 x) := by rw [h3]; rfl
    simpa using this
  exact ⟨by simp [World.cell?, h1, hk, by8], by simp [World.frozen?, h1]⟩
theorem Rest.next {w : World} {B cap k : Nat} {x : UInt8} {l : List UInt8} (h : Rest w B cap k (x :: l)) (v : Value) : Rest (w.setCell ⟨B, k, none⟩ v) B cap (k + 1) l := by
  obtain ⟨cur, h1, h2, h3⟩ := h
  refine ⟨_, heap_set w B k cur _ h1, by simpa using h2, ?_⟩
  rw [Array.toList_setIfInBounds, List.drop_set, if_pos (by omega), ← List.drop_drop, h3]
  rfl
theorem Rest.of_block {w : World} {B : Nat} {l : List UInt8} (h : Block w B l) : Rest w B l.length 0 l := ⟨_, h, by simp, by simp⟩
theorem grown_set {w w' : World} {B k : Nat} (h : w.grownBy w' (some B)) (v : Value) : w.grownBy (w'.setCell ⟨B, k, none⟩ v) (some B) :=
  ⟨h.os, h.tape, h.output, by simpa [World.setCell] using h.size, fun j hj hne => by rw [Below.heap_setCell _ _ _ _ (fun e => hne (by rw [e]))]; exact h.block j hj hne⟩

theorem back_any (l : List UInt8) (B b off cap : Nat) (w : World) (hl : l.length ≤ 140737488355328) (hB : Block w B (l ++ List.replicate 9 77)) (hc : BytesAt w b off l) :
    Calls Tryd.prog 10 #[.slice (some ⟨B, 0, none⟩) l.length (l.length + 9), .slice (some ⟨b, off, none⟩) l.length cap] w fun e w' => e = .returned (.bool true) ∧ w.grownBy w' (some B) := by
  have hs := same_true l B 0 (l.length + 9) b off cap w hB.bytes hc
  have hr : Rest w B (l.length + 9) 0 (l ++ List.replicate 9 77) := by have h := Rest.of_block hB; simpa using h
  clear hB hc
  go_enter Tryd.func10, Tryd.ntmps10
  go_wp2_with (go_at_call 12; refine hs.mono ?_; rintro e w' ⟨rfl, rfl⟩; clear hs)
  go_loopw [5, 7] (fun ok i wr => ∃ k : Nat, ok = .bool true ∧ i = .int .i64 k ∧ k ≤ l.length + 9 ∧ Rest wr B (l.length + 9) k ((l ++ List.replicate 9 77).drop k) ∧ w'.grownBy wr (some B)) (fun _ i _ => l.length + 9 - (intOf i).toNat)
  case atStart => exact ⟨0, rfl, rfl, by omega, by simpa using hr, World.grownBy.refl _ _⟩
  case round =>
    obtain ⟨k, rfl, rfl, hk, hrest, hg⟩ := hrel
    have HG : Hid (w'.grownBy wr (some B)) := hg
    clear hg hr
    by_cases h9 : k < l.length + 9
    · obtain ⟨x, hx⟩ : ∃ x, x = (l ++ List.replicate 9 77)[k]'(by simpa using h9) := ⟨_, rfl⟩
      rw [List.drop_eq_getElem_cons (by simpa using h9), ← hx] at hrest
      have HN : Hid (∀ v, Rest (wr.setCell ⟨B, k, none⟩ v) B (l.length + 9) (k + 1) ((l ++ List.replicate 9 77).drop (k + 1))) := fun v => hrest.next v
      obtain ⟨hv, hf⟩ := hrest.cell
      clear hrest
      by_cases hn : l.length ≤ k
      · have hx77 : x = 77 := by rw [hx, List.getElem_append_right hn]; exact List.getElem_replicate _
        subst hx77
        have hv77 : wr.cell? ⟨B, k, none⟩ = some (.int .u8 77) := hv
        have hn' : (l.length : Int) ≤ (k : Int) := by omega
        clear hv hx
        go_wp2
        go_roundw
        case rel => exact ⟨k + 1, rfl, by go_num, by omega, HN.out _, grown_set HG.out _⟩
        case measure => simp [intOf]; omega
      · have hn' : (k : Int) < (l.length : Int) := by omega
        clear hx
        go_wp2
        go_roundw
        case rel => exact ⟨k + 1, rfl, by go_num, by omega, HN.out _, grown_set HG.out _⟩
        case measure => simp [intOf]; omega
    · clear hrest
      go_wp2
      go_ret
      exact ⟨rfl, HG.out⟩
end Go.Proofs.YtigaabhicjcbjabDoor
