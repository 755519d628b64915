import Derived.Test.YtcpdnalmoaojlaaDoorProg
import Derived.WalkKit
import Derived.ProofKit
import Derived.OpenShut
import Derived.Laws.IdiomStrings
import Derived.Laws.BytesArg

/-
  Bytes that are lent, and come back.
-/
namespace Go.Proofs.YtcpdnalmoaojlaaDoor
open Go.ChangeShapes Go.WideShapes Go.ChangeAt Go.RowKit

theorem Tryd.info5 : (Tryd.prog.info? 5).map (fun i => (i.zero, i.size, i.bytes)) = some (some (.int .u8 0), 1, 1) := by kernel_rfl

/-- A byte as a value. -/
def by8 (b : UInt8) : Value := .int .u8 (b.toNat : Int)
/-- Bytes that lie somewhere. -/
def BytesAt (w : World) (b off : Nat) (l : List UInt8) : Prop := ∀ i (hi : i < l.length), w.cell? ⟨b, off + i, none⟩ = some (.int .u8 (l[i].toNat))
/-- A block of bytes, whole. -/
def Block (w : World) (b : Nat) (l : List UInt8) : Prop := w.heap[b]? = some (.cells (l.map by8).toArray 5 (0, 0))

theorem Block.at {w : World} {b : Nat} {l : List UInt8} (h : Block w b l) (i : Nat) (hi : i < l.length) : w.cell? ⟨b, i, none⟩ = some (.int .u8 (l[i].toNat)) := by
  unfold Block at h
  simp [World.cell?, h, hi, by8]
theorem Block.thaw {w : World} {b : Nat} {l : List UInt8} (h : Block w b l) (i : Nat) : w.frozen? ⟨b, i, none⟩ = false := by
  unfold Block at h
  simp [World.frozen?, h]
theorem Block.bytes {w : World} {b : Nat} {l m : List UInt8} (h : Block w b (l ++ m)) : BytesAt w b 0 l := by
  intro i hi
  have := h.at i (by simp; omega)
  rw [Nat.zero_add, this, List.getElem_append_left hi]
theorem Block.below {w w' : World} {b B : Nat} {l : List UInt8} (h : Block w b l) (hb : Below B w w') (hB : b < B) : Block w' b l := by
  unfold Block; rw [hb.block b hB]; exact h
theorem BytesAt.below {w w' : World} {b B off : Nat} {l : List UInt8} (h : BytesAt w b off l) (hb : Below B w w') (hB : b < B) : BytesAt w' b off l := fun i hi => (hb.cell (p := ⟨b, off + i, none⟩) hB).trans (h i hi)

/-- What a store does to the block that it goes to. -/
theorem heap_set (w : World) (B k : Nat) (cur : Array Value) (v : Value) (h : w.heap[B]? = some (.cells cur 5 (0, 0))) :
    (w.setCell ⟨B, k, none⟩ v).heap[B]? = some (.cells (cur.setIfInBounds k v) 5 (0, 0)) := by
  simp [World.setCell, Array.getElem?_modify, h]

/-- A row whose first k bytes are known. -/
def Part (w : World) (B cap k : Nat) (l : List UInt8) : Prop := ∃ cur : Array Value, w.heap[B]? = some (.cells cur 5 (0, 0)) ∧ cur.size = cap ∧ cur.toList.take k = l.map by8
theorem Part.cell {w : World} {B cap k : Nat} {l : List UInt8} (h : Part w B cap k l) (hk : k < cap) : ∃ v, w.cell? ⟨B, k, none⟩ = some v ∧ w.frozen? ⟨B, k, none⟩ = false := by
  obtain ⟨cur, h1, h2, h3⟩ := h
  exact ⟨cur[k]'(by omega), by simp [World.cell?, h1, h2, hk], by simp [World.frozen?, h1]⟩
theorem Part.next {w : World} {B cap k : Nat} {l : List UInt8} (h : Part w B cap k l) (hk : k < cap) (hl : l.length = k) (x : UInt8) : Part (w.setCell ⟨B, k, none⟩ (.int .u8 (x.toNat : Int))) B cap (k + 1) (l ++ [x]) := by
  obtain ⟨cur, h1, h2, h3⟩ := h
  refine ⟨_, heap_set w B k cur _ h1, by simpa using h2, ?_⟩
  rw [Array.toList_setIfInBounds, List.take_set, List.map_append, ← h3, List.take_succ_eq_append_getElem (by simp; omega)]
  have hk' : (List.take k cur.toList).length = k := by simp; omega
  rw [List.set_append_right _ _ (by omega), hk']
  simp [by8]
theorem Part.whole {w : World} {B cap : Nat} {l : List UInt8} (h : Part w B cap cap l) : Block w B l := by
  obtain ⟨cur, h1, h2, h3⟩ := h
  unfold Block
  rw [h1, ← h3, List.take_of_length_le (by simp; omega)]
theorem Part.of_owns {w : World} {B cap k base : Nat} {l : List UInt8} (h : w.ownsRow base 5 1 (.slice (some ⟨B, 0, none⟩) k cap) k (l.map by8)) : Part w B cap k l := by
  obtain ⟨_, h2⟩ := h
  rcases h2 with ⟨h2, _⟩ | ⟨g, c, cur, h3, _, h4, _, _, h5, h6⟩
  · cases h2
  · simp at h3
    obtain ⟨rfl, rfl⟩ := h3
    exact ⟨cur, h4, by simpa using h5, by simpa using h6⟩

theorem add_at (b off j : Nat) : (⟨b, off, none⟩ : Addr).add j = ⟨b, off + j, none⟩ := by
  simp [Addr.add]

/-- A row of which all from the k-th byte on is known. -/
def Rest (w : World) (B cap k : Nat) (l : List UInt8) : Prop := ∃ cur : Array Value, w.heap[B]? = some (.cells cur 5 (0, 0)) ∧ cur.size = cap ∧ cur.toList.drop k = l.map by8
theorem Rest.cell {w : World} {B cap k : Nat} {x : UInt8} {l : List UInt8} (h : Rest w B cap k (x :: l)) : w.cell? ⟨B, k, none⟩ = some (.int .u8 (x.toNat : Int)) ∧ w.frozen? ⟨B, k, none⟩ = false := by
  obtain ⟨cur, h1, h2, h3⟩ := h
  have hk : cur[k]? = some (by8 x) := by
    have : (cur.toList.drop k)[0]? = some (by8 x) := by rw [h3]; rfl
    simpa using this
  exact ⟨by simp [World.cell?, h1, hk, by8], by simp [World.frozen?, h1]⟩
theorem Rest.next {w : World} {B cap k : Nat} {x : UInt8} {l : List UInt8} (h : Rest w B cap k (x :: l)) (v : Value) : Rest (w.setCell ⟨B, k, none⟩ v) B cap (k + 1) l := by
  obtain ⟨cur, h1, h2, h3⟩ := h
  refine ⟨_, heap_set w B k cur _ h1, by simpa using h2, ?_⟩
  rw [Array.toList_setIfInBounds, List.drop_set, if_pos (by omega), ← List.drop_drop, h3]
  rfl
theorem Rest.of_block {w : World} {B : Nat} {l : List UInt8} (h : Block w B l) : Rest w B l.length 0 l := ⟨_, h, by simp, by simp⟩
theorem grown_set {w w' : World} {B k : Nat} (h : w.grownBy w' (some B)) (v : Value) : w.grownBy (w'.setCell ⟨B, k, none⟩ v) (some B) :=
  ⟨h.os, h.tape, h.output, by simpa [World.setCell] using h.size, fun j hj hne => by rw [Below.heap_setCell _ _ _ _ (fun e => hne (by rw [e]))]; exact h.block j hj hne⟩

end Go.Proofs.YtcpdnalmoaojlaaDoor

/-
  A text's bytes laid in new memory.
-/
namespace Go.Proofs.YtcpdnalmoaojlaaDoor
open Go.ChangeShapes Go.WideShapes Go.ChangeAt Go.RowKit

/-- The bytes of a text. -/
abbrev bl (s : ByteArray) : List UInt8 := s.data.toList
theorem bl_length (s : ByteArray) : (bl s).length = s.size := by rw [bl, Array.length_toList, ByteArray.size]

/-- The room, and the world, behind a text's bytes that are laid in new memory. -/
def room (w : World) (s : ByteArray) : Nat := grownCap w s.size 0 5
def laidRow (w : World) (s : ByteArray) : Obj := .cells (bytesRow s (room w s)) 5 ((bytesRow s (room w s)).size, (bytesRow s (room w s)).size + 1)
def bw (w : World) (s : ByteArray) : World := w.drew.alloc (laidRow w s)
theorem bw_size (w : World) (s : ByteArray) : (bw w s).heap.size = w.heap.size + 1 := by
  show (w.heap.push _).size = _
  simp
theorem run_bw (w : World) (s : ByteArray) : (convert 9 53 (.string s)).run Tryd.prog w = .ok (.slice (some ⟨w.heap.size, 0, none⟩) s.size (room w s)) (bw w s) :=
  run_bytes_of_string (P := Tryd.prog) w 9 53 5 s Tryd.underlying9 Tryd.underlying53 Tryd.underlying5
theorem below_bw {B : Nat} {W w : World} (h : Below B W w) (hB : B ≤ w.heap.size) (s : ByteArray) : Below B W (bw w s) := Below.alloc (Below.drew h) hB _

theorem bw_bytes (w : World) (s : ByteArray) : BytesAt (bw w s) w.heap.size 0 (bl s) := by
  intro i hi
  have h : (bw w s).heap[w.heap.size]? = some (laidRow w s) := by
    show (w.heap.push _)[w.heap.size]? = _
    simp
  have hs : i < s.size := by rw [← bl_length]; exact hi
  simp only [World.cell?, h, Nat.zero_add, laidRow]
  simp [bytesRow, hs, Array.getElem?_append]

theorem Block.size {w : World} {b : Nat} {l : List UInt8} (h : Block w b l) : b < w.heap.size := (Array.getElem?_eq_some_iff.1 h).1
theorem grown_below {w w' : World} {B k : Nat} (h : w.grownBy w' (some B)) (hk : k ≤ B) (hs : k ≤ w.heap.size) : Below k w w' := (Below.refl k w).grown h hs (fun j hj => by cases hj; exact hk)
theorem Block.grown {w w' : World} {b B : Nat} {l : List UInt8} (h : Block w b l) (hg : w.grownBy w' (some B)) (hne : b ≠ B) : Block w' b l := by
  unfold Block; rw [hg.block b h.size (by simpa using hne)]; exact h
theorem BytesAt.grown {w w' : World} {b B off : Nat} {l : List UInt8} (h : BytesAt w b off l) (hb : b < w.heap.size) (hg : w.grownBy w' (some B)) (hne : b ≠ B) : BytesAt w' b off l := fun i hi =>
  (World.cell?_of_block (a := ⟨b, off + i, none⟩) (hg.block b hb (by simpa using hne))).trans (h i hi)
end Go.Proofs.YtcpdnalmoaojlaaDoor

/-
  Bytes that the call has made.
-/
namespace Go.Proofs.YtcpdnalmoaojlaaDoor
open Go.ChangeShapes Go.WideShapes Go.ChangeAt Go.RowKit
set_option linter.unusedVariables false

theorem ret_int {k : IntKind} {a b : Int} (h : a = b) : Ending.returned (.int k a) = .returned (.int k b) := by rw [h]
/-- A slice of bytes that the call has made. -/
def Owns (w : World) (base : Nat) (v : Value) (l : List UInt8) : Prop := w.ownsRow base 5 1 v l.length (l.map by8)
theorem owns_nil (w : World) (base : Nat) : Owns w base (.slice none 0 0) [] := World.ownsRow_nil _ _ _ _
theorem Owns.block {w : World} {base : Nat} {v : Value} {l : List UInt8} (h : Owns w base v l) : ∀ k, v.ownBlock = some k → base ≤ k := by
  intro k hk
  obtain ⟨_, h2⟩ := h
  rcases h2 with ⟨rfl, _⟩ | ⟨g, c, cur, rfl, hg, _⟩
  · simp [Value.ownBlock] at hk
  · simp [Value.ownBlock] at hk; omega
theorem add_bytes {W : World} {b off : Nat} {l : List UInt8} (h : BytesAt W b off l) : ∀ j u, (l.map by8)[j]? = some u → W.cell? ((⟨b, off, none⟩ : Addr).add j) = some u := by
  intro j u hj
  have hj' : j < l.length := by
    have := (List.getElem?_eq_some_iff.1 hj).1
    simpa using this
  simp [hj', by8] at hj
  subst hj
  rw [add_at]; exact h j hj'
theorem by8_one (l : List UInt8) : ∀ u ∈ l.map by8, u.oneCell' = true := by
  intro u hu; simp only [List.mem_map] at hu; obtain ⟨x, _, rfl⟩ := hu; rfl

/-- 'append(out, news...)' as a law. -/
theorem wpList_add {w : World} {ops : Array Oper} {rest : List Oper} {o : Oper} {a : Act} {Q : Exit → Act → World → Prop} (hgd : o.guard = none) (s x : Operand)
    (ho : o.op = .call { callee := .builtin .append, args := #[s, x], argTypes := #[53, 53] }) (base : Nat) (v : Value) (l : List UInt8) (hs : a.eval s = v) (hown : Owns w base v l)
    (b off m c : Nat) (news : List UInt8) (hx : a.eval x = .slice (some ⟨b, off, none⟩) m c) (hm : news.length = m) (hnews : BytesAt w b off news) (hb : l.length + news.length ≤ 140737488355328) (hbase : base ≤ w.heap.size)
    (h : ∀ v' w', Owns w' base v' (l ++ news) → Below base w w' → (v' = .slice none 0 0 ↔ v = .slice none 0 0 ∧ m = 0) → wpList Tryd.prog ops Q rest (a.put o.dst v') w') : wpList Tryd.prog ops Q (o :: rest) a w := by
  obtain ⟨i0, hi, hz0, hz1, hz2⟩ := info_parts Tryd.info5
  refine wpList_append_own w hgd s x 53 ho base 5 i0 (.int .u8 0) 1 1 Tryd.underlying53 hi hz0 hz1 hz2 rfl (by decide) v l.length (l.map by8) hs hown ⟨b, off, none⟩ m c (news.map by8) hx (by rw [List.length_map, hm, Nat.mul_one]) (add_bytes hnews) (by8_one _) (by unfold maxLen; omega) (by omega) hbase ?_
  intro v' w' h1 h2 h3
  refine h v' w' ?_ ((Below.refl base w).grown h2 hbase hown.block) h3
  unfold Owns
  rw [List.length_append, List.map_append, hm]
  exact h1

theorem one_bytes (w : World) (x : UInt8) (v : Value) (hv : v = .int .u8 (x.toNat : Int)) (b : Nat) (hb : b = w.heap.size) : BytesAt (w.alloc (.cells #[v] 5)) b 0 [x] := by
  intro i hi
  obtain rfl : i = 0 := by simpa using hi
  subst hv hb
  simp
theorem two_bytes (w : World) (x y : UInt8) (u v : Value) (hu : u = .int .u8 (x.toNat : Int)) (hv : v = .int .u8 (y.toNat : Int)) (b : Nat) (hb : b = w.heap.size) : BytesAt (w.alloc (.cells #[u, v] 5)) b 0 [x, y] := by
  intro i hi
  subst hu hv hb
  match i, hi with
  | 0, _ => simp
  | 1, _ => simp
/-- A text of these bytes. -/
def str (l : List UInt8) : ByteArray := ⟨l.toArray⟩
theorem bl_str (l : List UInt8) : bl (str l) = l := by simp [bl, str]
theorem str_bl (t : ByteArray) : str (bl t) = t := by simp [bl, str]
theorem str_size (l : List UInt8) : (str l).size = l.length := by simp [str, ByteArray.size]

theorem Owns.below {w w' : World} {base : Nat} {v : Value} {l : List UInt8} (h : Owns w base v l) (hb : Below w.heap.size w w') : Owns w' base v l := by
  refine ⟨h.1, ?_⟩
  rcases h.2 with hn | ⟨g, c, cur, h3, h4, h5, h6⟩
  · exact .inl hn
  · exact .inr ⟨g, c, cur, h3, h4, by rw [hb.block g (Array.getElem?_eq_some_iff.1 h5).1]; exact h5, h6⟩
theorem Owns.shape {w : World} {base : Nat} {v : Value} {l : List UInt8} (h : Owns w base v l) : ∃ ao cp, v = .slice ao l.length cp := by
  rcases h.2 with ⟨rfl, hn⟩ | ⟨g, c, cur, h3, _⟩
  · exact ⟨none, 0, by rw [hn]⟩
  · exact ⟨_, _, h3⟩
theorem Owns.at {w : World} {base : Nat} {g off cp : Nat} {l : List UInt8} (h : Owns w base (.slice (some ⟨g, off, none⟩) l.length cp) l) : BytesAt w g off l := by
  rcases h.2 with ⟨h2, hn⟩ | ⟨g', c, cur, h3, h4, h5, h6, h7, h8, h9⟩
  · cases h2
  · simp at h3
    obtain ⟨⟨rfl, rfl⟩, rfl⟩ := h3
    intro i hi
    have e : (cur.toList.take (l.length * 1))[i]? = some (by8 l[i]) := by rw [h9]; simp [hi]
    rw [List.getElem?_take_of_lt (by omega)] at e
    have e' : cur[i]? = some (by8 l[i]) := by simpa using e
    rw [Nat.zero_add]
    simp [World.cell?, h5, e', by8]
theorem Owns.some {w : World} {base : Nat} {x : Addr} {n cp : Nat} {l : List UInt8} (h : Owns w base (.slice (some x) n cp) l) : ∃ g, x = ⟨g, 0, none⟩ ∧ n = l.length ∧ base ≤ g ∧ g < w.heap.size ∧ n ≤ cp := by
  rcases h.2 with ⟨h2, hn⟩ | ⟨g', c, cur, h3, h4, h5, h6, _⟩
  · cases h2
  · simp at h3
    obtain ⟨rfl, rfl, rfl⟩ := h3
    exact ⟨g', rfl, rfl, h4, (Array.getElem?_eq_some_iff.1 h5).1, h6⟩
theorem Owns.none {w : World} {base : Nat} {n cp : Nat} {l : List UInt8} (h : Owns w base (.slice none n cp) l) : l = [] ∧ n = 0 ∧ cp = 0 := by
  rcases h.2 with ⟨h2, hn⟩ | ⟨g', c, cur, h3, _⟩
  · simp at h2
    exact ⟨List.eq_nil_of_length_eq_zero hn, h2.1, h2.2⟩
  · cases h3
/-- 'string(b)' of bytes that the call has made. -/
theorem owns_text {w : World} {base : Nat} {ao : Option Addr} {cp : Nat} {l : List UInt8} (h : Owns w base (.slice ao l.length cp) l) : (convert 53 9 (.slice ao l.length cp)).run Tryd.prog w = .ok (.string (str l)) w := by
  cases ao with
  | none =>
    obtain ⟨rfl, _, rfl⟩ := h.none
    exact run_convert_bytes_nil (P := Tryd.prog) (w := w) 53 5 Tryd.underlying53 Tryd.underlying5 0 0 9 Tryd.underlying9
  | some x =>
    obtain ⟨g, rfl, _, _, _, _⟩ := h.some
    exact run_convert_bytes_back (P := Tryd.prog) w 53 9 5 ⟨g, 0, none⟩ cp l Tryd.underlying53 Tryd.underlying5 Tryd.underlying9 (fun j hj => by rw [add_at]; exact h.at j hj)

end Go.Proofs.YtcpdnalmoaojlaaDoor

/-
  Pieces of rows, in their order.
-/
namespace Go.Proofs.YtcpdnalmoaojlaaDoor
set_option linter.unusedVariables false

/-- A run of rows that are not free. -/
structure Pc where
  at' : Nat
  n : Nat
  count : Nat
  tag : Nat
  st : Nat
def Pc.stop (p : Pc) : Nat := p.at' + p.n
/-- Pieces in their order, from one row up to another. -/
def Fits : Nat → List Pc → Nat → Prop
  | a, [], b => a ≤ b
  | a, p :: l, b => a ≤ p.at' ∧ 1 ≤ p.n ∧ Fits p.stop l b
theorem Fits.le {a b : Nat} {l : List Pc} (h : Fits a l b) : a ≤ b := by
  induction l generalizing a with
  | nil => exact h
  | cons p l ih =>
    have := ih h.2.2
    have h1 := h.1
    unfold Pc.stop at this
    omega
theorem fits_append {a b : Nat} {l m : List Pc} : Fits a (l ++ m) b ↔ ∃ c, Fits a l c ∧ Fits c m b := by
  induction l generalizing a with
  | nil =>
    constructor
    · intro h; exact ⟨a, Nat.le_refl _, h⟩
    · rintro ⟨c, h1, h2⟩
      have h1' : a ≤ c := h1
      show Fits a m b
      cases m with
      | nil => exact Nat.le_trans h1' h2
      | cons p m => exact ⟨Nat.le_trans h1' h2.1, h2.2⟩
  | cons p l ih =>
    constructor
    · rintro ⟨h1, h2, h3⟩
      obtain ⟨c, h4, h5⟩ := ih.1 h3
      exact ⟨c, ⟨h1, h2, h4⟩, h5⟩
    · rintro ⟨c, ⟨h1, h2, h3⟩, h4⟩
      exact ⟨h1, h2, ih.2 ⟨c, h3, h4⟩⟩
theorem Fits.mono {a b a' b' : Nat} {l : List Pc} (h : Fits a l b) (ha : a' ≤ a) (hb : b ≤ b') : Fits a' l b' := by
  induction l generalizing a a' with
  | nil => exact Nat.le_trans ha (Nat.le_trans h hb)
  | cons p l ih => exact ⟨Nat.le_trans ha h.1, h.2.1, ih h.2.2 (Nat.le_refl _)⟩
theorem fits_mem {a b : Nat} {l : List Pc} (h : Fits a l b) : ∀ p ∈ l, a ≤ p.at' ∧ 1 ≤ p.n ∧ p.stop ≤ b := by
  induction l generalizing a with
  | nil => intro p hp; cases hp
  | cons q l ih =>
    intro p hp
    rcases List.mem_cons.1 hp with rfl | hp
    · exact ⟨h.1, h.2.1, h.2.2.le⟩
    · obtain ⟨h1, h2, h3⟩ := ih h.2.2 p hp
      have := h.1
      unfold Pc.stop at h1
      exact ⟨by omega, h2, h3⟩
theorem fits_cut {a b : Nat} {l r : List Pc} {p : Pc} : Fits a (l ++ p :: r) b ↔ Fits a l p.at' ∧ 1 ≤ p.n ∧ Fits p.stop r b := by
  rw [fits_append]
  constructor
  · rintro ⟨c, h1, h2, h3, h4⟩
    exact ⟨h1.mono (Nat.le_refl _) h2, h3, h4⟩
  · rintro ⟨h1, h2, h3⟩
    exact ⟨p.at', h1, Nat.le_refl _, h2, h3⟩
/-- The first row and the one behind the last one of a list. -/
def fstL : List Pc → Nat
  | [] => 0
  | p :: _ => p.at'
def lstL : List Pc → Nat
  | [] => 0
  | [p] => p.stop
  | _ :: q :: l => lstL (q :: l)
theorem fstL_app (l m : List Pc) (h : l ≠ []) : fstL (l ++ m) = fstL l := by
  cases l with
  | nil => exact absurd rfl h
  | cons p l => rfl
theorem lstL_app (l m : List Pc) (h : m ≠ []) : lstL (l ++ m) = lstL m := by
  induction l with
  | nil => rfl
  | cons p l ih =>
    cases l with
    | nil =>
      cases m with
      | nil => exact absurd rfl h
      | cons q m => rfl
    | cons q l => exact ih
theorem lstL_end (l : List Pc) (p : Pc) : lstL (l ++ [p]) = p.stop := by rw [lstL_app _ _ (by simp)]; rfl
theorem fits_ends {l : List Pc} {a b : Nat} (h : l ≠ []) (hf : Fits a l b) : a ≤ fstL l ∧ fstL l < lstL l ∧ lstL l ≤ b := by
  induction l generalizing a with
  | nil => exact absurd rfl h
  | cons p l ih =>
    have h1 := hf.1
    have h2 := hf.2.1
    have hst : p.stop = p.at' + p.n := rfl
    cases l with
    | nil =>
      have h3 : p.stop ≤ b := hf.2.2
      exact ⟨h1, by show p.at' < p.stop; omega, h3⟩
    | cons q l =>
      obtain ⟨g1, g2, g3⟩ := ih (by simp) hf.2.2
      refine ⟨h1, ?_, g3⟩
      show p.at' < lstL (q :: l)
      have : fstL (q :: l) = q.at' := rfl
      omega
/-- No hole between two pieces is wider than that. -/
def Wide (l : List Pc) (wd : Int) : Prop := ∀ p q m k, l = m ++ p :: q :: k → (q.at' : Int) - (p.stop : Int) ≤ wd
theorem wide_nil (wd : Int) : Wide [] wd := fun p q m k e => by simp at e
theorem wide_join {l r : List Pc} {x : Pc} {wl wr wd : Int} (hl : Wide l wl) (hr : Wide r wr) (h1 : l ≠ [] → wl ≤ wd ∧ (x.at' : Int) - (lstL l : Int) ≤ wd) (h2 : r ≠ [] → wr ≤ wd ∧ (fstL r : Int) - (x.stop : Int) ≤ wd) : Wide (l ++ x :: r) wd := by
  intro p q m k e
  rcases List.append_eq_append_iff.1 e with ⟨c, e1, e2⟩ | ⟨c, e1, e2⟩
  · cases c with
    | nil =>
      simp only [List.nil_append, List.cons.injEq] at e2
      obtain ⟨rfl, e2⟩ := e2
      have := (h2 (by rw [e2]; simp)).2
      rw [e2] at this
      exact this
    | cons y c =>
      simp only [List.cons_append, List.cons.injEq] at e2
      have h3 := hr p q c k e2.2
      have := (h2 (by rw [e2.2]; simp)).1
      omega
  · cases c with
    | nil =>
      simp only [List.nil_append, List.cons.injEq] at e2
      obtain ⟨rfl, e2⟩ := e2
      have := (h2 (by rw [← e2]; simp)).2
      rw [← e2] at this
      exact this
    | cons y c =>
      simp only [List.cons_append, List.cons.injEq] at e2
      obtain ⟨rfl, e2⟩ := e2
      cases c with
      | nil =>
        simp only [List.nil_append, List.cons.injEq] at e2
        obtain ⟨rfl, _⟩ := e2
        have := (h1 (by rw [e1]; simp)).2
        rw [e1, lstL_end] at this
        exact this
      | cons z c =>
        simp only [List.cons_append, List.cons.injEq] at e2
        obtain ⟨rfl, e2⟩ := e2
        have h3 := hl p q m c e1
        have := (h1 (by rw [e1]; simp)).1
        omega
/-- Where the first n free rows begin. -/
def gapL : List Pc → Nat → Nat → Nat → Int
  | [], n, a, b => if (n : Int) > (b : Int) - (a : Int) then -1 else a
  | p :: l, n, a, b => if (n : Int) > (p.at' : Int) - (a : Int) then gapL l n p.stop b else a
theorem gapL_append (l m : List Pc) (p : Pc) (n a b : Nat) : gapL (l ++ p :: m) n a b = if 0 ≤ gapL l n a p.at' then gapL l n a p.at' else gapL m n p.stop b := by
  induction l generalizing a with
  | nil =>
    show gapL (p :: m) n a b = _
    simp only [gapL]
    split
    · rw [if_neg (by omega)]
    · rw [if_pos (by omega)]
  | cons q l ih =>
    show gapL (q :: (l ++ p :: m)) n a b = _
    simp only [gapL]
    split
    · exact ih q.stop
    · rw [if_pos (by omega)]
theorem gapL_none {l : List Pc} {n a b : Nat} (hl : Fits a l b) (hn : l = [] → (n : Int) > (b : Int) - (a : Int)) (h1 : ∀ p m, l = p :: m → (n : Int) > (p.at' : Int) - (a : Int)) (h2 : ∀ p m, l = m ++ [p] → (n : Int) > (b : Int) - (p.stop : Int)) (h3 : ∀ p q m k, l = m ++ p :: q :: k → (n : Int) > (q.at' : Int) - (p.stop : Int)) : gapL l n a b = -1 := by
  induction l generalizing a with
  | nil => simp only [gapL]; rw [if_pos (hn rfl)]
  | cons p l ih =>
    simp only [gapL]
    rw [if_pos (h1 p l rfl)]
    refine ih hl.2.2 (fun e => ?_) (fun q m e => ?_) (fun q m e => ?_) (fun q r m k e => ?_)
    · subst e; exact h2 p [] rfl
    · subst e; exact h3 p q [] m rfl
    · subst e; exact h2 q (p :: m) rfl
    · subst e; exact h3 q r (p :: m) k rfl
theorem gapL_prune {l : List Pc} {n a b : Nat} {wd : Int} (hf : Fits a l b) (hne : l ≠ []) (hw : Wide l wd) (h1 : (n : Int) > wd) (h2 : (n : Int) > (fstL l : Int) - (a : Int)) (h3 : (n : Int) > (b : Int) - (lstL l : Int)) : gapL l n a b = -1 := by
  refine gapL_none hf (fun e => absurd e hne) (fun p m e => ?_) (fun p m e => ?_) (fun p q m k e => ?_)
  · subst e; exact h2
  · subst e; rw [lstL_end] at h3; exact h3
  · have := hw p q m k e; omega
/-- What gap tells: rows that are free. -/
theorem gapL_ok {l : List Pc} {n a b : Nat} (hn : 1 ≤ n) (hf : Fits a l b) (h : 0 ≤ gapL l n a b) : ∃ m k, ∃ g : Nat, l = m ++ k ∧ gapL l n a b = (g : Int) ∧ Fits a m g ∧ Fits (g + n) k b := by
  induction l generalizing a with
  | nil =>
    simp only [gapL] at h ⊢
    split at h
    · omega
    · rename_i hc
      rw [if_neg hc]
      exact ⟨[], [], a, rfl, rfl, Nat.le_refl _, by show a + n ≤ b; omega⟩
  | cons p l ih =>
    simp only [gapL] at h ⊢
    split at h
    · rename_i hc
      rw [if_pos hc]
      obtain ⟨m, k, g, h1, h2, h3, h4⟩ := ih hf.2.2 h
      exact ⟨p :: m, k, g, by rw [h1]; rfl, h2, ⟨hf.1, hf.2.1, h3⟩, h4⟩
    · rename_i hc
      rw [if_neg hc]
      exact ⟨[], p :: l, a, rfl, rfl, Nat.le_refl _, by omega, hf.2.1, hf.2.2⟩
theorem fits_lt {a b : Nat} {l m : List Pc} {q : Pc} (h : Fits a (l ++ q :: m) b) : (∀ p ∈ l, p.at' < q.at') ∧ ∀ p ∈ m, q.at' < p.at' := by
  obtain ⟨c, h1, h2, h3, h4⟩ := fits_append.1 h
  refine ⟨fun p hp => ?_, fun p hp => ?_⟩
  · have := fits_mem h1 p hp; unfold Pc.stop at this; omega
  · have := fits_mem h4 p hp; unfold Pc.stop at this; omega
/-- with. -/
def putL : List Pc → Pc → List Pc
  | [], p => [p]
  | q :: l, p => if p.at' < q.at' then p :: q :: l else if q.at' < p.at' then q :: putL l p else p :: l
theorem putL_append (l m : List Pc) (q p : Pc) (h : ∀ x ∈ l, x.at' < q.at') : putL (l ++ q :: m) p = if p.at' < q.at' then putL l p ++ q :: m else if q.at' < p.at' then l ++ q :: putL m p else l ++ p :: m := by
  induction l with
  | nil => simp only [List.nil_append, putL]; rfl
  | cons x l ih =>
    have hx := h x (by simp)
    have ih := ih (fun y hy => h y (List.mem_cons_of_mem _ hy))
    simp only [List.cons_append, putL, ih]
    by_cases h1 : p.at' < x.at'
    · rw [if_pos h1, if_pos (by omega), if_pos h1]; rfl
    · rw [if_neg h1]
      by_cases h2 : x.at' < p.at'
      · rw [if_pos h2]
        by_cases h3 : p.at' < q.at'
        · simp only [if_pos h3, if_neg h1, if_pos h2]; rfl
        · simp only [if_neg h3]
          by_cases h4 : q.at' < p.at'
          · simp only [if_pos h4]
          · simp only [if_neg h4]
      · simp only [if_neg h2, if_pos (show p.at' < q.at' by omega), if_neg h1]; rfl
theorem putL_new {m k : List Pc} {p : Pc} {a b : Nat} (h1 : Fits a m p.at') (h2 : Fits p.stop k b) (hn : 1 ≤ p.n) : putL (m ++ k) p = m ++ p :: k := by
  have hk : putL k p = p :: k := by
    cases k with
    | nil => rfl
    | cons q k =>
      have := h2.1
      unfold Pc.stop at this
      simp only [putL]
      rw [if_pos (by omega)]
  induction m generalizing a with
  | nil => exact hk
  | cons q m ih =>
    have := (fits_mem h1 q (by simp))
    unfold Pc.stop at this
    simp only [List.cons_append, putL]
    rw [if_neg (by omega), if_pos (by omega), ih h1.2.2]
theorem putL_same {m k : List Pc} {p q : Pc} {a b : Nat} (h : Fits a (m ++ q :: k) b) (he : p.at' = q.at') : putL (m ++ q :: k) p = m ++ p :: k := by
  rw [putL_append _ _ _ _ (fits_lt h).1, if_neg (by omega), if_neg (by omega)]
theorem fits_inj {l : List Pc} {a b : Nat} (hf : Fits a l b) : ∀ p ∈ l, ∀ q ∈ l, p.at' = q.at' → p = q := by
  intro p hp q hq e
  obtain ⟨m, k, rfl⟩ := List.append_of_mem hp
  obtain ⟨g1, g2⟩ := fits_lt hf
  rcases List.mem_append.1 hq with h | h
  · have := g1 q h; omega
  · rcases List.mem_cons.1 h with rfl | h
    · rfl
    · have := g2 q h; omega
def outL (l : List Pc) (a : Nat) : List Pc := l.filter (fun p => p.at' != a)
theorem outL_none {l : List Pc} {a : Nat} (h : ∀ p ∈ l, p.at' ≠ a) : outL l a = l := by
  unfold outL
  rw [List.filter_eq_self]
  intro p hp
  simpa using h p hp
theorem fits_out {a b : Nat} {l m : List Pc} {q : Pc} (h : Fits a (l ++ q :: m) b) : Fits a (l ++ m) b := by
  obtain ⟨c, h1, h2, h3, h4⟩ := fits_append.1 h
  refine fits_append.2 ⟨c, h1, h4.mono ?_ (Nat.le_refl _)⟩
  unfold Pc.stop; omega
theorem fits_put {a b : Nat} {l m : List Pc} {q p : Pc} (h : Fits a (l ++ q :: m) b) (h1 : p.at' = q.at') (h2 : p.n = q.n) : Fits a (l ++ p :: m) b := by
  obtain ⟨c, h3, h4, h5, h6⟩ := fits_append.1 h
  exact fits_append.2 ⟨c, h3, by omega, by omega, by unfold Pc.stop at h6 ⊢; rw [h1, h2]; exact h6⟩
theorem outL_mid {l m : List Pc} {q : Pc} {a b : Nat} (h : Fits a (l ++ q :: m) b) : outL (l ++ q :: m) q.at' = l ++ m := by
  obtain ⟨g1, g2⟩ := fits_lt h
  unfold outL
  rw [List.filter_append, List.filter_cons_of_neg (by simp)]
  rw [show l.filter (fun p => p.at' != q.at') = l from outL_none (fun p hp => by have := g1 p hp; omega), show m.filter (fun p => p.at' != q.at') = m from outL_none (fun p hp => by have := g2 p hp; omega)]
theorem fits_len {l : List Pc} {a b : Nat} (h : Fits a l b) : l.length + a ≤ b := by
  induction l generalizing a with
  | nil => have h' : a ≤ b := h; simpa using h'
  | cons p l ih =>
    have := ih h.2.2
    have h1 := h.1
    have h2 := h.2.1
    unfold Pc.stop at this
    simp only [List.length_cons]
    omega
/-- How many rows pieces have. -/
def rowsL (f : Pc → Bool) : List Pc → Nat
  | [] => 0
  | p :: l => (if f p then p.n else 0) + rowsL f l
theorem rowsL_append (f : Pc → Bool) (l m : List Pc) : rowsL f (l ++ m) = rowsL f l + rowsL f m := by
  induction l with
  | nil => simp [rowsL]
  | cons p l ih => simp only [List.cons_append, rowsL, ih]; omega
def isHeld (p : Pc) : Bool := p.st == 2
def isUsed (p : Pc) : Bool := p.st != 2
theorem rowsL_all {l : List Pc} {a b : Nat} (h : Fits a l b) : rowsL isUsed l + rowsL isHeld l + a ≤ b := by
  induction l generalizing a with
  | nil => have h' : a ≤ b := h; simpa [rowsL] using h'
  | cons p l ih =>
    have := ih h.2.2
    have h1 := h.1
    simp only [rowsL, isUsed, isHeld] at this ⊢
    unfold Pc.stop at this
    by_cases hs : p.st = 2
    · simp only [hs, bne_self_eq_false, beq_self_eq_true, if_true, Bool.false_eq_true, if_false]; omega
    · have b1 : (p.st != 2) = true := by simpa using hs
      have b2 : (p.st == 2) = false := by simpa using hs
      simp only [b1, b2, if_true, Bool.false_eq_true, if_false]; omega
end Go.Proofs.YtcpdnalmoaojlaaDoor

/-
  Numbers as bytes, the lowest one first; runs of them.
-/
namespace Go.Proofs.YtcpdnalmoaojlaaDoor
set_option linter.unusedVariables false

/-- The number that bytes are, the lowest one first. -/
def leN : List UInt8 → Nat
  | [] => 0
  | x :: l => x.toNat + 256 * leN l
theorem leN_lt (l : List UInt8) : leN l < 256 ^ l.length := by
  induction l with
  | nil => simp [leN]
  | cons x l ih =>
    have := x.toNat_lt
    simp only [leN, List.length_cons, Nat.pow_succ]
    omega
theorem leN_snoc (l : List UInt8) (x : UInt8) : leN (l ++ [x]) = leN l + x.toNat * 256 ^ l.length := by
  induction l with
  | nil => simp [leN]
  | cons y l ih =>
    simp only [List.cons_append, leN, ih, List.length_cons, Nat.pow_succ]
    rw [Nat.mul_add, ← Nat.mul_assoc, Nat.mul_comm 256 x.toNat, Nat.mul_assoc, Nat.mul_comm 256 (256 ^ l.length)]
    omega
/-- So many bytes of a number. -/
def toLe (n : Nat) : Nat → List UInt8
  | 0 => []
  | k + 1 => toLe n k ++ [UInt8.ofNat (n / 256 ^ k)]
theorem toLe_length (n k : Nat) : (toLe n k).length = k := by
  induction k with
  | zero => rfl
  | succ k ih => simp [toLe, ih]
theorem leN_toLe (n k : Nat) : leN (toLe n k) = n % 256 ^ k := by
  induction k with
  | zero => simp [toLe, leN, Nat.mod_one]
  | succ k ih =>
    rw [toLe, leN_snoc, ih, toLe_length]
    have : (UInt8.ofNat (n / 256 ^ k)).toNat = n / 256 ^ k % 256 := by simp
    rw [this, Nat.pow_succ, Nat.mod_mul, Nat.mul_comm]
theorem leN_inj {l m : List UInt8} (hl : l.length = m.length) (h : leN l = leN m) : l = m := by
  induction l generalizing m with
  | nil => exact (List.eq_nil_of_length_eq_zero hl.symm).symm
  | cons x l ih =>
    cases m with
    | nil => simp at hl
    | cons y m =>
      simp only [leN] at h
      have h1 := x.toNat_lt
      have h2 := y.toNat_lt
      have e : x.toNat = y.toNat := by omega
      have e2 : leN l = leN m := by omega
      rw [ih (by simpa using hl) e2, UInt8.toNat_inj.1 e]
/-- A run's bytes. -/
def runB (p : Pc) : List UInt8 := toLe p.at' 4 ++ toLe p.n 4 ++ toLe p.count 2 ++ toLe p.tag 8
theorem runB_length (p : Pc) : (runB p).length = 18 := by simp [runB, toLe_length]
/-- The run that bytes are. -/
def runP (b : List UInt8) : Pc := ⟨leN (b.take 4), leN ((b.drop 4).take 4), leN ((b.drop 8).take 2), leN (b.drop 10), 1⟩
def spB (rows : Nat) (l : List Pc) : List UInt8 := toLe rows 4 ++ (l.map runB).flatten
/-- What Load reads: pieces one behind the other. -/
def loadL : Nat → List UInt8 → Nat → Nat → Option (List Pc)
  | 0, b, stop, rows => if b.length = 0 then some [] else none
  | k + 1, b, stop, rows => if b.length = 0 then some [] else
      let p := runP (b.take 18)
      if p.at' < stop ∨ p.n < 1 ∨ rows < p.stop ∨ p.count < 1 then none
      else (loadL k (b.drop 18) p.stop rows).map (p :: ·)
theorem leN_take_lt (b : List UInt8) (k : Nat) : leN (b.take k) < 256 ^ k := by
  have h := leN_lt (b.take k)
  have : (b.take k).length ≤ k := by rw [List.length_take]; omega
  exact Nat.lt_of_lt_of_le h (Nat.pow_le_pow_right (by omega) this)
theorem runP_bounds (b : List UInt8) (h : b.length = 18) : (runP b).at' < 4294967296 ∧ (runP b).n < 4294967296 ∧ (runP b).count < 65536 ∧ (runP b).tag < 18446744073709551616 ∧ (runP b).st = 1 := by
  refine ⟨leN_take_lt _ 4, leN_take_lt _ 4, leN_take_lt _ 2, ?_, rfl⟩
  have h1 := leN_lt (b.drop 10)
  rw [List.length_drop, h] at h1
  exact h1
/-- A piece that is as it may be. -/
def Pc.Ok (p : Pc) : Prop := (p.st ≠ 2 → 1 ≤ p.count) ∧ p.count ≤ 65535 ∧ p.tag < 18446744073709551616 ∧ p.st ≤ 2
theorem loadL_fits {k : Nat} {b : List UInt8} {stop rows : Nat} {l : List Pc} (hs : stop ≤ rows) (hb : b.length = 18 * k) (h : loadL k b stop rows = some l) : Fits stop l rows ∧ ∀ p ∈ l, p.Ok ∧ p.st = 1 := by
  induction k generalizing b stop l with
  | zero =>
    unfold loadL at h
    rw [if_pos (by omega)] at h
    cases h
    exact ⟨hs, fun p hp => by cases hp⟩
  | succ k ih =>
    simp only [loadL] at h
    rw [if_neg (by omega)] at h
    have hl : (b.take 18).length = 18 := by rw [List.length_take]; omega
    obtain ⟨b1, b2, b3, b4, b5⟩ := runP_bounds (b.take 18) hl
    split at h
    · cases h
    · rename_i hc
      simp only [not_or, Nat.not_lt] at hc
      obtain ⟨c1, c2, c3, c4⟩ := hc
      match h2 : loadL k (b.drop 18) (runP (b.take 18)).stop rows with
      | none => rw [h2] at h; cases h
      | some m =>
        rw [h2] at h
        cases h
        obtain ⟨g1, g2⟩ := ih (by omega) (by rw [List.length_drop]; omega) h2
        refine ⟨⟨c1, c2, g1⟩, fun p hp => ?_⟩
        rcases List.mem_cons.1 hp with rfl | hp
        · exact ⟨⟨fun _ => c4, by omega, b4, by omega⟩, b5⟩
        · exact g2 p hp
def Pc.keep (p : Pc) : Pc := { p with st := 1 }
theorem take_mid {α : Type} (a b : List α) (k : Nat) (h : a.length = k) : (a ++ b).take k = a := by rw [← h]; exact List.take_left
theorem drop_mid' {α : Type} (a b : List α) (k : Nat) (h : a.length = k) : (a ++ b).drop k = b := by rw [← h]; exact List.drop_left
theorem runP_runB (p : Pc) (h1 : p.at' < 4294967296) (h2 : p.n < 4294967296) (h3 : p.count ≤ 65535) (h4 : p.tag < 18446744073709551616) : runP (runB p) = p.keep := by
  have l1 := toLe_length p.at' 4
  have l2 := toLe_length p.n 4
  have l3 := toLe_length p.count 2
  have l4 := toLe_length p.tag 8
  have e0 : (runB p).take 4 = toLe p.at' 4 := by unfold runB; rw [List.append_assoc, List.append_assoc, take_mid _ _ 4 l1]
  have d4 : (runB p).drop 4 = toLe p.n 4 ++ (toLe p.count 2 ++ toLe p.tag 8) := by unfold runB; rw [List.append_assoc, List.append_assoc, drop_mid' _ _ 4 l1]
  have d8 : (runB p).drop 8 = toLe p.count 2 ++ toLe p.tag 8 := by rw [show (8 : Nat) = 4 + 4 from rfl, ← List.drop_drop, d4, drop_mid' _ _ 4 l2]
  have d10 : (runB p).drop 10 = toLe p.tag 8 := by rw [show (10 : Nat) = 8 + 2 from rfl, ← List.drop_drop, d8, drop_mid' _ _ 2 l3]
  unfold runP
  rw [e0, d4, d8, d10, take_mid _ _ 4 l2, take_mid _ _ 2 l3, leN_toLe, leN_toLe, leN_toLe, leN_toLe]
  rw [Nat.mod_eq_of_lt (a := p.at') (by simpa using h1), Nat.mod_eq_of_lt (a := p.n) (by simpa using h2), Nat.mod_eq_of_lt (a := p.count) (by simp; omega), Nat.mod_eq_of_lt (a := p.tag) (by simpa using h4)]
  rfl
theorem flat_length (l : List Pc) : ((l.map runB).flatten).length = 18 * l.length := by
  induction l with
  | nil => rfl
  | cons p l ih => simp only [List.map_cons, List.flatten_cons, List.length_append, ih, runB_length, List.length_cons]; omega
theorem loadL_back {l : List Pc} {stop rows : Nat} (hr : rows < 4294967296) (hf : Fits stop l rows) (hok : ∀ p ∈ l, p.Ok ∧ p.st ≠ 2) : loadL l.length (l.map runB).flatten stop rows = some (l.map Pc.keep) := by
  induction l generalizing stop with
  | nil => simp [loadL]
  | cons p l ih =>
    obtain ⟨f1, f2, f3⟩ := hf
    obtain ⟨⟨o1, o2, o3, o4⟩, o5⟩ := hok p (by simp)
    have o1 := o1 o5
    have hle := f3.le
    have hst : p.stop = p.at' + p.n := rfl
    have e := runP_runB p (by omega) (by omega) o2 o3
    simp only [List.length_cons, List.map_cons, List.flatten_cons, loadL]
    rw [if_neg (by rw [List.length_append, runB_length]; omega), take_mid _ _ 18 (runB_length p), drop_mid' _ _ 18 (runB_length p), e]
    have k1 : p.keep.at' = p.at' := rfl
    have k2 : p.keep.n = p.n := rfl
    have k3 : p.keep.count = p.count := rfl
    have k4 : p.keep.stop = p.stop := rfl
    rw [if_neg (by rw [k1, k2, k3, k4]; omega), k4, ih f3 (fun q hq => hok q (List.mem_cons_of_mem _ hq))]
    rfl
end Go.Proofs.YtcpdnalmoaojlaaDoor
