/-
  Bytes in memory, bytes that the call has made, texts.
-/
import Derived.Test.YtpggbpbibbhepaaDoorShelf
import Derived.WalkKit
import Derived.ProofKit
import Derived.OpenShut
import Derived.Laws.IdiomStrings
import Derived.Laws.BytesArg
namespace Go.Proofs.YtpggbpbibbhepaaDoor
open Go.ChangeShapes Go.WideShapes Go.ChangeAt Go.RowKit
set_option linter.unusedVariables false

theorem Tryd.info5 : (Tryd.prog.info? 5).map (fun i => (i.zero, i.size, i.bytes)) = some (some (.int .u8 0), 1, 1) := by kernel_rfl

/-- A byte as a value. -/
def by8 (b : UInt8) : Value := .int .u8 (b.toNat : Int)
/-- Bytes that lie somewhere. -/
def BytesAt (w : World) (b off : Nat) (l : List UInt8) : Prop := ∀ i (hi : i < l.length), w.cell? ⟨b, off + i, none⟩ = some (.int .u8 (l[i].toNat))
/-- A block of bytes, whole. -/
def Block (w : World) (b : Nat) (l : List UInt8) : Prop := w.heap[b]? = some (.cells (l.map by8).toArray 5 (0, 0))

theorem Block.at {w : World} {b : Nat} {l : List UInt8} (h : Block w b l) (i : Nat) (hi : i < l.length) : w.cell? ⟨b, i, none⟩ = some (.int .u8 (l[i].toNat)) := by
  unfold Block at h
  simp [World.cell?, h, hi, by8]
theorem Block.thaw {w : World} {b : Nat} {l : List UInt8} (h : Block w b l) (i : Nat) : w.frozen? ⟨b, i, none⟩ = false := by
  unfold Block at h
  simp [World.frozen?, h]
theorem Block.bytes {w : World} {b : Nat} {l m : List UInt8} (h : Block w b (l ++ m)) : BytesAt w b 0 l := by
  intro i hi
  have := h.at i (by simp; omega)
  rw [Nat.zero_add, this, List.getElem_append_left hi]
theorem Block.below {w w' : World} {b B : Nat} {l : List UInt8} (h : Block w b l) (hb : Below B w w') (hB : b < B) : Block w' b l := by
  unfold Block; rw [hb.block b hB]; exact h
theorem BytesAt.below {w w' : World} {b B off : Nat} {l : List UInt8} (h : BytesAt w b off l) (hb : Below B w w') (hB : b < B) : BytesAt w' b off l := fun i hi => (hb.cell (p := ⟨b, off + i, none⟩) hB).trans (h i hi)

/-- What a store does to the block that it goes to. -/
theorem heap_set (w : World) (B k : Nat) (cur : Array Value) (v : Value) (h : w.heap[B]? = some (.cells cur 5 (0, 0))) :
    (w.setCell ⟨B, k, none⟩ v).heap[B]? = some (.cells (cur.setIfInBounds k v) 5 (0, 0)) := by
  simp [World.setCell, Array.getElem?_modify, h]

/-- A row whose first k bytes are known. -/
def Part (w : World) (B cap k : Nat) (l : List UInt8) : Prop := ∃ cur : Array Value, w.heap[B]? = some (.cells cur 5 (0, 0)) ∧ cur.size = cap ∧ cur.toList.take k = l.map by8
theorem Part.cell {w : World} {B cap k : Nat} {l : List UInt8} (h : Part w B cap k l) (hk : k < cap) : ∃ v, w.cell? ⟨B, k, none⟩ = some v ∧ w.frozen? ⟨B, k, none⟩ = false := by
  obtain ⟨cur, h1, h2, h3⟩ := h
  exact ⟨cur[k]'(by omega), by simp [World.cell?, h1, h2, hk], by simp [World.frozen?, h1]⟩
theorem Part.next {w : World} {B cap k : Nat} {l : List UInt8} (h : Part w B cap k l) (hk : k < cap) (hl : l.length = k) (x : UInt8) : Part (w.setCell ⟨B, k, none⟩ (.int .u8 (x.toNat : Int))) B cap (k + 1) (l ++ [x]) := by
  obtain ⟨cur, h1, h2, h3⟩ := h
  refine ⟨_, heap_set w B k cur _ h1, by simpa using h2, ?_⟩
  rw [Array.toList_setIfInBounds, List.take_set, List.map_append, ← h3, List.take_succ_eq_append_getElem (by simp; omega)]
  have hk' : (List.take k cur.toList).length = k := by simp; omega
  rw [List.set_append_right _ _ (by omega), hk']
  simp [by8]
theorem Part.whole {w : World} {B cap : Nat} {l : List UInt8} (h : Part w B cap cap l) : Block w B l := by
  obtain ⟨cur, h1, h2, h3⟩ := h
  unfold Block
  rw [h1, ← h3, List.take_of_length_le (by simp; omega)]
theorem Part.of_owns {w : World} {B cap k base : Nat} {l : List UInt8} (h : w.ownsRow base 5 1 (.slice (some ⟨B, 0, none⟩) k cap) k (l.map by8)) : Part w B cap k l := by
  obtain ⟨_, h2⟩ := h
  rcases h2 with ⟨h2, _⟩ | ⟨g, c, cur, h3, _, h4, _, _, h5, h6⟩
  · cases h2
  · simp at h3
    obtain ⟨rfl, rfl⟩ := h3
    exact ⟨cur, h4, by simpa using h5, by simpa using h6⟩

theorem add_at (b off j : Nat) : (⟨b, off, none⟩ : Addr).add j = ⟨b, off + j, none⟩ := by
  simp [Addr.add]
/-- The bytes of a text. -/
abbrev bl (s : ByteArray) : List UInt8 := s.data.toList
theorem bl_length (s : ByteArray) : (bl s).length = s.size := by rw [bl, Array.length_toList, ByteArray.size]

/-- The room, and the world, behind a text's bytes that are laid in new memory. -/
def room (w : World) (s : ByteArray) : Nat := grownCap w s.size 0 5
def laidRow (w : World) (s : ByteArray) : Obj := .cells (bytesRow s (room w s)) 5 ((bytesRow s (room w s)).size, (bytesRow s (room w s)).size + 1)
def bw (w : World) (s : ByteArray) : World := w.drew.alloc (laidRow w s)
theorem bw_size (w : World) (s : ByteArray) : (bw w s).heap.size = w.heap.size + 1 := by
  show (w.heap.push _).size = _
  simp
theorem run_bw (w : World) (s : ByteArray) : (convert 9 24 (.string s)).run Tryd.prog w = .ok (.slice (some ⟨w.heap.size, 0, none⟩) s.size (room w s)) (bw w s) :=
  run_bytes_of_string (P := Tryd.prog) w 9 24 5 s Tryd.underlying9 Tryd.underlying24 Tryd.underlying5
theorem below_bw {B : Nat} {W w : World} (h : Below B W w) (hB : B ≤ w.heap.size) (s : ByteArray) : Below B W (bw w s) := Below.alloc (Below.drew h) hB _

theorem bw_bytes (w : World) (s : ByteArray) : BytesAt (bw w s) w.heap.size 0 (bl s) := by
  intro i hi
  have h : (bw w s).heap[w.heap.size]? = some (laidRow w s) := by
    show (w.heap.push _)[w.heap.size]? = _
    simp
  have hs : i < s.size := by rw [← bl_length]; exact hi
  simp only [World.cell?, h, Nat.zero_add, laidRow]
  simp [bytesRow, hs, Array.getElem?_append]
theorem Block.size {w : World} {b : Nat} {l : List UInt8} (h : Block w b l) : b < w.heap.size := (Array.getElem?_eq_some_iff.1 h).1
theorem grown_below {w w' : World} {B k : Nat} (h : w.grownBy w' (some B)) (hk : k ≤ B) (hs : k ≤ w.heap.size) : Below k w w' := (Below.refl k w).grown h hs (fun j hj => by cases hj; exact hk)
theorem Block.grown {w w' : World} {b B : Nat} {l : List UInt8} (h : Block w b l) (hg : w.grownBy w' (some B)) (hne : b ≠ B) : Block w' b l := by
  unfold Block; rw [hg.block b h.size (by simpa using hne)]; exact h
theorem BytesAt.grown {w w' : World} {b B off : Nat} {l : List UInt8} (h : BytesAt w b off l) (hb : b < w.heap.size) (hg : w.grownBy w' (some B)) (hne : b ≠ B) : BytesAt w' b off l := fun i hi =>
  (World.cell?_of_block (a := ⟨b, off + i, none⟩) (hg.block b hb (by simpa using hne))).trans (h i hi)

theorem ret_int {k : IntKind} {a b : Int} (h : a = b) : Ending.returned (.int k a) = .returned (.int k b) := by rw [h]
/-- A slice of bytes that the call has made. -/
def Owns (w : World) (base : Nat) (v : Value) (l : List UInt8) : Prop := w.ownsRow base 5 1 v l.length (l.map by8)
theorem owns_nil (w : World) (base : Nat) : Owns w base (.slice none 0 0) [] := World.ownsRow_nil _ _ _ _
theorem Owns.block {w : World} {base : Nat} {v : Value} {l : List UInt8} (h : Owns w base v l) : ∀ k, v.ownBlock = some k → base ≤ k := by
  intro k hk
  obtain ⟨_, h2⟩ := h
  rcases h2 with ⟨rfl, _⟩ | ⟨g, c, cur, rfl, hg, _⟩
  · simp [Value.ownBlock] at hk
  · simp [Value.ownBlock] at hk; omega
theorem add_bytes {W : World} {b off : Nat} {l : List UInt8} (h : BytesAt W b off l) : ∀ j u, (l.map by8)[j]? = some u → W.cell? ((⟨b, off, none⟩ : Addr).add j) = some u := by
  intro j u hj
  have hj' : j < l.length := by
    have := (List.getElem?_eq_some_iff.1 hj).1
    simpa using this
  simp [hj', by8] at hj
  subst hj
  rw [add_at]; exact h j hj'
theorem by8_one (l : List UInt8) : ∀ u ∈ l.map by8, u.oneCell' = true := by
  intro u hu; simp only [List.mem_map] at hu; obtain ⟨x, _, rfl⟩ := hu; rfl

/-- 'append(out, news...)' as a law. -/
theorem wpList_add {w : World} {ops : Array Oper} {rest : List Oper} {o : Oper} {a : Act} {Q : Exit → Act → World → Prop} (hgd : o.guard = none) (s x : Operand)
    (ho : o.op = .call { callee := .builtin .append, args := #[s, x], argTypes := #[24, 24] }) (base : Nat) (v : Value) (l : List UInt8) (hs : a.eval s = v) (hown : Owns w base v l)
    (b off m c : Nat) (news : List UInt8) (hx : a.eval x = .slice (some ⟨b, off, none⟩) m c) (hm : news.length = m) (hnews : BytesAt w b off news) (hb : l.length + news.length ≤ 140737488355328) (hbase : base ≤ w.heap.size)
    (h : ∀ v' w', Owns w' base v' (l ++ news) → Below base w w' → (v' = .slice none 0 0 ↔ v = .slice none 0 0 ∧ m = 0) → wpList Tryd.prog ops Q rest (a.put o.dst v') w') : wpList Tryd.prog ops Q (o :: rest) a w := by
  obtain ⟨i0, hi, hz0, hz1, hz2⟩ := info_parts Tryd.info5
  refine wpList_append_own w hgd s x 24 ho base 5 i0 (.int .u8 0) 1 1 Tryd.underlying24 hi hz0 hz1 hz2 rfl (by decide) v l.length (l.map by8) hs hown ⟨b, off, none⟩ m c (news.map by8) hx (by rw [List.length_map, hm, Nat.mul_one]) (add_bytes hnews) (by8_one _) (by unfold maxLen; omega) (by omega) hbase ?_
  intro v' w' h1 h2 h3
  refine h v' w' ?_ ((Below.refl base w).grown h2 hbase hown.block) h3
  unfold Owns
  rw [List.length_append, List.map_append, hm]
  exact h1

theorem one_bytes (w : World) (x : UInt8) (v : Value) (hv : v = .int .u8 (x.toNat : Int)) (b : Nat) (hb : b = w.heap.size) : BytesAt (w.alloc (.cells #[v] 5)) b 0 [x] := by
  intro i hi
  obtain rfl : i = 0 := by simpa using hi
  subst hv hb
  simp
theorem two_bytes (w : World) (x y : UInt8) (u v : Value) (hu : u = .int .u8 (x.toNat : Int)) (hv : v = .int .u8 (y.toNat : Int)) (b : Nat) (hb : b = w.heap.size) : BytesAt (w.alloc (.cells #[u, v] 5)) b 0 [x, y] := by
  intro i hi
  subst hu hv hb
  match i, hi with
  | 0, _ => simp
  | 1, _ => simp
/-- A text of these bytes. -/
def str (l : List UInt8) : ByteArray := ⟨l.toArray⟩
theorem bl_str (l : List UInt8) : bl (str l) = l := by simp [bl, str]
theorem str_bl (t : ByteArray) : str (bl t) = t := by simp [bl, str]
theorem str_size (l : List UInt8) : (str l).size = l.length := by simp [str, ByteArray.size]

theorem Owns.below {w w' : World} {base : Nat} {v : Value} {l : List UInt8} (h : Owns w base v l) (hb : Below w.heap.size w w') : Owns w' base v l := by
  refine ⟨h.1, ?_⟩
  rcases h.2 with hn | ⟨g, c, cur, h3, h4, h5, h6⟩
  · exact .inl hn
  · exact .inr ⟨g, c, cur, h3, h4, by rw [hb.block g (Array.getElem?_eq_some_iff.1 h5).1]; exact h5, h6⟩
theorem Owns.shape {w : World} {base : Nat} {v : Value} {l : List UInt8} (h : Owns w base v l) : ∃ ao cp, v = .slice ao l.length cp := by
  rcases h.2 with ⟨rfl, hn⟩ | ⟨g, c, cur, h3, _⟩
  · exact ⟨none, 0, by rw [hn]⟩
  · exact ⟨_, _, h3⟩
theorem Owns.at {w : World} {base : Nat} {g off cp : Nat} {l : List UInt8} (h : Owns w base (.slice (some ⟨g, off, none⟩) l.length cp) l) : BytesAt w g off l := by
  rcases h.2 with ⟨h2, hn⟩ | ⟨g', c, cur, h3, h4, h5, h6, h7, h8, h9⟩
  · cases h2
  · simp at h3
    obtain ⟨⟨rfl, rfl⟩, rfl⟩ := h3
    intro i hi
    have e : (cur.toList.take (l.length * 1))[i]? = some (by8 l[i]) := by rw [h9]; simp [hi]
    rw [List.getElem?_take_of_lt (by omega)] at e
    have e' : cur[i]? = some (by8 l[i]) := by simpa using e
    rw [Nat.zero_add]
    simp [World.cell?, h5, e', by8]
theorem Owns.some {w : World} {base : Nat} {x : Addr} {n cp : Nat} {l : List UInt8} (h : Owns w base (.slice (some x) n cp) l) : ∃ g, x = ⟨g, 0, none⟩ ∧ n = l.length ∧ base ≤ g ∧ g < w.heap.size ∧ n ≤ cp := by
  rcases h.2 with ⟨h2, hn⟩ | ⟨g', c, cur, h3, h4, h5, h6, _⟩
  · cases h2
  · simp at h3
    obtain ⟨rfl, rfl, rfl⟩ := h3
    exact ⟨g', rfl, rfl, h4, (Array.getElem?_eq_some_iff.1 h5).1, h6⟩
theorem Owns.none {w : World} {base : Nat} {n cp : Nat} {l : List UInt8} (h : Owns w base (.slice none n cp) l) : l = [] ∧ n = 0 ∧ cp = 0 := by
  rcases h.2 with ⟨h2, hn⟩ | ⟨g', c, cur, h3, _⟩
  · simp at h2
    exact ⟨List.eq_nil_of_length_eq_zero hn, h2.1, h2.2⟩
  · cases h3
/-- 'string(b)' of bytes that the call has made. -/
theorem owns_text {w : World} {base : Nat} {ao : Option Addr} {cp : Nat} {l : List UInt8} (h : Owns w base (.slice ao l.length cp) l) : (convert 24 9 (.slice ao l.length cp)).run Tryd.prog w = .ok (.string (str l)) w := by
  cases ao with
  | none =>
    obtain ⟨rfl, _, rfl⟩ := h.none
    exact run_convert_bytes_nil (P := Tryd.prog) (w := w) 24 5 Tryd.underlying24 Tryd.underlying5 0 0 9 Tryd.underlying9
  | some x =>
    obtain ⟨g, rfl, _, _, _, _⟩ := h.some
    exact run_convert_bytes_back (P := Tryd.prog) w 24 9 5 ⟨g, 0, none⟩ cp l Tryd.underlying24 Tryd.underlying5 Tryd.underlying9 (fun j hj => by rw [add_at]; exact h.at j hj)

end Go.Proofs.YtpggbpbibbhepaaDoor
