import Derived.Test.YtcpdnalmoaojlaaDoorGLent

/-
  Bytes that the call has made.
-/
namespace Go.Proofs.YtcpdnalmoaojlaaDoor
open Go.ChangeShapes Go.WideShapes Go.ChangeAt Go.RowKit
set_option linter.unusedVariables false

theorem ret_int {k : IntKind} {a b : Int} (h : a = b) : Ending.returned (.int k a) = .returned (.int k b) := by rw [h]
/-- A slice of bytes that the call has made. -/
def Owns (w : World) (base : Nat) (v : Value) (l : List UInt8) : Prop := w.ownsRow base 5 1 v l.length (l.map by8)
theorem owns_nil (w : World) (base : Nat) : Owns w base (.slice none 0 0) [] := World.ownsRow_nil _ _ _ _
theorem Owns.block {w : World} {base : Nat} {v : Value} {l : List UInt8} (h : Owns w base v l) : ∀ k, v.ownBlock = some k → base ≤ k := by
  intro k hk
  obtain ⟨_, h2⟩ := h
  rcases h2 with ⟨rfl, _⟩ | ⟨g, c, cur, rfl, hg, _⟩
  · simp [Value.ownBlock] at hk
  · simp [Value.ownBlock] at hk; omega
theorem add_bytes {W : World} {b off : Nat} {l : List UInt8} (h : BytesAt W b off l) : ∀ j u, (l.map by8)[j]? = some u → W.cell? ((⟨b, off, none⟩ : Addr).add j) = some u := by
  intro j u hj
  have hj' : j < l.length := by
    have := (List.getElem?_eq_some_iff.1 hj).1
    simpa using this
  simp [hj', by8] at hj
  subst hj
  rw [add_at]; exact h j hj'
theorem by8_one (l : List UInt8) : ∀ u ∈ l.map by8, u.oneCell' = true := by
  intro u hu; simp only [List.mem_map] at hu; obtain ⟨x, _, rfl⟩ := hu; rfl

/-- 'append(out, news...)' as a law. -/
theorem wpList_add {w : World} {ops : Array Oper} {rest : List Oper} {o : Oper} {a : Act} {Q : Exit → Act → World → Prop} (hgd : o.guard = none) (s x : Operand)
    (ho : o.op = .call { callee := .builtin .append, args := #[s, x], argTypes := #[53, 53] }) (base : Nat) (v : Value) (l : List UInt8) (hs : a.eval s = v) (hown : Owns w base v l)
    (b off m c : Nat) (news : List UInt8) (hx : a.eval x = .slice (some ⟨b, off, none⟩) m c) (hm : news.length = m) (hnews : BytesAt w b off news) (hb : l.length + news.length ≤ 140737488355328) (hbase : base ≤ w.heap.size)
    (h : ∀ v' w', Owns w' base v' (l ++ news) → Below base w w' → (v' = .slice none 0 0 ↔ v = .slice none 0 0 ∧ m = 0) → wpList Tryd.prog ops Q rest (a.put o.dst v') w') : wpList Tryd.prog ops Q (o :: rest) a w := by
  obtain ⟨i0, hi, hz0, hz1, hz2⟩ := info_parts Tryd.info5
  refine wpList_append_own w hgd s x 53 ho base 5 i0 (.int .u8 0) 1 1 Tryd.underlying53 hi hz0 hz1 hz2 rfl (by decide) v l.length (l.map by8) hs hown ⟨b, off, none⟩ m c (news.map by8) hx (by rw [List.length_map, hm, Nat.mul_one]) (add_bytes hnews) (by8_one _) (by unfold maxLen; omega) (by omega) hbase ?_
  intro v' w' h1 h2 h3
  refine h v' w' ?_ ((Below.refl base w).grown h2 hbase hown.block) h3
  unfold Owns
  rw [List.length_append, List.map_append, hm]
  exact h1

theorem one_bytes (w : World) (x : UInt8) (v : Value) (hv : v = .int .u8 (x.toNat : Int)) (b : Nat) (hb : b = w.heap.size) : BytesAt (w.alloc (.cells #[v] 5)) b 0 [x] := by
  intro i hi
  obtain rfl : i = 0 := by simpa using hi
  subst hv hb
  simp
theorem two_bytes (w : World) (x y : UInt8) (u v : Value) (hu : u = .int .u8 (x.toNat : Int)) (hv : v = .int .u8 (y.toNat : Int)) (b : Nat) (hb : b = w.heap.size) : BytesAt (w.alloc (.cells #[u, v] 5)) b 0 [x, y] := by
  intro i hi
  subst hu hv hb
  match i, hi with
  | 0, _ => simp
  | 1, _ => simp
/-- A text of these bytes. -/
def str (l : List UInt8) : ByteArray := ⟨l.toArray⟩
theorem bl_str (l : List UInt8) : bl (str l) = l := by simp [bl, str]
theorem str_bl (t : ByteArray) : str (bl t) = t := by simp [bl, str]
theorem str_size (l : List UInt8) : (str l).size = l.length := by simp [str, ByteArray.size]

theorem Owns.below {w w' : World} {base : Nat} {v : Value} {l : List UInt8} (h : Owns w base v l) (hb : Below w.heap.size w w') : Owns w' base v l := by
  refine ⟨h.1, ?_⟩
  rcases h.2 with hn | ⟨g, c, cur, h3, h4, h5, h6⟩
  · exact .inl hn
  · exact .inr ⟨g, c, cur, h3, h4, by rw [hb.block g (Array.getElem?_eq_some_iff.1 h5).1]; exact h5, h6⟩
theorem Owns.shape {w : World} {base : Nat} {v : Value} {l : List UInt8} (h : Owns w base v l) : ∃ ao cp, v = .slice ao l.length cp := by
  rcases h.2 with ⟨rfl, hn⟩ | ⟨g, c, cur, h3, _⟩
  · exact ⟨none, 0, by rw [hn]⟩
  · exact ⟨_, _, h3⟩
theorem Owns.at {w : World} {base : Nat} {g off cp : Nat} {l : List UInt8} (h : Owns w base (.slice (some ⟨g, off, none⟩) l.length cp) l) : BytesAt w g off l := by
  rcases h.2 with ⟨h2, hn⟩ | ⟨g', c, cur, h3, h4, h5, h6, h7, h8, h9⟩
  · cases h2
  · simp at h3
    obtain ⟨⟨rfl, rfl⟩, rfl⟩ := h3
    intro i hi
    have e : (cur.toList.take (l.length * 1))[i]? = some (by8 l[i]) := by rw [h9]; simp [hi]
    rw [List.getElem?_take_of_lt (by omega)] at e
    have e' : cur[i]? = some (by8 l[i]) := by simpa using e
    rw [Nat.zero_add]
    simp [World.cell?, h5, e', by8]
theorem Owns.some {w : World} {base : Nat} {x : Addr} {n cp : Nat} {l : List UInt8} (h : Owns w base (.slice (some x) n cp) l) : ∃ g, x = ⟨g, 0, none⟩ ∧ n = l.length ∧ base ≤ g ∧ g < w.heap.size ∧ n ≤ cp := by
  rcases h.2 with ⟨h2, hn⟩ | ⟨g', c, cur, h3, h4, h5, h6, _⟩
  · cases h2
  · simp at h3
    obtain ⟨rfl, rfl, rfl⟩ := h3
    exact ⟨g', rfl, rfl, h4, (Array.getElem?_eq_some_iff.1 h5).1, h6⟩
theorem Owns.none {w : World} {base : Nat} {n cp : Nat} {l : List UInt8} (h : Owns w base (.slice none n cp) l) : l = [] ∧ n = 0 ∧ cp = 0 := by
  rcases h.2 with ⟨h2, hn⟩ | ⟨g', c, cur, h3, _⟩
  · simp at h2
    exact ⟨List.eq_nil_of_length_eq_zero hn, h2.1, h2.2⟩
  · cases h3
/-- 'string(b)' of bytes that the call has made. -/
theorem owns_text {w : World} {base : Nat} {ao : Option Addr} {cp : Nat} {l : List UInt8} (h : Owns w base (.slice ao l.length cp) l) : (convert 53 9 (.slice ao l.length cp)).run Tryd.prog w = .ok (.string (str l)) w := by
  cases ao with
  | none =>
    obtain ⟨rfl, _, rfl⟩ := h.none
    exact run_convert_bytes_nil (P := Tryd.prog) (w := w) 53 5 Tryd.underlying53 Tryd.underlying5 0 0 9 Tryd.underlying9
  | some x =>
    obtain ⟨g, rfl, _, _, _, _⟩ := h.some
    exact run_convert_bytes_back (P := Tryd.prog) w 53 9 5 ⟨g, 0, none⟩ cp l Tryd.underlying53 Tryd.underlying5 Tryd.underlying9 (fun j hj => by rw [add_at]; exact h.at j hj)

end Go.Proofs.YtcpdnalmoaojlaaDoor
