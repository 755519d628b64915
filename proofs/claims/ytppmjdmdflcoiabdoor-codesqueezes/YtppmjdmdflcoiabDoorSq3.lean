/-
  code.newPlaces: the laws.
-/
import Derived.Test.YtppmjdmdflcoiabDoorSq2
import Derived.Maps.OwnSet
import Derived.Maps.OwnOps
import Derived.RegionTactic
import Derived.BigRegion
import Derived.Handy
namespace Go.Proofs.YtppmjdmdflcoiabDoor
open Go.ChangeShapes Go.WideShapes Go.ChangeAt Go.RowKit
open Go.Maps (Keyed IsMap)
set_option linter.unusedVariables false

theorem laidOutB0 : laidOutB Tryd.prog = true := by kernel_rfl
theorem keyLaw : Keyed Tryd.prog 51 := Keyed.of_law (deep_law_laid laidOutB0 (m := 5) (by decide) (of_decide_eq_true (by kernel_rfl)) (by kernel_rfl) (by kernel_rfl))
theorem zeroInt (w : World) : (zeroValue 3).run Tryd.prog w = .ok (.int .i64 0) w := by kernel_rfl
theorem cells51 : Tryd.prog.cellsOf 51 = 4 := by kernel_rfl
theorem cells5 : Tryd.prog.cellsOf 5 = 1 := by kernel_rfl
theorem keyT51 : Tryd.prog.keyType 51 = true := by kernel_rfl
theorem types111 : Tryd.prog.types.size = 111 := by kernel_rfl
theorem lit_byte (x : UInt8) (d : Nat) : Tryd.prog.keyLits (d + 1) 5 [by8 x] = some [.int .u8 (x.toNat : Int)] := by
  have h1 : x.toNat < 256 := x.toNat_lt
  have hw : (Lit.int .u8 (x.toNat : Int)).wf = true := by
    have m1 : IntKind.u8.min = 0 := by decide
    have m2 : IntKind.u8.max = 255 := by decide
    simp [Lit.wf, m1, m2]; omega
  simp [Program.keyLits, Tryd.underlying5, by8, hw]
theorem lit_bytes (x : UInt8) : (Lit.int .u8 (x.toNat : Int)).keyBytes = [x] := by
  have h1 : x.toNat < 256 := x.toNat_lt
  have e : ((x.toNat : Int) % 2 ^ 8).toNat % 256 = x.toNat := by omega
  simp [Lit.keyBytes, bytesBE, bytesLE, IntKind.bits]
  rw [show ((x.toNat : Int) % 256).toNat % 256 = x.toNat by omega]; simp
theorem lits_arr (d : Nat) (x y z u : UInt8) : Tryd.prog.keyLits (d + 1 + 1) 51 [by8 x, by8 y, by8 z, by8 u] = some [.int .u8 (x.toNat : Int), .int .u8 (y.toNat : Int), .int .u8 (z.toNat : Int), .int .u8 (u.toNat : Int)] := by
  unfold Program.keyLits
  simp only [Tryd.underlying51, cells51, cells5, List.length_cons, List.length_nil]
  rw [if_pos (by decide)]
  have hr : List.range 4 = [0, 1, 2, 3] := by decide
  rw [hr]
  have h0 : ([by8 x, by8 y, by8 z, by8 u].drop (0 * 1)).take 1 = [by8 x] := rfl
  have h1 : ([by8 x, by8 y, by8 z, by8 u].drop (1 * 1)).take 1 = [by8 y] := rfl
  have h2 : ([by8 x, by8 y, by8 z, by8 u].drop (2 * 1)).take 1 = [by8 z] := rfl
  have h3 : ([by8 x, by8 y, by8 z, by8 u].drop (3 * 1)).take 1 = [by8 u] := rfl
  simp only [List.mapM_cons, List.mapM_nil, h0, h1, h2, h3, lit_byte]
  rfl
theorem key_some (x y z u : UInt8) : keyOf Tryd.prog 51 (.agg #[by8 x, by8 y, by8 z, by8 u]) = some (.string [x, y, z, u]) := by
  unfold keyOf
  rw [Tryd.underlying51, keyT51]
  have hf : (Value.agg #[by8 x, by8 y, by8 z, by8 u]).formed Tryd.prog 51 = true := by
    simp only [Value.formed, Tryd.underlying51, cells51]; rfl
  simp only [hf]
  rw [types111]
  have h := lits_arr 110 x y z u
  have hc : (Value.agg #[by8 x, by8 y, by8 z, by8 u]).cells.toList = [by8 x, by8 y, by8 z, by8 u] := rfl
  rw [hc, h]
  simp [keyBytes, lit_bytes]
theorem run_makeMap_some (n : Int) (w : World) : (Instr.makeMap 50 (some (.int .i64 n))).run Tryd.prog w = .ok (.map (some w.heap.size)) (w.alloc (.map #[] 0)) := by kernel_rfl

/-- The map tells of each key the last place so far. -/
def MapInv (b : List UInt8) (i : Nat) (D : DataW Unit) : Prop :=
  (∀ kk : List UInt8, Maps.has D (.string kk) = true → ∃ j : Nat, D.atKey (.string kk) (.lit (.int .i64 0)) = .lit (.int .i64 j) ∧ j < i ∧ key4 b j = kk) ∧
  (∀ j : Nat, j < i → j + 4 ≤ b.length → Maps.has D (.string (key4 b j)) = true ∧ ∀ x : Int, D.atKey (.string (key4 b j)) (.lit (.int .i64 0)) = .lit (.int .i64 x) → (j : Int) ≤ x)
theorem mapInv_zero (b : List UInt8) : MapInv b 0 (.map []) := ⟨fun kk h => by simp [Maps.has_eq] at h, fun j h => by omega⟩
theorem MapInv.skip {b : List UInt8} {i : Nat} {D : DataW Unit} (h : MapInv b i D) (hi : ¬ i + 4 ≤ b.length) : MapInv b (i + 1) D := by
  refine ⟨fun kk hh => ?_, fun j hj h4 => ?_⟩
  · obtain ⟨j, h1, h2, h3⟩ := h.1 kk hh
    exact ⟨j, h1, by omega, h3⟩
  · rcases Nat.lt_or_ge j i with h5 | h5
    · exact h.2 j h5 h4
    · obtain rfl : j = i := by omega
      exact absurd h4 hi
theorem MapInv.put {b : List UInt8} {i : Nat} {D : DataW Unit} (h : MapInv b i D) (hD : IsMap D) (hi : i + 4 ≤ b.length) : MapInv b (i + 1) (D.put (.string (key4 b i)) (.lit (.int .i64 i))) := by
  have hk : WideAt.IsKeyLit (.string (key4 b i)) := trivial
  refine ⟨fun kk hh => ?_, fun j hj h4 => ?_⟩
  · by_cases hkk : kk = key4 b i
    · subst hkk
      exact ⟨i, Maps.atKey_put_same hD hk _ _, by omega, rfl⟩
    · have hne : Lit.string kk ≠ Lit.string (key4 b i) := fun e => hkk (by injection e)
      rw [Maps.has_put_other hne] at hh
      obtain ⟨j, h1, h2, h3⟩ := h.1 kk hh
      exact ⟨j, by rw [Maps.atKey_put_other hne]; exact h1, by omega, h3⟩
  · by_cases hkk : key4 b j = key4 b i
    · rw [hkk, Maps.has_put_same hD hk, Maps.atKey_put_same hD hk]
      refine ⟨rfl, fun x hx => ?_⟩
      have hx' : (i : Int) = x := by simpa using hx
      omega
    · have hne : Lit.string (key4 b j) ≠ Lit.string (key4 b i) := fun e => hkk (by injection e)
      rw [Maps.has_put_other hne, Maps.atKey_put_other hne]
      rcases Nat.lt_or_ge j i with h5 | h5
      · exact h.2 j h5 h4
      · obtain rfl : j = i := by omega
        exact absurd rfl hkk
theorem bef_none (b : List UInt8) (i : Nat) (hi : ¬ i + 4 ≤ b.length) : Bef b i (-1) := ⟨.inl rfl, fun j _ h _ => absurd h hi⟩
theorem MapInv.miss {b : List UInt8} {i : Nat} {D : DataW Unit} (h : MapInv b i D) (hh : Maps.has D (.string (key4 b i)) = false) : Bef b i (-1) := by
  refine ⟨.inl rfl, fun j hj h4 hk => ?_⟩
  have := (h.2 j hj (by omega)).1
  rw [hk, hh] at this; cases this
theorem MapInv.hit {b : List UInt8} {i : Nat} {D : DataW Unit} (h : MapInv b i D) (hi : i + 4 ≤ b.length) (hh : Maps.has D (.string (key4 b i)) = true) (c : Int) (hc : D.atKey (.string (key4 b i)) (.lit (.int .i64 0)) = .lit (.int .i64 c)) : Bef b i c := by
  obtain ⟨j, h1, h2, h3⟩ := h.1 _ hh
  have e : c = (j : Int) := by rw [hc] at h1; simpa using h1
  refine ⟨.inr ⟨j, e, h2, hi, h3⟩, fun j' hj' h4 hk => ?_⟩
  exact (h.2 j' hj' (by omega)).2 c (by rw [hk]; exact hc)

/-- A row of numbers of which the first are known. -/
def IPart (w : World) (F n : Nat) (l : List Int) : Prop := ∃ cur : Array Value, w.heap[F]? = some (.cells cur 3 (0, 0)) ∧ cur.size = n ∧ cur.toList.take l.length = l.map (fun x => Value.int .i64 x)
theorem heap_set3 (w : World) (B k : Nat) (cur : Array Value) (v : Value) (h : w.heap[B]? = some (.cells cur 3 (0, 0))) :
    (w.setCell ⟨B, k, none⟩ v).heap[B]? = some (.cells (cur.setIfInBounds k v) 3 (0, 0)) := by
  simp [World.setCell, Array.getElem?_modify, h]
theorem IPart.cell {w : World} {F n : Nat} {l : List Int} (h : IPart w F n l) (k : Nat) (hk : k < n) : ∃ v, w.cell? ⟨F, k, none⟩ = some v ∧ w.frozen? ⟨F, k, none⟩ = false := by
  obtain ⟨cur, h1, h2, h3⟩ := h
  exact ⟨cur[k]'(by omega), by simp [World.cell?, h1, h2, hk], by simp [World.frozen?, h1]⟩
theorem IPart.next {w : World} {F n k : Nat} {l : List Int} (h : IPart w F n l) (hl : l.length = k) (hk : k < n) (x : Int) : IPart (w.setCell ⟨F, k, none⟩ (.int .i64 x)) F n (l ++ [x]) := by
  obtain ⟨cur, h1, h2, h3⟩ := h
  refine ⟨_, heap_set3 w F k cur _ h1, by simpa using h2, ?_⟩
  rw [List.length_append, List.length_singleton, hl] at *
  rw [Array.toList_setIfInBounds, List.take_set, List.map_append, ← h3, List.take_succ_eq_append_getElem (by simp; omega)]
  have hk' : (List.take k cur.toList).length = k := by simp; omega
  rw [List.set_append_right _ _ (by omega), hk']
  simp
theorem IPart.less {w : World} {F n : Nat} {l : List Int} {x : Int} (h : IPart w F n (l ++ [x])) : IPart w F n l := by
  obtain ⟨cur, h1, h2, h3⟩ := h
  refine ⟨cur, h1, h2, ?_⟩
  have := congrArg (List.take l.length) h3
  rw [List.take_take, List.length_append, Nat.min_eq_left (by omega)] at this
  rw [this]; simp
theorem IPart.ints {w : World} {F n : Nat} {l : List Int} (h : IPart w F n l) : IntsAt w F l := by
  obtain ⟨cur, h1, h2, h3⟩ := h
  intro i hi
  have e : (cur.toList.take l.length)[i]? = some (.int .i64 l[i]) := by rw [h3]; simp [hi]
  rw [List.getElem?_take_of_lt hi] at e
  have e' : cur[i]? = some (.int .i64 l[i]) := by simpa using e
  simp [World.cell?, h1, e']
theorem IPart.made {w : World} {F n base : Nat} {l : List Value} (h : w.ownsRow base 3 1 (.slice (some ⟨F, 0, none⟩) n n) n l) : IPart w F n [] := by
  obtain ⟨_, h2⟩ := h
  rcases h2 with ⟨h2, _⟩ | ⟨g, c, cur, h3, _, h4, _, _, h5, h6⟩
  · cases h2
  · simp at h3
    obtain ⟨rfl, rfl⟩ := h3
    exact ⟨cur, h4, by simpa using h5, by simp⟩
theorem IPart.lt {w : World} {F n : Nat} {l : List Int} (h : IPart w F n l) : F < w.heap.size := by
  obtain ⟨cur, h1, _⟩ := h
  exact (Array.getElem?_eq_some_iff.1 h1).1
theorem IPart.same {w w' : World} {F n : Nat} {l : List Int} (h : IPart w F n l) (hh : w'.heap[F]? = w.heap[F]?) : IPart w' F n l := by
  obtain ⟨cur, h1, h2, h3⟩ := h
  exact ⟨cur, by rw [hh]; exact h1, h2, h3⟩
end Go.Proofs.YtppmjdmdflcoiabDoor
