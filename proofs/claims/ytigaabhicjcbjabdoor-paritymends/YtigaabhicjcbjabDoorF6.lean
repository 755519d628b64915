/-
  Rows that grow; the document's own Mend: helpers.
-/
import Derived.Test.YtigaabhicjcbjabDoorF5
import Derived.Laws.AppendOwnNone
import Derived.Deep.RegionLaw
import Derived.Deep.RegionHeld3
import Derived.BigRegion
import Derived.RegionTactic
import Derived.Handy
namespace Go.Proofs.YtigaabhicjcbjabDoor
open Go.ChangeShapes Go.WideShapes Go.ChangeAt Go.RowKit
set_option linter.unusedVariables false

/-- The pieces, those that are lost as far as they are told. -/
def grow (D O : List (List UInt8)) (f : Nat → Nat) : List (List UInt8) := (List.range D.length).map (fun k => if (D.getD k []).length = 0 then vec (f k) (at0 (O.getD k [])) else D.getD k [])
theorem grow_len (D O : List (List UInt8)) (f : Nat → Nat) : (grow D O f).length = D.length := by simp [grow]
theorem grow_get (D O : List (List UInt8)) (f : Nat → Nat) (k : Nat) (h : k < (grow D O f).length) (hk : k < D.length) : (grow D O f)[k] = if D[k].length = 0 then vec (f k) (at0 (O.getD k [])) else D[k] := by
  have e : D.getD k [] = D[k] := by simp [hk]
  simp only [grow, List.getElem_map, List.getElem_range, e]
theorem grow_zero (D O : List (List UInt8)) : grow D O (fun _ => 0) = D := by
  apply List.ext_getElem (grow_len _ _ _)
  intro k h1 h2
  rw [grow_get _ _ _ _ h1 h2]
  split
  · rename_i h; rw [vec_zero, List.eq_nil_of_length_eq_zero h]
  · rfl
theorem grow_congr (D O : List (List UInt8)) (f g : Nat → Nat) (h : ∀ k, k < D.length → f k = g k) : grow D O f = grow D O g := by
  unfold grow
  apply List.map_congr_left
  intro k hk
  rw [h k (by simpa using hk)]
theorem grow_all {D O : List (List UInt8)} {sz : Nat} {p q : List UInt8} (h : Mended D sz p q O) : grow D O (fun _ => sz) = O := by
  apply List.ext_getElem (by rw [grow_len, h.len])
  intro k h1 h2
  have hk : k < D.length := by rw [grow_len] at h1; exact h1
  have e : O.getD k [] = O[k] := by simp [h2]
  rw [grow_get _ _ _ _ h1 hk, e]
  split
  · rename_i h0
    have hl := h.new k hk h2 h0
    conv => rhs; rw [← vec_self O[k], hl]
  · rename_i h0
    exact (h.old k hk h2 h0).symm
def upk (k t : Nat) : Nat → Nat := fun j => if j < k then t + 1 else t
theorem grow_set (D O : List (List UInt8)) (k t : Nat) (hk : k < D.length) (h0 : D[k].length = 0) : (grow D O (upk k t)).set k (vec (t + 1) (at0 (O.getD k []))) = grow D O (upk (k + 1) t) := by
  apply List.ext_getElem (by rw [List.length_set, grow_len, grow_len])
  intro j h1 h2
  have hj : j < D.length := by rw [grow_len] at h2; exact h2
  rw [List.getElem_set]
  split
  · rename_i e
    subst e
    rw [grow_get _ _ _ _ h2 hj, if_pos h0]
    simp [upk]
  · rename_i ne
    rw [grow_get _ _ _ _ (by simpa using h1) hj, grow_get _ _ _ _ h2 hj]
    have : upk k t j = upk (k + 1) t j := by
      unfold upk
      by_cases h : j < k
      · rw [if_pos h, if_pos (by omega)]
      · rw [if_neg h, if_neg (by omega)]
    rw [this]
theorem grow_skip (D O : List (List UInt8)) (k t : Nat) (hk : k < D.length) (h0 : D[k].length ≠ 0) : grow D O (upk k t) = grow D O (upk (k + 1) t) := by
  apply List.ext_getElem (by rw [grow_len, grow_len])
  intro j h1 h2
  have hj : j < D.length := by rw [grow_len] at h2; exact h2
  rw [grow_get _ _ _ _ h1 hj, grow_get _ _ _ _ h2 hj]
  by_cases e : j = k
  · subst e; rw [if_neg h0, if_neg h0]
  · have : upk k t j = upk (k + 1) t j := by
      unfold upk
      by_cases h : j < k
      · rw [if_pos h, if_pos (by omega)]
      · rw [if_neg h, if_neg (by omega)]
    rw [this]
theorem drop_mid {α : Type} (A B : List α) (x : α) : (A ++ x :: B).drop A.length = x :: (A ++ x :: B).drop (A.length + 1) := by
  induction A with
  | nil => rfl
  | cons a A ih => simp only [List.cons_append, List.length_cons, List.drop_succ_cons]; exact ih
theorem fillOf_drop {D O : List (List UInt8)} {k i : Nat} (hk : k < D.length) (h0 : D[k].length = 0) : (fillOf D O i).drop (lostN (D.take k)) = at0 (O.getD k []) i :: (fillOf D O i).drop (lostN (D.take (k + 1))) := by
  have e : gaps 0 D = gaps 0 (D.take k) ++ k :: gaps (k + 1) (D.drop (k + 1)) := by
    have h1 := gaps_append 0 (D.take k) (D.drop k)
    rw [List.take_append_drop] at h1
    rw [h1, List.drop_eq_getElem_cons hk]
    have hl : (D.take k).length = k := by rw [List.length_take]; omega
    simp only [gaps, if_pos h0, hl, Nat.zero_add]
  have e2 : lostN (D.take (k + 1)) = lostN (D.take k) + 1 := by rw [take_snoc D k hk, lostN_snoc, if_pos h0]
  unfold fillOf
  rw [e2, e, List.map_append, List.map_cons]
  have hl : ((gaps 0 (D.take k)).map (fun g => at0 (O.getD g []) i)).length = lostN (D.take k) := by rw [List.length_map]; rfl
  rw [← hl]
  exact drop_mid _ _ _
theorem lost_keep {D : List (List UInt8)} {k : Nat} (hk : k < D.length) (h0 : D[k].length ≠ 0) : lostN (D.take (k + 1)) = lostN (D.take k) := by rw [take_snoc D k hk, lostN_snoc, if_neg h0]; rfl
/-- 'append([][]byte{}, all...)' as a law. -/
theorem wpList_addAll {w : World} {ops : Array Oper} {rest : List Oper} {o : Oper} {a : Act} {Q : Exit → Act → World → Prop} (hgd : o.guard = none) (s x : Operand)
    (ho : o.op = .call { callee := .builtin .append, args := #[s, x], argTypes := #[33, 33] }) (base : Nat) (v : Value) (hs : a.eval s = v) (hown : SOwns w base v [])
    (b off m c : Nat) (vals : List Value) (hx : a.eval x = .slice (some ⟨b, off, none⟩) m c) (hm : vals.length = m) (hcells : ∀ i (h : i < vals.length), w.cell? ⟨b, off + i, none⟩ = some vals[i]) (hone : ∀ u ∈ vals, isSlice u) (hb : m ≤ 1000000) (hbase : base ≤ w.heap.size)
    (h : ∀ v' w', SOwns w' base v' vals → Below base w w' → (v' = .slice none 0 0 ↔ v = .slice none 0 0 ∧ m = 0) → wpList Tryd.prog ops Q rest (a.put o.dst v') w') : wpList Tryd.prog ops Q (o :: rest) a w := by
  obtain ⟨i0, hi, hz0, hz1, hz2⟩ := info_parts Tryd.info22'
  refine wpList_append_own w hgd s x 33 ho base 22 i0 (.slice none 0 0) 1 24 Tryd.underlying33 hi hz0 hz1 hz2 rfl (by decide) v 0 [] hs hown ⟨b, off, none⟩ m c vals hx (by omega) ?_ ?_ (by unfold maxLen; omega) (by omega) hbase ?_
  · intro j u hj
    have hj' := (List.getElem?_eq_some_iff.1 hj).1
    have e : vals[j] = u := by rw [List.getElem?_eq_getElem hj'] at hj; exact Option.some.inj hj
    rw [add_at, ← e]; exact hcells j hj'
  · intro u hu
    obtain ⟨ao, n', c', rfl⟩ := hone u hu
    rfl
  intro v' w' h1 h2 h3
  refine h v' w' ?_ ((Below.refl base w).grown h2 hbase hown.block) h3
  unfold SOwns
  rw [hm]
  simpa using h1
/-- 'append(out, x...)' as a law, x nil or not. -/
theorem wpList_addR {w : World} {ops : Array Oper} {rest : List Oper} {o : Oper} {a : Act} {Q : Exit → Act → World → Prop} (hgd : o.guard = none) (s x : Operand)
    (ho : o.op = .call { callee := .builtin .append, args := #[s, x], argTypes := #[22, 22] }) (base : Nat) (v : Value) (l : List UInt8) (hs : a.eval s = v) (hown : Owns w base v l) (hv : v ≠ .slice none 0 0)
    (xv : Value) (n₀ : Nat) (news : List UInt8) (hx : a.eval x = xv) (hxv : Rd n₀ w xv news) (hb : l.length + news.length ≤ 140737488355328) (hbase : base ≤ w.heap.size)
    (h : ∀ v' w', Owns w' base v' (l ++ news) → Below base w w' → v' ≠ .slice none 0 0 → wpList Tryd.prog ops Q rest (a.put o.dst v') w') : wpList Tryd.prog ops Q (o :: rest) a w := by
  rcases hxv with ⟨rfl, rfl⟩ | ⟨b, off, cp, rfl, _, hc⟩
  · obtain ⟨i0, hi, hz0, hz1, hz2⟩ := info_parts Tryd.info5
    refine wpList_append_own_none hgd s x 22 ho base 5 i0 1 Tryd.underlying22 hi v l.length (l.map by8) hs hown hx ?_
    exact h v w (by rw [List.append_nil]; exact hown) (Below.refl _ _) hv
  · refine wpList_addT 22 Tryd.underlying22 hgd s x ho base v l hs hown b off _ cp news hx rfl hc hb hbase ?_
    intro v' w' h1 h2 h3
    exact h v' w' h1 h2 (fun e => hv (h3.1 e).1)
theorem FillR.keep {n₀ : Nat} {w w' : World} {v : Value} {l : List UInt8} (h : FillR n₀ w v l) (hk : ∀ b, v.ownBlock = some b → w'.heap[b]? = w.heap[b]?) : FillR n₀ w' v l := by
  rcases h with h | ⟨b, off, cp, e, hbb, hcp, hc⟩
  · exact .inl h
  · exact .inr ⟨b, off, cp, e, hbb, hcp, fun i hi => (World.cell?_of_block (a := ⟨b, off + i, none⟩) (hk b (by rw [e]; rfl))).trans (hc i hi)⟩
theorem sowns_made (w : World) (k : Nat) (hk : k = w.heap.size) : SOwns (w.alloc (.cells #[] 22)) w.heap.size (.slice (some ⟨k, 0, none⟩) 0 0) [] := by
  subst hk
  refine ⟨rfl, .inr ⟨w.heap.size, 0, #[], rfl, Nat.le_refl _, ?_, Nat.le_refl _, by unfold maxLen; omega, rfl, rfl⟩⟩
  show (w.heap.push _)[w.heap.size]? = _
  simp
theorem Pcs.vals {n₀ : Nat} {w : World} {b off n cp : Nat} {L : List (List UInt8)} (h : Pcs n₀ w (.slice (some ⟨b, off, none⟩) n cp) L) : ∃ vals : List Value, vals.length = L.length ∧ (∀ i (h1 : i < vals.length), w.cell? ⟨b, off + i, none⟩ = some vals[i]) ∧ (∀ u ∈ vals, isSlice u) ∧ ∀ i (h1 : i < vals.length) (h2 : i < L.length), Rd n₀ w vals[i] L[i] := by
  have key : ∀ i (hi : i < L.length), ∃ u, w.cell? ⟨b, off + i, none⟩ = some u ∧ Rd n₀ w u L[i] := by
    rcases h with ⟨e, _⟩ | ⟨b', off', cp', e, _, _, hc⟩
    · cases e
    · simp at e
      obtain ⟨⟨rfl, rfl⟩, _⟩ := e
      exact hc
  refine ⟨(List.range L.length).map (fun i => if h : i < L.length then (key i h).choose else undef), by simp, fun i h1 => ?_, fun u hu => ?_, fun i h1 h2 => ?_⟩
  · have hi : i < L.length := by simpa using h1
    simp only [List.getElem_map, List.getElem_range, hi, dite_true]
    exact (key i hi).choose_spec.1
  · simp only [List.mem_map, List.mem_range] at hu
    obtain ⟨i, hi, rfl⟩ := hu
    simp only [hi, dite_true]
    obtain ⟨ao, c, e⟩ := (key i hi).choose_spec.2.shape
    exact ⟨ao, _, c, e⟩
  · simp only [List.getElem_map, List.getElem_range, h2, dite_true]
    exact (key i h2).choose_spec.2
theorem sowns_pcs0 {w : World} {base : Nat} {v : Value} {vs : List Value} {M : List (List UInt8)} (h : SOwns w base v vs) (hl : vs.length = M.length) (hM : 0 < M.length) (hr : ∀ i (h1 : i < vs.length) (h2 : i < M.length), Rd w.heap.size w vs[i] M[i]) : Pcs w.heap.size w v M := by
  obtain ⟨ao, cp, rfl⟩ := h.shape
  obtain ⟨g, rfl, hg, hgw, hcp, hc⟩ := h.get 0 (by omega)
  refine .inr ⟨g, 0, cp, by rw [hl], hgw, by omega, fun i hi => ?_⟩
  obtain ⟨g', e, _, _, _, hc'⟩ := h.get i (by omega)
  cases e
  exact ⟨vs[i]'(by omega), by rw [Nat.zero_add]; exact hc', hr i (by omega) hi⟩
theorem LstD.snoc {W w' : World} {base : Nat} {v v' : Value} {M : List (List UInt8)} {vs : List Value} (h : LstD W base v M vs) {u : Value} {d : List UInt8} {N k : Nat} (hu : Owns W base u d) (hk : u.ownBlock = some k) (hN : N ≤ k) (hlow : ∀ i (h1 : i < vs.length) g, vs[i].ownBlock = some g → g < N) (hs : SOwns w' base v' (vs ++ [u])) (hg : W.grownBy w' v.ownBlock) : LstD w' base v' (M ++ [d]) (vs ++ [u]) := by
  obtain ⟨ho, hl, hel, hap⟩ := h
  have keep : ∀ {x : Value} {l : List UInt8}, Owns W base x l → Owns w' base x l := fun hx => by
    refine ⟨hx.1, ?_⟩
    rcases hx.2 with hn | ⟨g', c', cur, h3, h4, h5, h6⟩
    · exact .inl hn
    · refine .inr ⟨g', c', cur, h3, h4, ?_, h6⟩
      rw [hg.block g' (Array.getElem?_eq_some_iff.1 h5).1 (Ne.symm (ho.ne5 h5))]; exact h5
  refine ⟨hs, by simp [hl], fun i a b => ?_, fun i j a b hne => ?_⟩
  · by_cases hi : i < vs.length
    · simp only [List.getElem_append_left hi, List.getElem_append_left (show i < M.length by omega)]
      exact ⟨keep (hel i hi (by omega)).1, (hel i hi (by omega)).2⟩
    · have hi' : i = vs.length := by simp at a; omega
      subst hi'
      have e1 : (vs ++ [u])[vs.length]'a = u := by simp
      have e2 : (M ++ [d])[vs.length]'b = d := by
        rw [List.getElem_append_right (by omega)]
        simp [hl]
      rw [e1, e2]
      exact ⟨keep hu, k, hk⟩
  · by_cases hi : i < vs.length
    · by_cases hj : j < vs.length
      · simp only [List.getElem_append_left hi, List.getElem_append_left hj]
        exact hap i j hi hj hne
      · have hj' : j = vs.length := by simp at b; omega
        subst hj'
        have e1 : (vs ++ [u])[vs.length]'b = u := by simp
        rw [e1, List.getElem_append_left hi, hk]
        intro e
        have := hlow i hi k e
        omega
    · have hi' : i = vs.length := by simp at a; omega
      subst hi'
      have hj : j < vs.length := by simp at b; omega
      have e1 : (vs ++ [u])[vs.length]'a = u := by simp
      rw [e1, List.getElem_append_left hj, hk]
      intro e
      have := hlow j hj k e.symm
      omega
end Go.Proofs.YtigaabhicjcbjabDoor
