/-
  Texts as lists of bytes, and others of them that are lent.
-/
import Derived.Test.YtigaabhicjcbjabDoorR4
import Derived.Test.YtigaabhicjcbjabDoorLentN
namespace Go.Proofs.YtigaabhicjcbjabDoor
open Go.ChangeShapes Go.WideShapes Go.ChangeAt Go.RowKit
set_option linter.unusedVariables false

/-- A list of texts. -/
def Strs (w : World) (v : Value) (S : List ByteArray) : Prop := (∃ b off cp, v = .slice (some ⟨b, off, none⟩) S.length cp ∧ b < w.heap.size ∧ ∀ i (hi : i < S.length), w.cell? ⟨b, off + i, none⟩ = some (.string S[i])) ∨ ∃ ao cp, v = .slice ao 0 cp ∧ S = []
theorem Strs.shape {w : World} {v : Value} {S : List ByteArray} (h : Strs w v S) : ∃ ao cp, v = .slice ao S.length cp := by
  rcases h with ⟨b, off, cp, rfl, _⟩ | ⟨ao, cp, rfl, rfl⟩
  · exact ⟨_, _, rfl⟩
  · exact ⟨ao, cp, rfl⟩
theorem Strs.get {w : World} {ao : Option Addr} {n cp : Nat} {S : List ByteArray} (h : Strs w (.slice ao n cp) S) (k : Nat) (hk : k < S.length) : ∃ b off, ao = some ⟨b, off, none⟩ ∧ b < w.heap.size ∧ w.cell? ⟨b, off + k, none⟩ = some (.string S[k]) := by
  rcases h with ⟨b, off, cp', e, hb, hc⟩ | ⟨_, _, _, rfl⟩
  · simp at e
    exact ⟨b, off, e.1, hb, hc k hk⟩
  · simp at hk
/-- Bytes that lie lent. -/
def Lnt (w : World) (base : Nat) (x : Value) (M : List (List UInt8)) (vs : List Value) (G : Nat → Nat) : Prop := SOwns w base x vs ∧ vs.length = M.length ∧ (∀ i (h1 : i < vs.length) (h2 : i < M.length), vs[i] = .slice (some ⟨G i, 0, none⟩) M[i].length (M[i].length + 9) ∧ base ≤ G i ∧ Block w (G i) (M[i] ++ List.replicate 9 77)) ∧ (∀ i j, i < j → j < M.length → G i < G j) ∧ (M = [] → x = .slice none 0 0)
abbrev Cold (z : Nat × Nat) : Prop := z ≠ (0, 0)
/-- Two lists that differ lie apart. -/
theorem SOwns.apart {w : World} {base base' : Nat} {x y : Value} {vs us : List Value} (h : SOwns w base x vs) (h' : SOwns w base' y us) (hv : 0 < vs.length) (hu : 0 < us.length) (hne : vs[0] ≠ us[0]) : x.ownBlock ≠ y.ownBlock := by
  obtain ⟨xo, xc, rfl⟩ := h.shape
  obtain ⟨yo, yc, rfl⟩ := h'.shape
  obtain ⟨g, rfl, _, _, _, hc⟩ := h.get 0 hv
  obtain ⟨g', rfl, _, _, _, hc'⟩ := h'.get 0 hu
  intro e
  simp [Value.ownBlock] at e
  subst e
  rw [hc] at hc'
  exact hne (Option.some.inj hc')
theorem Lnt.below {w w' : World} {base : Nat} {x : Value} {M : List (List UInt8)} {vs : List Value} {G : Nat → Nat} (h : Lnt w base x M vs G) (hb : Below w.heap.size w w') : Lnt w' base x M vs G :=
  ⟨h.1.below hb, h.2.1, fun i a b => ⟨(h.2.2.1 i a b).1, (h.2.2.1 i a b).2.1, (h.2.2.1 i a b).2.2.below hb (h.2.2.1 i a b).2.2.size⟩, h.2.2.2.1, h.2.2.2.2⟩
theorem Block.cells {w : World} {b : Nat} {l : List UInt8} (h : Block w b l) : w.heap[b]? = some (Obj.cells (l.map by8).toArray 5 (0, 0)) := h
/-- What is lent, and what is not, lie apart. -/
theorem lst_lnt {w : World} {base base' : Nat} {x y : Value} {M N : List (List UInt8)} {us : List Value} {G : Nat → Nat} {vs : List Value} (h1 : SOwns w base x vs) (h2 : vs.length = M.length) (h3 : ∀ i (h1 : i < vs.length) (h2 : i < M.length), ElP Cold w base vs[i] M[i]) (h : Lnt w base' y N us G) (hM : 0 < M.length) (hN : 0 < N.length) : x.ownBlock ≠ y.ownBlock := by
  refine h1.apart h.1 (by omega) (by rw [h.2.1]; exact hN) ?_
  obtain ⟨e, hG, hB⟩ := h.2.2.1 0 (by rw [h.2.1]; exact hN) hN
  rw [e]
  intro e'
  rcases h3 0 (by omega) hM with ⟨h5, _⟩ | ⟨b, off, cp, h5, _, _, cur, fz, h6, h7⟩
  · rw [h5] at e'; cases e'
  · rw [h5] at e'
    simp at e'
    obtain ⟨⟨rfl, _⟩, _⟩ := e'
    rw [hB.cells] at h6
    cases h6
    exact h7 rfl
theorem Lnt.other {w w' : World} {base : Nat} {y : Value} {N : List (List UInt8)} {us : List Value} {G : Nat → Nat} {x : Value} {vs : List Value} {base' : Nat} (h : Lnt w base y N us G) (hx : SOwns w base' x vs) (hg : w.grownBy w' x.ownBlock) (hne : x.ownBlock = none ∨ x.ownBlock ≠ y.ownBlock) : Lnt w' base y N us G := by
  refine ⟨?_, h.2.1, fun i a b => ⟨(h.2.2.1 i a b).1, (h.2.2.1 i a b).2.1, ?_⟩, h.2.2.2.1, h.2.2.2.2⟩
  · refine ⟨h.1.1, ?_⟩
    rcases h.1.2 with hn | ⟨g, c, cur, h3, h4, h5, h6⟩
    · exact .inl hn
    · refine .inr ⟨g, c, cur, h3, h4, ?_, h6⟩
      rw [hg.block g (Array.getElem?_eq_some_iff.1 h5).1 ?_]; exact h5
      intro e
      rcases hne with h0 | h0
      · rw [h0] at e; cases e
      · rw [← e, h3] at h0; exact h0 rfl
  · have hB := (h.2.2.1 i a b).2.2
    unfold Block
    rw [hg.block (G i) hB.size (Ne.symm (hx.ne5 hB.cells))]; exact hB
theorem Lst.other {p : Nat × Nat → Prop} {w w' : World} {base base' : Nat} {x y : Value} {M : List (List UInt8)} {us : List Value} (h : Lst p w base x M) (hy : SOwns w base' y us) (hg : w.grownBy w' y.ownBlock) (hne : y.ownBlock = none ∨ x.ownBlock ≠ y.ownBlock) : Lst p w' base x M := by
  obtain ⟨vs, h1, h2, h3⟩ := h
  refine ⟨vs, ⟨h1.1, ?_⟩, h2, fun i a b => (h3 i a b).other hy hg⟩
  rcases h1.2 with hn | ⟨g, c, cur, h3, h4, h5, h6⟩
  · exact .inl hn
  · refine .inr ⟨g, c, cur, h3, h4, ?_, h6⟩
    rw [hg.block g (Array.getElem?_eq_some_iff.1 h5).1 ?_]; exact h5
    intro e
    rcases hne with h0 | h0
    · rw [h0] at e; cases e
    · rw [← e, h3] at h0; exact h0 rfl
theorem Lnt.pcs {w : World} {base : Nat} {x : Value} {M : List (List UInt8)} {vs : List Value} {G : Nat → Nat} (h : Lnt w base x M vs G) : Pcs w.heap.size w x M := by
  refine (sowns_pcsR h.1 h.2.1 fun i a b => ?_).pcs (Nat.le_refl _)
  obtain ⟨e, hG, hB⟩ := h.2.2.1 i a b
  rw [e]
  exact .inr ⟨G i, 0, _, rfl, ⟨hG, hB.size⟩, hB.bytes⟩
theorem bw_el (w : World) (t : ByteArray) (n : Nat) (hn : n = t.size) (base : Nat) (hb : base ≤ w.heap.size) (c : Nat) : ElP Cold (bw w t) base (.slice (some ⟨w.heap.size, 0, none⟩) n c) (bl t) := by
  refine .inr ⟨w.heap.size, 0, c, by rw [hn, bl_length], hb, bw_bytes w t, bytesRow t (room w t), ((bytesRow t (room w t)).size, (bytesRow t (room w t)).size + 1), ?_, ?_⟩
  · show (w.heap.push _)[w.heap.size]? = some (Obj.cells (bytesRow t (room w t)) 5 ((bytesRow t (room w t)).size, (bytesRow t (room w t)).size + 1))
    simp [laidRow]
  · simp [Cold]
/-- 'append(b, lent(..))' as a law. -/
theorem wpList_addL {w : World} {ops : Array Oper} {rest : List Oper} {o : Oper} {a : Act} {Q : Exit → Act → World → Prop} (hgd : o.guard = none) (s x : Operand)
    (ho : o.op = .call { callee := .builtin .append, args := #[s, x], argTypes := #[33, 33] }) (base : Nat) (v : Value) (M : List (List UInt8)) (vs : List Value) (G : Nat → Nat) (hs : a.eval s = v) (W : World) (g n c : Nat) (l : List UInt8) (hw : w = W.alloc (.cells #[.slice (some ⟨g, 0, none⟩) n c] 22)) (hown : Lnt W base v M vs G) (hn : n = l.length) (hc : c = n + 9) (hg : base ≤ g) (hB : Block W g (l ++ List.replicate 9 77)) (hG : ∀ i, i < M.length → G i < g)
    (b : Nat) (hb' : b = W.heap.size) (hx : a.eval x = .slice (some ⟨b, 0, none⟩) 1 1) (hb : M.length + 1 ≤ 1000000000) (hbase : base ≤ W.heap.size)
    (h : ∀ v' w', (∃ vs' G', Lnt w' base v' (M ++ [l]) vs' G' ∧ ∀ i, i < (M ++ [l]).length → G' i < W.heap.size) → Below base W w' → W.grownBy w' v.ownBlock → SOwns W base v vs → wpList Tryd.prog ops Q rest (a.put o.dst v') w') : wpList Tryd.prog ops Q (o :: rest) a w := by
  obtain ⟨h1, h2, h3, h4, h5⟩ := hown
  refine wpList_addS 33 Tryd.underlying33 hgd s x ho base v vs hs W (some ⟨g, 0, none⟩) n c hw h1 b hb' hx (by omega) hbase ?_
  intro v' w' g1 g2 g3
  refine h v' w' ⟨vs ++ [.slice (some ⟨g, 0, none⟩) n c], fun i => if i = M.length then g else G i, ⟨g1, by simp [h2], fun i a b => ?_, fun i j hij hj => ?_, fun e => by simp at e⟩, fun i hi => ?_⟩ g3 g2 h1
  · by_cases hi : i < vs.length
    · rw [List.getElem_append_left hi]
      simp only [List.getElem_append_left (show i < M.length by omega)]
      rw [if_neg (by omega)]
      obtain ⟨e, e2, e3⟩ := h3 i hi (by omega)
      refine ⟨e, e2, ?_⟩
      unfold Block
      rw [g2.block (G i) e3.size (Ne.symm (h1.ne5 e3.cells))]; exact e3
    · have hi' : i = vs.length := by simp at a; omega
      subst hi'
      show _ = Value.slice (some ⟨if vs.length = M.length then g else G vs.length, 0, none⟩) _ _ ∧ base ≤ (if vs.length = M.length then g else G vs.length) ∧ Block w' (if vs.length = M.length then g else G vs.length) _
      have e1 : (vs ++ [Value.slice (some ⟨g, 0, none⟩) n c])[vs.length]'a = .slice (some ⟨g, 0, none⟩) n c := by simp
      have e2 : (M ++ [l])[vs.length]'b = l := by
        rw [List.getElem_append_right (by omega)]
        simp [h2]
      rw [if_pos h2, e1, e2]
      refine ⟨by rw [hc, hn], hg, ?_⟩
      unfold Block
      rw [g2.block g hB.size (Ne.symm (h1.ne5 hB.cells))]; exact hB
  · simp only [List.length_append, List.length_cons, List.length_nil] at hj
    by_cases hjj : j = M.length
    · simp only [hjj, if_true]
      rw [if_neg (by omega)]
      exact hG i (by omega)
    · simp only [if_neg hjj]
      rw [if_neg (by omega)]
      exact h4 i j hij (by omega)
  · simp only [List.length_append, List.length_cons, List.length_nil] at hi
    by_cases hii : i = M.length
    · simp only [hii, if_true]; exact hB.size
    · simp only [if_neg hii]
      exact (h3 i (by omega) (by omega)).2.2.size
end Go.Proofs.YtigaabhicjcbjabDoor
