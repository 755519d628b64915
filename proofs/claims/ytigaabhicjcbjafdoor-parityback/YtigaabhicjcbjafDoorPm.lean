/-
  Plain mathematics: what pieces make, what mends them, which one is wrong. Nothing of the program is named here.
-/
import Derived.Test.YtigaabhicjcbjafDoorVec
namespace Go.Proofs.YtigaabhicjcbjafDoor

/-- How long the first piece is that is not lost. -/
def szOf : List (List UInt8) → Nat
  | [] => 0
  | b :: L => if b.length = 0 then szOf L else b.length
/-- All that are not lost have one length, and one that is allowed. -/
def Even (L : List (List UInt8)) : Prop := (∀ b ∈ L, b.length = 0 ∨ b.length = szOf L) ∧ 1 ≤ szOf L ∧ szOf L ≤ 4096
/-- The numbers of those that are lost, from k on. -/
def gaps : Nat → List (List UInt8) → List Nat
  | _, [] => []
  | k, b :: L => if b.length = 0 then k :: gaps (k + 1) L else gaps (k + 1) L
/-- How many are lost. -/
def lostN (L : List (List UInt8)) : Nat := (gaps 0 L).length
def decEven (L : List (List UInt8)) : Decidable (Even L) := by unfold Even; infer_instance

theorem gaps_snoc (k : Nat) (L : List (List UInt8)) (b : List UInt8) : gaps k (L ++ [b]) = gaps k L ++ (if b.length = 0 then [k + L.length] else []) := by
  induction L generalizing k with
  | nil => simp [gaps]
  | cons a L ih =>
    simp only [List.cons_append, gaps, ih, List.length_cons]
    rw [show k + 1 + L.length = k + (L.length + 1) by omega]
    split <;> simp
theorem gaps_append (k : Nat) (L M : List (List UInt8)) : gaps k (L ++ M) = gaps k L ++ gaps (k + L.length) M := by
  induction L generalizing k with
  | nil => simp [gaps]
  | cons a L ih =>
    simp only [List.cons_append, gaps, ih, List.length_cons]
    rw [show k + 1 + L.length = k + (L.length + 1) by omega]
    split <;> simp
theorem mem_gaps (k : Nat) (L : List (List UInt8)) (i : Nat) : i ∈ gaps k L ↔ ∃ j, ∃ h : j < L.length, i = k + j ∧ L[j].length = 0 := by
  induction L generalizing k with
  | nil => simp [gaps]
  | cons a L ih =>
    have e : i ∈ gaps k (a :: L) ↔ (i = k ∧ a.length = 0) ∨ i ∈ gaps (k + 1) L := by
      simp only [gaps]
      split <;> rename_i h
      · simp [h]
      · simp [h]
    rw [e, ih]
    constructor
    · rintro (⟨h1, h2⟩ | ⟨j, h, h1, h2⟩)
      · exact ⟨0, by simp, by omega, h2⟩
      · exact ⟨j + 1, by simpa using h, by omega, by simpa using h2⟩
    · rintro ⟨j, h, h1, h2⟩
      cases j with
      | zero => exact .inl ⟨by omega, by simpa using h2⟩
      | succ j => exact .inr ⟨j, by simpa using h, by omega, by simpa using h2⟩
theorem gaps_shift (k m : Nat) (L : List (List UInt8)) : (gaps k L).length = (gaps m L).length := by
  induction L generalizing k m with
  | nil => simp [gaps]
  | cons a L ih => simp only [gaps]; split <;> simp [ih (k + 1) (m + 1)]
theorem lostN_append (L M : List (List UInt8)) : lostN (L ++ M) = lostN L + lostN M := by
  unfold lostN
  rw [gaps_append, List.length_append, gaps_shift (0 + L.length) 0]
theorem gaps_lt (k : Nat) (L : List (List UInt8)) : ∀ i ∈ gaps k L, k ≤ i := by
  intro i hi
  obtain ⟨j, _, h, _⟩ := (mem_gaps k L i).1 hi
  omega
theorem gaps_sorted (k : Nat) (L : List (List UInt8)) : (gaps k L).Pairwise (· < ·) := by
  induction L generalizing k with
  | nil => simp [gaps]
  | cons a L ih =>
    simp only [gaps]
    split
    · exact List.pairwise_cons.2 ⟨fun i hi => by have := gaps_lt _ _ i hi; omega, ih _⟩
    · exact ih _
theorem len_zero {l : List UInt8} (h : l.length = 0) : l = [] := List.eq_nil_of_length_eq_zero h

theorem szOf_append (L M : List (List UInt8)) : szOf (L ++ M) = if szOf L = 0 then szOf M else szOf L := by
  induction L with
  | nil => simp [szOf]
  | cons a L ih =>
    simp only [List.cons_append, szOf]
    split
    · exact ih
    · simp [*]
theorem szOf_zero {L : List (List UInt8)} (h : szOf L = 0) : ∀ b ∈ L, b.length = 0 := by
  induction L with
  | nil => simp
  | cons a L ih =>
    simp only [szOf] at h
    split at h
    · intro b hb
      rcases List.mem_cons.1 hb with rfl | hb
      · assumption
      · exact ih h b hb
    · exact absurd h ‹_›

/-- What is used of P and Q, of data of which so many are lost. -/
def useP (lost : Nat) (p : List UInt8) : Prop := (lost = 1 ∧ p.length ≠ 0) ∨ lost = 2
def useQ (lost : Nat) (p : List UInt8) : Prop := (lost = 1 ∧ p.length = 0) ∨ lost = 2
/-- What is lost of D is told by p and q. -/
structure Mended (D : List (List UInt8)) (sz : Nat) (p q : List UInt8) (out : List (List UInt8)) : Prop where
  len : out.length = D.length
  old : ∀ k (h : k < D.length) (h' : k < out.length), D[k].length ≠ 0 → out[k] = D[k]
  new : ∀ k (h : k < D.length) (h' : k < out.length), D[k].length = 0 → out[k].length = sz
  eqP : useP (lostN D) p → ∀ i, i < sz → colP out i = at0 p i
  eqQ : useQ (lostN D) p → ∀ i, i < sz → colQ 0 out i = at0 q i

theorem of_gaps_nil {D out : List (List UInt8)} {sz : Nat} {p q : List UInt8} (h : Mended D sz p q out) (hg : gaps 0 D = []) : out = D := by
  apply List.ext_getElem h.len
  intro k h1 h2
  apply h.old k h2 h1
  intro h0
  have := (mem_gaps 0 D k).2 ⟨k, h2, by omega, h0⟩
  rw [hg] at this
  cases this
theorem of_gaps_one {D out : List (List UInt8)} {sz i : Nat} {p q : List UInt8} (h : Mended D sz p q out) (hg : gaps 0 D = [i]) : ∃ hi : i < D.length, D[i] = [] ∧ ∃ x, x.length = sz ∧ out = D.set i x := by
  obtain ⟨j, hj, e, h0⟩ := (mem_gaps 0 D i).1 (by rw [hg]; simp)
  obtain rfl : j = i := by omega
  refine ⟨hj, len_zero h0, out[j]'(by rw [h.len]; exact hj), h.new j hj _ h0, ?_⟩
  apply List.ext_getElem (by rw [List.length_set]; exact h.len)
  intro k h1 h2
  rw [List.getElem_set]
  split
  · rename_i e; subst e; rfl
  · rename_i ne
    have h2' : k < D.length := by simpa using h2
    apply h.old k h2' h1
    intro h0
    have := (mem_gaps 0 D k).2 ⟨k, h2', by omega, h0⟩
    rw [hg] at this
    have e : k = j := by simpa using this
    exact ne e.symm
theorem of_gaps_two {D out : List (List UInt8)} {sz i j : Nat} {p q : List UInt8} (h : Mended D sz p q out) (hg : gaps 0 D = [i, j]) : ∃ (hj : j < D.length) (hij : i < j), D[i] = [] ∧ D[j] = [] ∧ ∃ x y, x.length = sz ∧ y.length = sz ∧ out = (D.set i x).set j y := by
  have hs := gaps_sorted 0 D
  rw [hg] at hs
  have hij : i < j := by simpa using hs
  obtain ⟨i', hi, e, h0⟩ := (mem_gaps 0 D i).1 (by rw [hg]; simp)
  obtain rfl : i' = i := by omega
  obtain ⟨j', hj, e, h0'⟩ := (mem_gaps 0 D j).1 (by rw [hg]; simp)
  obtain rfl : j' = j := by omega
  refine ⟨hj, hij, len_zero h0, len_zero h0', out[i']'(by rw [h.len]; exact hi), out[j']'(by rw [h.len]; exact hj), h.new i' hi _ h0, h.new j' hj _ h0', ?_⟩
  apply List.ext_getElem (by rw [List.length_set, List.length_set]; exact h.len)
  intro k h1 h2
  rw [List.getElem_set, List.getElem_set]
  split
  · rename_i e; subst e; rfl
  · rename_i ne
    split
    · rename_i e; subst e; rfl
    · rename_i ne'
      have h2' : k < D.length := by simpa using h2
      apply h.old k h2' h1
      intro h0
      have := (mem_gaps 0 D k).2 ⟨k, h2', by omega, h0⟩
      rw [hg] at this
      simp at this
      omega
theorem colP_one (D : List (List UInt8)) (i : Nat) (hi : i < D.length) (h0 : D[i] = []) (x : List UInt8) (k : Nat) : colP (D.set i x) k = colP D k ^^^ at0 x k := by
  rw [colP_set _ _ _ _ hi, h0, at0_nil, UInt8.zero_xor]
theorem colQ_one (D : List (List UInt8)) (i : Nat) (hi : i < D.length) (h0 : D[i] = []) (x : List UInt8) (k : Nat) : colQ 0 (D.set i x) k = colQ 0 D k ^^^ dbln i (at0 x k) := by
  rw [colQ_set _ _ _ _ _ hi, h0, at0_nil, UInt8.zero_xor, Nat.zero_add]
theorem colP_two (D : List (List UInt8)) (i j : Nat) (hij : i < j) (hj : j < D.length) (h0 : D[i] = []) (h1 : D[j] = []) (x y : List UInt8) (k : Nat) : colP ((D.set i x).set j y) k = colP D k ^^^ at0 x k ^^^ at0 y k := by
  rw [colP_one _ _ (by simpa using hj) (by rw [List.getElem_set_ne (by omega)]; exact h1), colP_one _ _ (by omega) h0]
theorem colQ_two (D : List (List UInt8)) (i j : Nat) (hij : i < j) (hj : j < D.length) (h0 : D[i] = []) (h1 : D[j] = []) (x y : List UInt8) (k : Nat) : colQ 0 ((D.set i x).set j y) k = colQ 0 D k ^^^ dbln i (at0 x k) ^^^ dbln j (at0 y k) := by
  rw [colQ_one _ _ (by simpa using hj) (by rw [List.getElem_set_ne (by omega)]; exact h1), colQ_one _ _ (by omega) h0]
theorem xor_left {a b c : UInt8} (h : a ^^^ b = a ^^^ c) : b = c := by
  have := congrArg (a ^^^ ·) h
  simpa [← UInt8.xor_assoc] using this
theorem ext_at {x y : List UInt8} {n : Nat} (hx : x.length = n) (hy : y.length = n) (h : ∀ i, i < n → at0 x i = at0 y i) : x = y := by
  rw [← vec_self x, ← vec_self y, hx, hy]; exact vec_congr h
theorem two_same {i j : Nat} (hij : i < j) (hj : j < 16) {x y x' y' : UInt8} (h1 : x ^^^ y = x' ^^^ y') (h2 : dbln i x ^^^ dbln j y = dbln i x' ^^^ dbln j y') : x = x' ∧ y = y' := by
  have e : x ^^^ x' = y ^^^ y' := by
    have : x = x' ^^^ y' ^^^ y := by rw [← h1, xor_cancel]
    rw [this, UInt8.xor_comm (x' ^^^ y' ^^^ y), UInt8.xor_assoc, ← UInt8.xor_assoc, UInt8.xor_self, UInt8.zero_xor, UInt8.xor_comm]
  have e2 : dbln i (x ^^^ x') = dbln j (y ^^^ y') := by
    rw [dbln_xor, dbln_xor]
    have : dbln i x = dbln i x' ^^^ dbln j y' ^^^ dbln j y := by rw [← h2, xor_cancel]
    rw [this, UInt8.xor_comm (dbln i x' ^^^ dbln j y' ^^^ dbln j y), UInt8.xor_assoc, ← UInt8.xor_assoc, UInt8.xor_self, UInt8.zero_xor, UInt8.xor_comm]
  rw [← e] at e2
  have z := dbln_apart (by omega) (by omega) hj e2
  have z' := z
  rw [e] at z'
  exact ⟨UInt8.xor_eq_zero_iff.1 z, UInt8.xor_eq_zero_iff.1 z'⟩
/-- There is one way alone. -/
theorem Mended.unique {D : List (List UInt8)} {sz : Nat} {p q : List UInt8} {out out' : List (List UInt8)} (hD : D.length ≤ 16) (h2 : lostN D ≤ 2) (h : Mended D sz p q out) (h' : Mended D sz p q out') : out = out' := by
  match hg : gaps 0 D with
  | [] => rw [of_gaps_nil h hg, of_gaps_nil h' hg]
  | [i] =>
    obtain ⟨hi, h0, x, hx, rfl⟩ := of_gaps_one h hg
    obtain ⟨_, _, y, hy, rfl⟩ := of_gaps_one h' hg
    have hl : lostN D = 1 := by unfold lostN; rw [hg]; rfl
    congr 1
    apply ext_at hx hy
    intro k hk
    by_cases hp : p.length = 0
    · have e := h.eqQ (.inl ⟨hl, hp⟩) k hk
      rw [← h'.eqQ (.inl ⟨hl, hp⟩) k hk, colQ_one _ _ hi h0, colQ_one _ _ hi h0] at e
      exact dbln_inj (by omega) (xor_left e)
    · have e := h.eqP (.inl ⟨hl, hp⟩) k hk
      rw [← h'.eqP (.inl ⟨hl, hp⟩) k hk, colP_one _ _ hi h0, colP_one _ _ hi h0] at e
      exact xor_left e
  | [i, j] =>
    obtain ⟨hj, hij, h0, h1, x, y, hx, hy, rfl⟩ := of_gaps_two h hg
    obtain ⟨_, _, _, _, x', y', hx', hy', rfl⟩ := of_gaps_two h' hg
    have hl : lostN D = 2 := by unfold lostN; rw [hg]; rfl
    have e : ∀ k, k < sz → at0 x k = at0 x' k ∧ at0 y k = at0 y' k := by
      intro k hk
      have e1 := h.eqP (.inr hl) k hk
      have e2 := h.eqQ (.inr hl) k hk
      rw [← h'.eqP (.inr hl) k hk, colP_two _ _ _ hij hj h0 h1, colP_two _ _ _ hij hj h0 h1, UInt8.xor_assoc, UInt8.xor_assoc] at e1
      rw [← h'.eqQ (.inr hl) k hk, colQ_two _ _ _ hij hj h0 h1, colQ_two _ _ _ hij hj h0 h1, UInt8.xor_assoc, UInt8.xor_assoc] at e2
      exact two_same hij (by omega) (xor_left e1) (xor_left e2)
    rw [ext_at hx hx' (fun k hk => (e k hk).1), ext_at hy hy' (fun k hk => (e k hk).2)]
  | _ :: _ :: _ :: _ => unfold lostN at h2; rw [hg] at h2; simp at h2

/-- What makes a piece that is lost, of P or of Q. -/
theorem mended_none {D : List (List UInt8)} {sz : Nat} {p q : List UInt8} (hg : gaps 0 D = []) : Mended D sz p q D := by
  have hl : lostN D = 0 := by unfold lostN; rw [hg]; rfl
  refine ⟨rfl, fun _ _ _ _ => rfl, fun k h _ h0 => ?_, fun hu => ?_, fun hu => ?_⟩
  · have := (mem_gaps 0 D k).2 ⟨k, h, by omega, h0⟩
    rw [hg] at this
    cases this
  · rcases hu with ⟨h, _⟩ | h <;> omega
  · rcases hu with ⟨h, _⟩ | h <;> omega
theorem mended_one {D : List (List UInt8)} {sz i : Nat} {p q x : List UInt8} (hg : gaps 0 D = [i]) (hx : x.length = sz) (hP : p.length ≠ 0 → ∀ k, k < sz → at0 x k = colP D k ^^^ at0 p k) (hQ : p.length = 0 → ∀ k, k < sz → dbln i (at0 x k) = colQ 0 D k ^^^ at0 q k) : Mended D sz p q (D.set i x) := by
  have hl : lostN D = 1 := by unfold lostN; rw [hg]; rfl
  obtain ⟨i', hi, e, h0⟩ := (mem_gaps 0 D i).1 (by rw [hg]; simp)
  obtain rfl : i' = i := by omega
  refine ⟨by simp, fun k h h' hn => ?_, fun k h h' hz => ?_, fun hu k hk => ?_, fun hu k hk => ?_⟩
  · rw [List.getElem_set_ne]
    intro e; subst e; exact hn h0
  · have := (mem_gaps 0 D k).2 ⟨k, h, by omega, hz⟩
    rw [hg] at this
    obtain rfl : k = i' := by simpa using this
    rw [List.getElem_set_self]; exact hx
  · have hp : p.length ≠ 0 := by rcases hu with ⟨_, h⟩ | h
                                 · exact h
                                 · omega
    rw [colP_one _ _ hi (len_zero h0), hP hp k hk, ← UInt8.xor_assoc, UInt8.xor_self, UInt8.zero_xor]
  · have hp : p.length = 0 := by rcases hu with ⟨_, h⟩ | h
                                 · exact h
                                 · omega
    rw [colQ_one _ _ hi (len_zero h0), hQ hp k hk, ← UInt8.xor_assoc, UInt8.xor_self, UInt8.zero_xor]
theorem mended_two {D : List (List UInt8)} {sz i j : Nat} {p q x y : List UInt8} (hg : gaps 0 D = [i, j]) (hx : x.length = sz) (hy : y.length = sz) (hP : ∀ k, k < sz → at0 x k ^^^ at0 y k = colP D k ^^^ at0 p k) (hQ : ∀ k, k < sz → dbln i (at0 x k) ^^^ dbln j (at0 y k) = colQ 0 D k ^^^ at0 q k) : Mended D sz p q ((D.set i x).set j y) := by
  have hs := gaps_sorted 0 D
  rw [hg] at hs
  have hij : i < j := by simpa using hs
  obtain ⟨i', hi, e, h0⟩ := (mem_gaps 0 D i).1 (by rw [hg]; simp)
  obtain rfl : i' = i := by omega
  obtain ⟨j', hj, e, h0'⟩ := (mem_gaps 0 D j).1 (by rw [hg]; simp)
  obtain rfl : j' = j := by omega
  refine ⟨by simp, fun k h h' hn => ?_, fun k h h' hz => ?_, fun hu k hk => ?_, fun hu k hk => ?_⟩
  · rw [List.getElem_set_ne, List.getElem_set_ne]
    · intro e; subst e; exact hn h0
    · intro e; subst e; exact hn h0'
  · have := (mem_gaps 0 D k).2 ⟨k, h, by omega, hz⟩
    rw [hg] at this
    have : k = i' ∨ k = j' := by simpa using this
    rcases this with rfl | rfl
    · rw [List.getElem_set_ne (by omega), List.getElem_set_self]; exact hx
    · rw [List.getElem_set_self]; exact hy
  · rw [colP_two _ _ _ hij hj (len_zero h0) (len_zero h0'), UInt8.xor_assoc, hP k hk, ← UInt8.xor_assoc, UInt8.xor_self, UInt8.zero_xor]
  · rw [colQ_two _ _ _ hij hj (len_zero h0) (len_zero h0'), UInt8.xor_assoc, hQ k hk, ← UInt8.xor_assoc, UInt8.xor_self, UInt8.zero_xor]
/-- What the sums are off by tells of the piece numbered i alone. -/
def Fx (n sz : Nat) (p q : Nat → UInt8) (i : Nat) : Prop := (i < n ∧ ∀ k, k < sz → dbln i (p k) = q k) ∨ (i = n ∧ ∀ k, k < sz → q k = 0) ∨ (i = n + 1 ∧ ∀ k, k < sz → p k = 0)
theorem Fx.unique {n sz : Nat} {p q : Nat → UInt8} {i j : Nat} (hn : n ≤ 16) (h0 : ¬ ((∀ k, k < sz → p k = 0) ∧ ∀ k, k < sz → q k = 0)) (hi : Fx n sz p q i) (hj : Fx n sz p q j) : i = j := by
  have hz : ∀ i, i < n → (∀ k, k < sz → dbln i (p k) = q k) → ¬ (∀ k, k < sz → q k = 0) := by
    intro i hi h hq
    refine h0 ⟨fun k hk => ?_, hq⟩
    have := h k hk
    rw [hq k hk, ← dbln_zero i] at this
    exact dbln_inj (by omega) this
  have hz' : ∀ i, i < n → (∀ k, k < sz → dbln i (p k) = q k) → ¬ (∀ k, k < sz → p k = 0) := by
    intro i hi h hp
    refine h0 ⟨hp, fun k hk => ?_⟩
    rw [← h k hk, hp k hk, dbln_zero]
  rcases hi with ⟨h1, h2⟩ | ⟨h1, h2⟩ | ⟨h1, h2⟩ <;> rcases hj with ⟨g1, g2⟩ | ⟨g1, g2⟩ | ⟨g1, g2⟩
  · apply Classical.byContradiction
    intro ne
    apply hz' i h1 h2
    intro k hk
    exact dbln_apart ne (by omega) (by omega) ((h2 k hk).trans (g2 k hk).symm)
  · exact (hz i h1 h2 g2).elim
  · exact (hz' i h1 h2 g2).elim
  · exact (hz j g1 g2 h2).elim
  · omega
  · exact (h0 ⟨g2, h2⟩).elim
  · exact (hz' j g1 g2 h2).elim
  · exact (h0 ⟨h2, g2⟩).elim
  · omega
end Go.Proofs.YtigaabhicjcbjafDoor
