/-
  Plain mathematics: what fits a column is what mends it.
-/
import Derived.Test.YtigaabhicjcbjabDoorF3
import Derived.Test.YtigaabhicjcbjabDoorN5
namespace Go.Proofs.YtigaabhicjcbjabDoor
set_option linter.unusedVariables false

/-- What of E fills the gaps of D. -/
def fillE : List (List UInt8) → List (List UInt8) → Nat → List UInt8
  | b :: D, e :: E, i => if b.length = 0 then at0 e i :: fillE D E i else fillE D E i
  | _, _, _ => []
/-- Where D is not lost E is D. -/
def Agree : List (List UInt8) → List (List UInt8) → Prop
  | [], [] => True
  | b :: D, e :: E => (b.length ≠ 0 → e = b) ∧ Agree D E
  | _, _ => False
theorem agree_of {D E : List (List UInt8)} (hl : E.length = D.length) (h : ∀ k (h1 : k < D.length) (h2 : k < E.length), D[k].length ≠ 0 → E[k] = D[k]) : Agree D E := by
  induction D generalizing E with
  | nil => cases E with
    | nil => trivial
    | cons e E => simp at hl
  | cons b D ih => cases E with
    | nil => simp at hl
    | cons e E =>
      refine ⟨fun hb => h 0 (by simp) (by simp) hb, ih (by simpa using hl) (fun k h1 h2 hk => ?_)⟩
      have := h (k + 1) (by simpa using h1) (by simpa using h2) (by simpa using hk)
      simpa using this
theorem cols_fill {D E : List (List UInt8)} (h : Agree D E) (i : Nat) : cols D (fillE D E i) i = E.map (fun e => at0 e i) := by
  induction D generalizing E with
  | nil => cases E with
    | nil => rfl
    | cons e E => exact h.elim
  | cons b D ih => cases E with
    | nil => exact h.elim
    | cons e E =>
      simp only [cols, fillE, List.map_cons]
      by_cases hb : b.length = 0
      · rw [if_pos hb, if_pos hb]
        simp only [List.headD_cons, List.tail_cons]
        rw [ih h.2]
      · rw [if_neg hb, if_neg hb, h.1 hb, ih h.2]
theorem fillE_gaps (D E : List (List UInt8)) (k i : Nat) (hl : E.length = D.length) : fillE D E i = (gaps k D).map (fun g => at0 (E.getD (g - k) []) i) := by
  induction D generalizing E k with
  | nil => cases E <;> rfl
  | cons b D ih => cases E with
    | nil => simp at hl
    | cons e E =>
      simp only [fillE, gaps]
      have ih' := ih E (k + 1) (by simpa using hl)
      have e1 : (gaps (k + 1) D).map (fun g => at0 (E.getD (g - (k + 1)) []) i) = (gaps (k + 1) D).map (fun g => at0 ((e :: E).getD (g - k) []) i) := by
        apply List.map_congr_left
        intro g hg
        have := gaps_lt _ _ g hg
        obtain ⟨t, rfl⟩ : ∃ t, g = k + 1 + t := ⟨g - (k + 1), by omega⟩
        rw [show k + 1 + t - (k + 1) = t by omega, show k + 1 + t - k = t + 1 by omega]
        rfl
      by_cases hb : b.length = 0
      · rw [if_pos hb, if_pos hb, List.map_cons, ih', e1, Nat.sub_self]
        rfl
      · rw [if_neg hb, if_neg hb, ih', e1]
theorem colP_single (E : List (List UInt8)) (i : Nat) : colP (single (E.map (fun e => at0 e i))) 0 = colP E i := by
  induction E with
  | nil => rfl
  | cons e E ih => simp only [single, List.map_cons, colP] at ih ⊢; rw [ih]; rfl
theorem colQ_single (k : Nat) (E : List (List UInt8)) (i : Nat) : colQ k (single (E.map (fun e => at0 e i))) 0 = colQ k E i := by
  induction E generalizing k with
  | nil => rfl
  | cons e E ih => simp only [single, List.map_cons, colQ] at ih ⊢; rw [ih]; rfl
theorem colX_single (k : Nat) (E : List (List UInt8)) (i : Nat) : colX k (single (E.map (fun e => at0 e i))) 0 = colX k E i := by
  unfold colX; rw [colP_single, colQ_single]
/-- The bytes that mend a column. -/
def fillOf (D O : List (List UInt8)) (i : Nat) : List UInt8 := (gaps 0 D).map (fun g => at0 (O.getD g []) i)
theorem row_at (i : Nat) (x : UInt8) : at0 (List.replicate (i + 1) x) i = x := by simp [at0]
theorem cols_one {D : List (List UInt8)} {g i : Nat} (hg : gaps 0 D = [g]) (hgl : g < D.length) (x : UInt8) : cols D [x] i = (D.set g (List.replicate (i + 1) x)).map (fun e => at0 e i) := by
  have h0 : ∀ k (h : k < D.length), D[k].length ≠ 0 → k ≠ g := fun k h hn e => by
    subst e
    obtain ⟨j, hj, e2, h2⟩ := (mem_gaps 0 D k).1 (by rw [hg]; simp)
    obtain rfl : j = k := by omega
    exact hn h2
  have ha : Agree D (D.set g (List.replicate (i + 1) x)) := agree_of (by simp) (fun k h1 h2 hk => by rw [List.getElem_set_ne (Ne.symm (h0 k h1 hk))])
  have hf := fillE_gaps D (D.set g (List.replicate (i + 1) x)) 0 i (by simp)
  rw [hg] at hf
  simp only [List.map_cons, List.map_nil, Nat.sub_zero] at hf
  have e : at0 ((D.set g (List.replicate (i + 1) x)).getD g []) i = x := by
    rw [List.getD_eq_getElem?_getD, List.getElem?_set_self hgl]
    exact row_at i x
  rw [e] at hf
  rw [← cols_fill ha, hf]
theorem cols_two {D : List (List UInt8)} {g h i : Nat} (hg : gaps 0 D = [g, h]) (hgh : g < h) (hhl : h < D.length) (x y : UInt8) : cols D [x, y] i = ((D.set g (List.replicate (i + 1) x)).set h (List.replicate (i + 1) y)).map (fun e => at0 e i) := by
  have h0 : ∀ k (hk : k < D.length), D[k].length ≠ 0 → k ≠ g ∧ k ≠ h := fun k hk hn => by
    constructor
    · intro e
      subst e
      obtain ⟨j, hj, e2, h2⟩ := (mem_gaps 0 D k).1 (by rw [hg]; simp)
      obtain rfl : j = k := by omega
      exact hn h2
    · intro e
      subst e
      obtain ⟨j, hj, e2, h2⟩ := (mem_gaps 0 D k).1 (by rw [hg]; simp)
      obtain rfl : j = k := by omega
      exact hn h2
  have ha : Agree D ((D.set g (List.replicate (i + 1) x)).set h (List.replicate (i + 1) y)) := agree_of (by simp) (fun k h1 h2 hk => by rw [List.getElem_set_ne (Ne.symm (h0 k h1 hk).2), List.getElem_set_ne (Ne.symm (h0 k h1 hk).1)])
  have hf := fillE_gaps D ((D.set g (List.replicate (i + 1) x)).set h (List.replicate (i + 1) y)) 0 i (by simp)
  rw [hg] at hf
  simp only [List.map_cons, List.map_nil, Nat.sub_zero] at hf
  have e : at0 (((D.set g (List.replicate (i + 1) x)).set h (List.replicate (i + 1) y)).getD g []) i = x := by
    rw [List.getD_eq_getElem?_getD, List.getElem?_set_ne (by omega), List.getElem?_set_self (by omega)]
    exact row_at i x
  have e2 : at0 (((D.set g (List.replicate (i + 1) x)).set h (List.replicate (i + 1) y)).getD h []) i = y := by
    rw [List.getD_eq_getElem?_getD, List.getElem?_set_self (by simpa using hhl)]
    exact row_at i y
  rw [e, e2] at hf
  rw [← cols_fill ha, hf]
/-- What fits: one byte. -/
theorem fit_one {U D O : List (List UInt8)} {n lv i g sz : Nat} {p q : List UInt8} (hM : Mended D sz p q O) (hg : gaps 0 D = [g]) (hD16 : D.length ≤ 16) (hi : i < sz)
    (hP : p.length ≠ 0 → 1 ≤ lv ∧ U.getD n [] = p ∧ (2 ≤ lv → U.getD (n + 1) [] = [])) (hQ : p.length = 0 → lv = 2 ∧ U.getD n [] = p ∧ U.getD (n + 1) [] = q ∧ q.length ≠ 0) (hlv : lv ≤ 2) (x : UInt8) :
    Fit U n lv i (cols D [x] i) ↔ x = at0 (O.getD g []) i := by
  have hl : lostN D = 1 := by unfold lostN; rw [hg]; rfl
  obtain ⟨hgl, h0, X, hX, rfl⟩ := of_gaps_one hM hg
  have eO : (D.set g X).getD g [] = X := by rw [List.getD_eq_getElem?_getD, List.getElem?_set_self hgl]; rfl
  rw [eO, cols_one hg hgl]
  unfold Fit
  simp only [colX_single]
  by_cases hp : p.length = 0
  · obtain ⟨rfl, h1, h2, h3⟩ := hQ hp
    have hq := hM.eqQ (.inl ⟨hl, hp⟩) i hi
    rw [colQ_one _ _ hgl h0] at hq
    have key : at0 q i = colX 2 (D.set g (List.replicate (i + 1) x)) i ↔ x = at0 X i := by
      unfold colX
      rw [if_neg (by decide), colQ_one _ _ hgl h0, row_at, ← hq]
      exact ⟨fun h => (dbln_inj (by omega) (xor_left h)).symm, fun h => by rw [h]⟩
    constructor
    · intro h
      have := h 2 (by omega) (by omega)
      rw [show n + 2 - 1 = n + 1 by omega, h2] at this
      exact key.1 (this.resolve_left h3)
    · intro h k hk1 hk2
      obtain rfl | rfl : k = 1 ∨ k = 2 := by omega
      · left; rw [show n + 1 - 1 = n by omega, h1]; exact hp
      · right; rw [show n + 2 - 1 = n + 1 by omega, h2]; exact key.2 h
  · obtain ⟨hlv1, h1, h2⟩ := hP hp
    have hq := hM.eqP (.inl ⟨hl, hp⟩) i hi
    rw [colP_one _ _ hgl h0] at hq
    have key : at0 p i = colX 1 (D.set g (List.replicate (i + 1) x)) i ↔ x = at0 X i := by
      unfold colX
      rw [if_pos rfl, colP_one _ _ hgl h0, row_at, ← hq]
      exact ⟨fun h => (xor_left h).symm, fun h => by rw [h]⟩
    constructor
    · intro h
      have := h 1 (by omega) (by omega)
      rw [show n + 1 - 1 = n by omega, h1] at this
      exact key.1 (this.resolve_left hp)
    · intro h k hk1 hk2
      obtain rfl | rfl : k = 1 ∨ k = 2 := by omega
      · right; rw [show n + 1 - 1 = n by omega, h1]; exact key.2 h
      · left; rw [show n + 2 - 1 = n + 1 by omega, h2 hk2]; rfl
/-- What fits: two bytes. -/
theorem fit_two {U D O : List (List UInt8)} {n i g h sz : Nat} {p q : List UInt8} (hM : Mended D sz p q O) (hg : gaps 0 D = [g, h]) (hD16 : D.length ≤ 16) (hi : i < sz) (hp : U.getD n [] = p) (hq : U.getD (n + 1) [] = q) (hq0 : q.length ≠ 0) (x : UInt8) :
    (Fit U n 2 i (cols D [x, x ^^^ at0 p i ^^^ colP D i] i) ↔ x = at0 (O.getD g []) i) ∧ at0 (O.getD h []) i = at0 (O.getD g []) i ^^^ at0 p i ^^^ colP D i := by
  have hl : lostN D = 2 := by unfold lostN; rw [hg]; rfl
  obtain ⟨hhl, hgh, h0, h1, X, Y, hX, hY, rfl⟩ := of_gaps_two hM hg
  have eg : ((D.set g X).set h Y).getD g [] = X := by rw [List.getD_eq_getElem?_getD, List.getElem?_set_ne (by omega), List.getElem?_set_self (by omega)]; rfl
  have eh : ((D.set g X).set h Y).getD h [] = Y := by rw [List.getD_eq_getElem?_getD, List.getElem?_set_self (by simpa using hhl)]; rfl
  rw [eg, eh]
  have hP := hM.eqP (.inr hl) i hi
  have hQ := hM.eqQ (.inr hl) i hi
  rw [colP_two _ _ _ hgh hhl h0 h1] at hP
  rw [colQ_two _ _ _ hgh hhl h0 h1] at hQ
  have hy : at0 Y i = at0 X i ^^^ at0 p i ^^^ colP D i := by
    rw [← hP]
    generalize at0 X i = a
    generalize at0 Y i = b
    generalize colP D i = c
    rw [UInt8.xor_comm c a, ← UInt8.xor_assoc, ← UInt8.xor_assoc, UInt8.xor_self, UInt8.zero_xor, UInt8.xor_comm c b, xor_cancel]
  refine ⟨?_, hy⟩
  rw [cols_two hg hgh hhl]
  unfold Fit
  simp only [colX_single]
  constructor
  · intro hf
    have h2 := hf 2 (by omega) (by omega)
    rw [show n + 2 - 1 = n + 1 by omega, hq] at h2
    have h3 := h2.resolve_left hq0
    unfold colX at h3
    rw [if_neg (by decide), colQ_two _ _ _ hgh hhl h0 h1, row_at, row_at, ← hQ, UInt8.xor_assoc, UInt8.xor_assoc] at h3
    have h4 := xor_left h3
    have h5 : at0 X i ^^^ at0 Y i = x ^^^ (x ^^^ at0 p i ^^^ colP D i) := by
      rw [hy]
      simp only [← UInt8.xor_assoc, UInt8.xor_self, UInt8.zero_xor]
    exact (two_same hgh (by omega) h5 h4).1.symm
  · intro hx k hk1 hk2
    subst hx
    rw [← hy]
    right
    obtain rfl | rfl : k = 1 ∨ k = 2 := by omega
    · rw [show n + 1 - 1 = n by omega, hp]
      unfold colX
      rw [if_pos rfl, colP_two _ _ _ hgh hhl h0 h1, row_at, row_at]; exact hP.symm
    · rw [show n + 2 - 1 = n + 1 by omega, hq]
      unfold colX
      rw [if_neg (by decide), colQ_two _ _ _ hgh hhl h0 h1, row_at, row_at]; exact hQ.symm
end Go.Proofs.YtigaabhicjcbjabDoor
