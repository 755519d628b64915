/-
  Plain mathematics: which piece is the one that is wrong.
-/
import Derived.Test.YtigaabhicjcbjabDoorF4
namespace Go.Proofs.YtigaabhicjcbjabDoor
set_option linter.unusedVariables false

/-- By how much the sums are off. -/
def dP (L : List (List UInt8)) (n k : Nat) : UInt8 := colP (L.take n) k ^^^ at0 (pOf L n) k
def dQ (L : List (List UInt8)) (n k : Nat) : UInt8 := colQ 0 (L.take n) k ^^^ at0 (qOf L n) k
/-- All pieces fit, at one byte. -/
def Whole1 (L : List (List UInt8)) (n lv k : Nat) : Prop := (1 ≤ lv → dP L n k = 0) ∧ (2 ≤ lv → dQ L n k = 0)
def Whole (L : List (List UInt8)) (n lv sz : Nat) : Prop := ∀ k, k < sz → Whole1 L n lv k
/-- The piece j may be the one that is wrong, at one byte (level 2). -/
def Cand1 (L : List (List UInt8)) (n j k : Nat) : Prop := if j < n then dbln j (dP L n k) = dQ L n k else if j = n then dQ L n k = 0 else dP L n k = 0
def Cand (L : List (List UInt8)) (n sz j : Nat) : Prop := ∀ k, k < sz → Cand1 L n j k
theorem xor_zero_iff {a b : UInt8} : a ^^^ b = 0 ↔ b = a := by
  constructor
  · intro h
    have : a ^^^ b = a ^^^ a := by rw [h, UInt8.xor_self]
    exact xor_left this
  · intro h; rw [h, UInt8.xor_self]
theorem dbln_zero' (j : Nat) : dbln j 0 = 0 := by
  induction j with
  | zero => rfl
  | succ j ih => first | exact dbln_zero _ | (simp only [dbln, ih, dbl_zero])
/-- One at most. -/
theorem cand_unique {L : List (List UInt8)} {n sz i j : Nat} (hn : n ≤ 16) (hw : ¬ Whole L n 2 sz) (hi : i < n + 2) (hj : j < n + 2) (h1 : Cand L n sz i) (h2 : Cand L n sz j) : i = j := by
  have key : ∀ a b, a < b → b < n + 2 → Cand L n sz a → Cand L n sz b → Whole L n 2 sz := by
    intro a b hab hb ha hb2 k hk
    have hA := ha k hk
    have hB := hb2 k hk
    unfold Cand1 at hA hB
    have hp0 : dP L n k = 0 := by
      by_cases hbn : b < n
      · rw [if_pos (show a < n by omega)] at hA
        rw [if_pos hbn] at hB
        exact dbln_apart (show a ≠ b by omega) (show a < 16 by omega) (show b < 16 by omega) (hA.trans hB.symm)
      · by_cases hbe : b = n
        · rw [if_pos (show a < n by omega)] at hA
          rw [if_neg hbn, if_pos hbe] at hB
          rw [hB] at hA
          exact dbln_inj (show a ≤ 255 by omega) (hA.trans (dbln_zero' a).symm)
        · rw [if_neg hbn, if_neg hbe] at hB
          exact hB
    refine ⟨fun _ => hp0, fun _ => ?_⟩
    by_cases han : a < n
    · rw [if_pos han, hp0, dbln_zero'] at hA
      exact hA.symm
    · rw [if_neg han, if_pos (show a = n by omega)] at hA
      exact hA
  rcases Nat.lt_trichotomy i j with h | h | h
  · exact absurd (key i j h hj h1 h2) hw
  · exact h
  · exact absurd (key j i h hi h2 h1) hw
theorem cols_all {D : List (List UInt8)} (hg : gaps 0 D = []) (i : Nat) : cols D [] i = D.map (fun e => at0 e i) := by
  have ha : Agree D D := agree_of rfl (fun _ _ _ _ => rfl)
  have hf := fillE_gaps D D 0 i rfl
  rw [hg] at hf
  rw [← cols_fill ha, hf]
  rfl
/-- With nothing lost. -/
theorem fit_none {L : List (List UInt8)} {n lv i : Nat} (hlv : lv ≤ 2) (hg : gaps 0 (L.take n) = []) (hp : 1 ≤ lv → (pOf L n).length ≠ 0) (hq : 2 ≤ lv → (qOf L n).length ≠ 0) : Fit L n lv i (cols (L.take n) [] i) ↔ Whole1 L n lv i := by
  rw [cols_all hg]
  unfold Fit Whole1 dP dQ
  simp only [colX_single]
  constructor
  · intro h
    refine ⟨fun h1 => ?_, fun h2 => ?_⟩
    · have := (h 1 (by omega) h1).resolve_left (by rw [show n + 1 - 1 = n by omega]; exact hp h1)
      rw [show n + 1 - 1 = n by omega] at this
      exact xor_zero_iff.2 this
    · have := (h 2 (by omega) h2).resolve_left (by rw [show n + 2 - 1 = n + 1 by omega]; exact hq h2)
      rw [show n + 2 - 1 = n + 1 by omega] at this
      exact xor_zero_iff.2 this
  · rintro ⟨h1, h2⟩ k hk1 hk2
    right
    obtain rfl | rfl : k = 1 ∨ k = 2 := by omega
    · rw [show n + 1 - 1 = n by omega]; exact xor_zero_iff.1 (h1 hk2)
    · rw [show n + 2 - 1 = n + 1 by omega]; exact xor_zero_iff.1 (h2 hk2)
/-- With a further piece taken away. -/
theorem fit_more {L : List (List UInt8)} {n j i : Nat} (hl : L.length = n + 2) (hj : n ≤ j) (hj2 : j < n + 2) (hg : gaps 0 (L.take n) = []) (hp : (pOf L n).length ≠ 0) (hq : (qOf L n).length ≠ 0) : (L.set j []).take n = L.take n ∧ (Fit (L.set j []) n 2 i (cols (L.take n) [] i) ↔ Cand1 L n j i) := by
  have ht : (L.set j []).take n = L.take n := by
    apply List.ext_getElem
    · simp
    · intro k h1 h2
      rw [List.getElem_take, List.getElem_take, List.getElem_set_ne (by simp at h1; omega)]
  refine ⟨ht, ?_⟩
  rw [cols_all hg]
  unfold Fit Cand1 dP dQ
  rw [if_neg (by omega)]
  simp only [colX_single]
  have e1 : j ≠ n → (L.set j []).getD n [] = pOf L n := fun h => by unfold pOf; rw [List.getD_eq_getElem?_getD, List.getElem?_set_ne h, List.getD_eq_getElem?_getD]
  have e2 : j ≠ n + 1 → (L.set j []).getD (n + 1) [] = qOf L n := fun h => by unfold qOf; rw [List.getD_eq_getElem?_getD, List.getElem?_set_ne h, List.getD_eq_getElem?_getD]
  have e3 : (L.set j []).getD j [] = [] := by rw [List.getD_eq_getElem?_getD, List.getElem?_set_self (by omega)]; rfl
  by_cases hjn : j = n
  · rw [if_pos hjn]
    constructor
    · intro h
      have := (h 2 (by omega) (by omega)).resolve_left (by rw [show n + 2 - 1 = n + 1 by omega, e2 (by omega)]; exact hq)
      rw [show n + 2 - 1 = n + 1 by omega, e2 (by omega)] at this
      exact xor_zero_iff.2 this
    · intro h k hk1 hk2
      obtain rfl | rfl : k = 1 ∨ k = 2 := by omega
      · left; rw [show n + 1 - 1 = n by omega, ← hjn, e3]; rfl
      · right; rw [show n + 2 - 1 = n + 1 by omega, e2 (by omega)]; exact xor_zero_iff.1 h
  · rw [if_neg hjn]
    have hj1 : j = n + 1 := by omega
    constructor
    · intro h
      have := (h 1 (by omega) (by omega)).resolve_left (by rw [show n + 1 - 1 = n by omega, e1 hjn]; exact hp)
      rw [show n + 1 - 1 = n by omega, e1 hjn] at this
      exact xor_zero_iff.2 this
    · intro h k hk1 hk2
      obtain rfl | rfl : k = 1 ∨ k = 2 := by omega
      · right; rw [show n + 1 - 1 = n by omega, e1 hjn]; exact xor_zero_iff.1 h
      · left; rw [show n + 2 - 1 = n + 1 by omega, ← hj1, e3]; rfl
theorem gaps_set_one {D : List (List UInt8)} (hg : gaps 0 D = []) {j : Nat} (hj : j < D.length) : gaps 0 (D.set j []) = [j] := by
  have hmem : ∀ g, g ∈ gaps 0 (D.set j []) ↔ g = j := by
    intro g
    rw [mem_gaps]
    constructor
    · rintro ⟨k, hk, e, h0⟩
      rcases Nat.decEq k j with hne | he
      · rw [List.getElem_set_ne (Ne.symm hne)] at h0
        have : k ∈ gaps 0 D := (mem_gaps 0 D k).2 ⟨k, by simpa using hk, by omega, h0⟩
        rw [hg] at this
        cases this
      · omega
    · intro e
      exact ⟨j, by simpa using hj, by omega, by simp⟩
  have hpw : (gaps 0 (D.set j [])).Pairwise (· < ·) := gaps_sorted _ _
  match hG : gaps 0 (D.set j []) with
  | [] => rw [hG] at hmem; exact absurd ((hmem j).2 rfl) (by simp)
  | [a] => rw [hG] at hmem; rw [(hmem a).1 (by simp)]
  | a :: b :: r =>
    rw [hG] at hmem hpw
    have h1 := (hmem a).1 (by simp)
    have h2 := (hmem b).1 (by simp)
    have := List.rel_of_pairwise_cons hpw (List.mem_cons_self (a := b) (l := r))
    omega
/-- With a piece of the data taken away. -/
theorem fit_data {L : List (List UInt8)} {n j i : Nat} (hl : L.length = n + 2) (hj : j < n) (hn : n ≤ 16) (hg : gaps 0 (L.take n) = []) (hp : (pOf L n).length ≠ 0) (hq : (qOf L n).length ≠ 0) (x : UInt8) : Fit (L.set j []) n 2 i (cols ((L.set j []).take n) [x] i) ↔ Cand1 L n j i ∧ x = at0 (L.getD j []) i ^^^ dP L n i := by
  have hDl : (L.take n).length = n := by rw [List.length_take]; omega
  have ht : (L.set j []).take n = (L.take n).set j [] := by rw [List.take_set]
  rw [ht]
  have hgs := gaps_set_one hg (show j < (L.take n).length by omega)
  rw [cols_one hgs (by simp; omega)]
  unfold Fit Cand1
  rw [if_pos hj]
  simp only [colX_single]
  have e1 : (L.set j []).getD n [] = pOf L n := by unfold pOf; rw [List.getD_eq_getElem?_getD, List.getElem?_set_ne (by omega), List.getD_eq_getElem?_getD]
  have e2 : (L.set j []).getD (n + 1) [] = qOf L n := by unfold qOf; rw [List.getD_eq_getElem?_getD, List.getElem?_set_ne (by omega), List.getD_eq_getElem?_getD]
  have e4 : L.getD j [] = (L.take n)[j]'(by omega) := by rw [List.getElem_take, List.getD_eq_getElem?_getD, List.getElem?_eq_getElem (by omega)]; rfl
  have hP : colX 1 (((L.take n).set j []).set j (List.replicate (i + 1) x)) i = colP (L.take n) i ^^^ (at0 (L.getD j []) i ^^^ x) := by
    unfold colX; rw [if_pos rfl, List.set_set, colP_set _ _ _ _ (by omega), row_at, e4]
  have hQ : colX 2 (((L.take n).set j []).set j (List.replicate (i + 1) x)) i = colQ 0 (L.take n) i ^^^ dbln j (at0 (L.getD j []) i ^^^ x) := by
    unfold colX; rw [if_neg (by decide), List.set_set, colQ_set _ _ _ _ _ (by omega), row_at, e4, Nat.zero_add]
  have hx : at0 (pOf L n) i = colP (L.take n) i ^^^ (at0 (L.getD j []) i ^^^ x) ↔ x = at0 (L.getD j []) i ^^^ dP L n i := by
    unfold dP
    generalize at0 (pOf L n) i = p
    generalize colP (L.take n) i = c
    generalize at0 (L.getD j []) i = a
    constructor
    · intro h
      rw [h, ← UInt8.xor_assoc c c, UInt8.xor_self, UInt8.zero_xor, ← UInt8.xor_assoc, UInt8.xor_self, UInt8.zero_xor]
    · intro h
      rw [h, ← UInt8.xor_assoc a a, UInt8.xor_self, UInt8.zero_xor, ← UInt8.xor_assoc, UInt8.xor_self, UInt8.zero_xor]
  have hy : x = at0 (L.getD j []) i ^^^ dP L n i → (at0 (qOf L n) i = colQ 0 (L.take n) i ^^^ dbln j (at0 (L.getD j []) i ^^^ x) ↔ dbln j (dP L n i) = dQ L n i) := by
    intro h
    have e : at0 (L.getD j []) i ^^^ x = dP L n i := by rw [h, ← UInt8.xor_assoc, UInt8.xor_self, UInt8.zero_xor]
    rw [e]
    unfold dQ
    generalize at0 (qOf L n) i = q
    generalize colQ 0 (L.take n) i = c
    generalize dbln j (dP L n i) = y
    constructor
    · intro h; rw [h, ← UInt8.xor_assoc, UInt8.xor_self, UInt8.zero_xor]
    · intro h; rw [h, ← UInt8.xor_assoc, UInt8.xor_self, UInt8.zero_xor]
  constructor
  · intro h
    have h1 := (h 1 (by omega) (by omega)).resolve_left (by rw [show n + 1 - 1 = n by omega, e1]; exact hp)
    rw [show n + 1 - 1 = n by omega, e1, hP] at h1
    have h2 := (h 2 (by omega) (by omega)).resolve_left (by rw [show n + 2 - 1 = n + 1 by omega, e2]; exact hq)
    rw [show n + 2 - 1 = n + 1 by omega, e2, hQ] at h2
    exact ⟨(hy (hx.1 h1)).1 h2, hx.1 h1⟩
  · rintro ⟨h1, h2⟩ k hk1 hk2
    right
    obtain rfl | rfl : k = 1 ∨ k = 2 := by omega
    · rw [show n + 1 - 1 = n by omega, e1, hP]; exact hx.2 h2
    · rw [show n + 2 - 1 = n + 1 by omega, e2, hQ]; exact (hy h2).2 h1
/-- What Find tells. -/
def FindIs (L : List (List UInt8)) (n lv sz : Nat) (r e : Int) : Prop :=
  (Whole L n lv sz → r = -1 ∧ e = 0) ∧ (¬ Whole L n lv sz → lv < 2 → r = 0 ∧ e = 11) ∧ (¬ Whole L n lv sz → 2 ≤ lv → (∀ j, j < n + 2 → Cand L n sz j → r = (j : Int) ∧ e = 0) ∧ ((∀ j, j < n + 2 → ¬ Cand L n sz j) → r = 0 ∧ e = 11))
theorem FindIs.unique {L : List (List UInt8)} {n lv sz : Nat} {r e r' e' : Int} (h : FindIs L n lv sz r e) (h' : FindIs L n lv sz r' e') : r = r' ∧ e = e' := by
  by_cases hw : Whole L n lv sz
  · obtain ⟨rfl, rfl⟩ := h.1 hw
    obtain ⟨rfl, rfl⟩ := h'.1 hw
    exact ⟨rfl, rfl⟩
  · by_cases hl : lv < 2
    · obtain ⟨rfl, rfl⟩ := h.2.1 hw hl
      obtain ⟨rfl, rfl⟩ := h'.2.1 hw hl
      exact ⟨rfl, rfl⟩
    · by_cases hc : ∃ j, j < n + 2 ∧ Cand L n sz j
      · obtain ⟨j, hj, hc⟩ := hc
        obtain ⟨rfl, rfl⟩ := (h.2.2 hw (by omega)).1 j hj hc
        obtain ⟨rfl, rfl⟩ := (h'.2.2 hw (by omega)).1 j hj hc
        exact ⟨rfl, rfl⟩
      · have hc' : ∀ j, j < n + 2 → ¬ Cand L n sz j := fun j hj h => hc ⟨j, hj, h⟩
        obtain ⟨rfl, rfl⟩ := (h.2.2 hw (by omega)).2 hc'
        obtain ⟨rfl, rfl⟩ := (h'.2.2 hw (by omega)).2 hc'
        exact ⟨rfl, rfl⟩
/-- What Find tells at all arguments. -/
def FindAll (L : List (List UInt8)) (level : Int) (err r e : Int) : Prop :=
  (err ≠ 0 → r = 0 ∧ e = err) ∧ (err = 0 → lostN L ≠ 0 → r = 0 ∧ e = 10) ∧ (err = 0 → lostN L = 0 → FindIs L (nOf L level) level.toNat (szOf L) r e)
theorem FindAll.unique {L : List (List UInt8)} {level err r e r' e' : Int} (h : FindAll L level err r e) (h' : FindAll L level err r' e') : r = r' ∧ e = e' := by
  by_cases h0 : err = 0
  · by_cases h1 : lostN L = 0
    · exact (h.2.2 h0 h1).unique (h'.2.2 h0 h1)
    · obtain ⟨rfl, rfl⟩ := h.2.1 h0 h1
      obtain ⟨rfl, rfl⟩ := h'.2.1 h0 h1
      exact ⟨rfl, rfl⟩
  · obtain ⟨rfl, rfl⟩ := h.1 h0
    obtain ⟨rfl, rfl⟩ := h'.1 h0
    exact ⟨rfl, rfl⟩
end Go.Proofs.YtigaabhicjcbjabDoor
