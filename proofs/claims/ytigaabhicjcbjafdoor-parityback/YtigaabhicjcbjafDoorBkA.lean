/-
  Plain mathematics of Find, with none of the document's own functions; that what was made mends, and that a piece that was turned is found.
-/
import Derived.Test.YtigaabhicjcbjafDoorN6
namespace Go.Proofs.YtigaabhicjcbjafDoor
set_option linter.unusedVariables false

/-- By how much the sums are off. -/
def dP (L : List (List UInt8)) (n k : Nat) : UInt8 := colP (L.take n) k ^^^ at0 (pOf L n) k
def dQ (L : List (List UInt8)) (n k : Nat) : UInt8 := colQ 0 (L.take n) k ^^^ at0 (qOf L n) k
/-- All pieces fit, at one byte. -/
def Whole1 (L : List (List UInt8)) (n lv k : Nat) : Prop := (1 ≤ lv → dP L n k = 0) ∧ (2 ≤ lv → dQ L n k = 0)
def Whole (L : List (List UInt8)) (n lv sz : Nat) : Prop := ∀ k, k < sz → Whole1 L n lv k
/-- The piece j may be the one that is wrong, at one byte (level 2). -/
def Cand1 (L : List (List UInt8)) (n j k : Nat) : Prop := if j < n then dbln j (dP L n k) = dQ L n k else if j = n then dQ L n k = 0 else dP L n k = 0
def Cand (L : List (List UInt8)) (n sz j : Nat) : Prop := ∀ k, k < sz → Cand1 L n j k
theorem xor_zero_iff {a b : UInt8} : a ^^^ b = 0 ↔ b = a := by
  constructor
  · intro h
    have : a ^^^ b = a ^^^ a := by rw [h, UInt8.xor_self]
    exact xor_left this
  · intro h; rw [h, UInt8.xor_self]
theorem dbln_zero' (j : Nat) : dbln j 0 = 0 := by
  induction j with
  | zero => rfl
  | succ j ih => first | exact dbln_zero _ | (simp only [dbln, ih, dbl_zero])
/-- One at most. -/
theorem cand_unique {L : List (List UInt8)} {n sz i j : Nat} (hn : n ≤ 16) (hw : ¬ Whole L n 2 sz) (hi : i < n + 2) (hj : j < n + 2) (h1 : Cand L n sz i) (h2 : Cand L n sz j) : i = j := by
  have key : ∀ a b, a < b → b < n + 2 → Cand L n sz a → Cand L n sz b → Whole L n 2 sz := by
    intro a b hab hb ha hb2 k hk
    have hA := ha k hk
    have hB := hb2 k hk
    unfold Cand1 at hA hB
    have hp0 : dP L n k = 0 := by
      by_cases hbn : b < n
      · rw [if_pos (show a < n by omega)] at hA
        rw [if_pos hbn] at hB
        exact dbln_apart (show a ≠ b by omega) (show a < 16 by omega) (show b < 16 by omega) (hA.trans hB.symm)
      · by_cases hbe : b = n
        · rw [if_pos (show a < n by omega)] at hA
          rw [if_neg hbn, if_pos hbe] at hB
          rw [hB] at hA
          exact dbln_inj (show a ≤ 255 by omega) (hA.trans (dbln_zero' a).symm)
        · rw [if_neg hbn, if_neg hbe] at hB
          exact hB
    refine ⟨fun _ => hp0, fun _ => ?_⟩
    by_cases han : a < n
    · rw [if_pos han, hp0, dbln_zero'] at hA
      exact hA.symm
    · rw [if_neg han, if_pos (show a = n by omega)] at hA
      exact hA
  rcases Nat.lt_trichotomy i j with h | h | h
  · exact absurd (key i j h hj h1 h2) hw
  · exact h
  · exact absurd (key j i h hi h2 h1) hw
/-- What Find tells. -/
def FindIs (L : List (List UInt8)) (n lv sz : Nat) (r e : Int) : Prop :=
  (Whole L n lv sz → r = -1 ∧ e = 0) ∧ (¬ Whole L n lv sz → lv < 2 → r = 0 ∧ e = 11) ∧ (¬ Whole L n lv sz → 2 ≤ lv → (∀ j, j < n + 2 → Cand L n sz j → r = (j : Int) ∧ e = 0) ∧ ((∀ j, j < n + 2 → ¬ Cand L n sz j) → r = 0 ∧ e = 11))
theorem FindIs.unique {L : List (List UInt8)} {n lv sz : Nat} {r e r' e' : Int} (h : FindIs L n lv sz r e) (h' : FindIs L n lv sz r' e') : r = r' ∧ e = e' := by
  by_cases hw : Whole L n lv sz
  · obtain ⟨rfl, rfl⟩ := h.1 hw
    obtain ⟨rfl, rfl⟩ := h'.1 hw
    exact ⟨rfl, rfl⟩
  · by_cases hl : lv < 2
    · obtain ⟨rfl, rfl⟩ := h.2.1 hw hl
      obtain ⟨rfl, rfl⟩ := h'.2.1 hw hl
      exact ⟨rfl, rfl⟩
    · by_cases hc : ∃ j, j < n + 2 ∧ Cand L n sz j
      · obtain ⟨j, hj, hc⟩ := hc
        obtain ⟨rfl, rfl⟩ := (h.2.2 hw (by omega)).1 j hj hc
        obtain ⟨rfl, rfl⟩ := (h'.2.2 hw (by omega)).1 j hj hc
        exact ⟨rfl, rfl⟩
      · have hc' : ∀ j, j < n + 2 → ¬ Cand L n sz j := fun j hj h => hc ⟨j, hj, h⟩
        obtain ⟨rfl, rfl⟩ := (h.2.2 hw (by omega)).2 hc'
        obtain ⟨rfl, rfl⟩ := (h'.2.2 hw (by omega)).2 hc'
        exact ⟨rfl, rfl⟩
/-- What Find tells at all arguments. -/
def FindAll (L : List (List UInt8)) (level : Int) (err r e : Int) : Prop :=
  (err ≠ 0 → r = 0 ∧ e = err) ∧ (err = 0 → lostN L ≠ 0 → r = 0 ∧ e = 10) ∧ (err = 0 → lostN L = 0 → FindIs L (nOf L level) level.toNat (szOf L) r e)
theorem FindAll.unique {L : List (List UInt8)} {level err r e r' e' : Int} (h : FindAll L level err r e) (h' : FindAll L level err r' e') : r = r' ∧ e = e' := by
  by_cases h0 : err = 0
  · by_cases h1 : lostN L = 0
    · exact (h.2.2 h0 h1).unique (h'.2.2 h0 h1)
    · obtain ⟨rfl, rfl⟩ := h.2.1 h0 h1
      obtain ⟨rfl, rfl⟩ := h'.2.1 h0 h1
      exact ⟨rfl, rfl⟩
  · obtain ⟨rfl, rfl⟩ := h.1 h0
    obtain ⟨rfl, rfl⟩ := h'.1 h0
    exact ⟨rfl, rfl⟩
/-- Pieces of which none is lost. -/
structure Full (L : List (List UInt8)) (n lv sz : Nat) : Prop where
  len : L.length = n + lv
  lv2 : lv ≤ 2
  n16 : n ≤ 16
  sz4 : sz ≤ 4096
  all : ∀ b ∈ L, b.length = 0 ∨ b.length = sz
  gap : gaps 0 (L.take n) = []
  p0 : 1 ≤ lv → (pOf L n).length ≠ 0
  q0 : 2 ≤ lv → (qOf L n).length ≠ 0
theorem full_of {L : List (List UInt8)} {n lv : Nat} (hl : L.length = n + lv) (hlv : lv ≤ 2) (hn : n ≤ 16) (hE : Even L) (h0 : lostN L = 0) : Full L n lv (szOf L) := by
  have hnl := no_lost h0
  refine ⟨hl, hlv, hn, hE.2.2, hE.1, ?_, fun h => ?_, fun h => ?_⟩
  · have := lost_split (L := L) n
    have h1 : lostN (L.take n) = 0 := by omega
    exact List.eq_nil_of_length_eq_zero h1
  · refine hnl _ ?_
    unfold pOf
    rw [List.getD_eq_getElem?_getD, List.getElem?_eq_getElem (show n < L.length by omega)]
    exact List.getElem_mem _
  · refine hnl _ ?_
    unfold qOf
    rw [List.getD_eq_getElem?_getD, List.getElem?_eq_getElem (show n + 1 < L.length by omega)]
    exact List.getElem_mem _
end Go.Proofs.YtigaabhicjcbjafDoor
