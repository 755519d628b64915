/-
  ParityBack: the maths of what is lost, the walk.
-/
import Derived.Test.YtigaabhicjcbjafDoorBc3
namespace Go.Proofs.YtigaabhicjcbjafDoor
open Go.ChangeShapes Go.WideShapes Go.ChangeAt Go.RowKit
set_option linter.unusedVariables false

theorem lostN_cons (a : List UInt8) (L : List (List UInt8)) : lostN (a :: L) = (if a.length = 0 then 1 else 0) + lostN L := by
  have h := lostN_append [a] L
  simp only [List.singleton_append] at h
  rw [h]
  congr 1
  unfold lostN
  simp only [gaps]
  split <;> rfl
theorem lostN_set (L : List (List UInt8)) (i : Nat) : lostN (L.set i []) ≤ lostN L + 1 := by
  induction L generalizing i with
  | nil => simp
  | cons a L ih =>
    cases i with
    | zero =>
      rw [List.set_cons_zero, lostN_cons, lostN_cons]
      simp only [List.length_nil, if_true]
      omega
    | succ i =>
      rw [List.set_cons_succ, lostN_cons, lostN_cons]
      have := ih i
      omega
/-- Pieces of which some may be lost; the others are as they were made. -/
def Lefts (D L : List (List UInt8)) (n lv sz : Nat) : Prop := (∀ k (h1 : k < n) (h2 : k < L.length) (h3 : k < D.length), L[k] = [] ∨ L[k] = D[k]) ∧ (1 ≤ lv → pOf L n = [] ∨ pOf L n = vec sz (colP D)) ∧ (2 ≤ lv → qOf L n = [] ∨ qOf L n = vec sz (colQ 0 D)) ∧ L.length = n + lv
theorem getD_set (L : List (List UInt8)) (i j : Nat) : (L.set i []).getD j [] = [] ∨ (L.set i []).getD j [] = L.getD j [] := by
  rw [List.getD_eq_getElem?_getD, List.getD_eq_getElem?_getD, List.getElem?_set]
  by_cases h : i = j
  · rw [if_pos h]
    left
    split <;> rfl
  · rw [if_neg h]; right; rfl
theorem Lefts.set {D L : List (List UInt8)} {n lv sz : Nat} (h : Lefts D L n lv sz) (i : Nat) : Lefts D (L.set i []) n lv sz := by
  obtain ⟨h1, h2, h3, h4⟩ := h
  refine ⟨fun k a b c => ?_, fun hl => ?_, fun hl => ?_, by rw [List.length_set]; exact h4⟩
  · rw [List.getElem_set]
    split
    · left; rfl
    · exact h1 k a (by simpa using b) c
  · rcases getD_set L i n with e | e
    · left; exact e
    · show (L.set i []).getD n [] = [] ∨ (L.set i []).getD n [] = _
      rw [e]; exact h2 hl
  · rcases getD_set L i (n + 1) with e | e
    · left; exact e
    · show (L.set i []).getD (n + 1) [] = [] ∨ (L.set i []).getD (n + 1) [] = _
      rw [e]; exact h3 hl
theorem makeL_len (M : List (List UInt8)) (lv : Nat) (h : lv ≤ 2) : (makeL M (lv : Int)).length = lv := by
  unfold makeL
  rw [List.length_take]
  simp
  omega
theorem makeL_p (M : List (List UInt8)) (lv : Nat) (h : 1 ≤ lv) : pOf (M ++ makeL M (lv : Int)) M.length = vec (szOf M) (colP M) := by
  unfold pOf makeL
  rw [List.getD_eq_getElem?_getD, List.getElem?_append_right (Nat.le_refl _), Nat.sub_self]
  obtain ⟨k, rfl⟩ : ∃ k, lv = k + 1 := ⟨lv - 1, by omega⟩
  rw [Int.toNat_natCast]
  simp
theorem makeL_q (M : List (List UInt8)) (lv : Nat) (h : 2 ≤ lv) : qOf (M ++ makeL M (lv : Int)) M.length = vec (szOf M) (colQ 0 M) := by
  unfold qOf makeL
  rw [List.getD_eq_getElem?_getD, List.getElem?_append_right (by omega), Nat.add_sub_cancel_left]
  obtain ⟨k, rfl⟩ : ∃ k, lv = k + 2 := ⟨lv - 2, by omega⟩
  rw [Int.toNat_natCast]
  simp
theorem made_lefts {M : List (List UInt8)} {sz lv : Nat} (hg : GoodP M sz) (h2 : lv ≤ 2) : Lefts M (M ++ makeL M (lv : Int)) M.length lv sz := by
  obtain ⟨e1, _, _⟩ := hg.even
  refine ⟨fun k a b c => ?_, fun hl => ?_, fun hl => ?_, by rw [List.length_append, makeL_len M lv h2]⟩
  · right; rw [List.getElem_append_left]
  · right; rw [makeL_p M lv hl, e1]
  · right; rw [makeL_q M lv hl, e1]
theorem made_all {M : List (List UInt8)} {sz lv : Nat} (hg : GoodP M sz) (h2 : lv ≤ 2) : ∀ b ∈ M ++ makeL M (lv : Int), b.length = sz := by
  obtain ⟨e1, _, _⟩ := hg.even
  intro b hb
  rcases List.mem_append.1 hb with h | h
  · exact hg.2.2.2 b h
  · unfold makeL at h
    have := List.mem_of_mem_take h
    simp at this
    rcases this with rfl | rfl
    · rw [vec_length, e1]
    · rw [vec_length, e1]
theorem made_lost {M : List (List UInt8)} {sz lv : Nat} (hg : GoodP M sz) (h2 : lv ≤ 2) : lostN (M ++ makeL M (lv : Int)) = 0 := by
  unfold lostN
  rw [gaps_none _ _ (fun b hb => by have := made_all hg h2 b hb; have := hg.1; omega)]
  rfl
theorem Lefts.left {D L : List (List UInt8)} {n lv sz : Nat} (h : Lefts D L n lv sz) (hg : GoodP D sz) (hn : D.length = n) (h16 : n ≤ 16) (h2 : lv ≤ 2) (hf : lostN L ≤ lv) : Left D L n lv sz :=
  ⟨hn, by rw [← hn]; exact hg.2.2.1, h16, h2, hg.1, hg.2.1, hg.2.2.2, h.2.2.2, h.1, h.2.1, h.2.2.1, hf⟩
theorem made_made {M : List (List UInt8)} {sz : Nat} (hg : GoodP M sz) (h16 : M.length ≤ 16) : Made (M ++ makeL M 2) M M.length sz := by
  obtain ⟨e1, _, _⟩ := hg.even
  have hl := makeL_len M 2 (by omega)
  refine ⟨hg.2.2.1, h16, hg.1, hg.2.1, rfl, hg.2.2.2, ?_, List.take_left, ?_, ?_⟩
  · rw [List.length_append]; rw [show ((2 : Nat) : Int) = 2 from rfl] at hl; rw [hl]
  · have := makeL_p M 2 (by omega); rw [e1] at this; exact this
  · have := makeL_q M 2 (by omega); rw [e1] at this; exact this
end Go.Proofs.YtigaabhicjcbjafDoor
