/-
  sound.
-/
import Derived.Test.YtcfmjjpbekpoeafDoorSp25
import Derived.BigQuiet
namespace Go.Proofs.YtcfmjjpbekpoeafDoor
open Go.RowKit Go.Shelf
set_option linter.unusedVariables false
set_option linter.unusedSimpArgs false

theorem fits_filter {a b : Nat} {l : List Pc} (f : Pc → Bool) (h : Fits a l b) : Fits a (l.filter f) b := by
  induction l generalizing a with
  | nil => simpa [Fits] using h
  | cons x l ih =>
    simp only [Fits] at h
    obtain ⟨h1, h2, h3⟩ := h
    have h4 := ih h3
    by_cases hx : f x = true
    · rw [List.filter_cons_of_pos hx]
      simp only [Fits]
      exact ⟨h1, h2, h4⟩
    · rw [List.filter_cons_of_neg hx]
      exact h4.mono (by have : x.stop = x.at' + x.n := rfl; omega) (Nat.le_refl _)
theorem used_fil (l : List Pc) : rowsL isUsed (fil l) = rowsL isUsed l := by
  induction l with
  | nil => rfl
  | cons x l ih =>
    unfold fil at ih ⊢
    by_cases hx : isUsed x = true
    · rw [List.filter_cons_of_pos hx]
      simp only [rowsL, ih]
    · rw [List.filter_cons_of_neg hx]
      simp only [rowsL, ih, hx]
      simp
theorem rflat_at (l : List Pc) : ∀ (i j : Nat) (h : i < l.length) (hj : j < 4), (l.flatMap fun x => (runv x).toList)[i * 4 + j]? = (runv l[i])[j]? := by
  induction l with
  | nil => intro i j h; simp at h
  | cons x l ih =>
    intro i j h hj
    rw [List.flatMap_cons]
    have h5 : (runv x).toList.length = 4 := rfl
    cases i with
    | zero =>
      rw [Nat.zero_mul, Nat.zero_add, List.getElem?_append_left (by omega)]
      simp
    | succ i =>
      rw [List.getElem?_append_right (by omega), h5, show (i + 1) * 4 + j - 4 = i * 4 + j from by omega]
      have := ih i j (by simpa using h) hj
      simpa using this
/-- A run in memory. -/
def RcAt (w : World) (b o : Nat) (x : Pc) : Prop := w.cell? ⟨b, o, none⟩ = some (.int .i64 (x.at' : Int)) ∧ w.cell? ⟨b, o + 1, none⟩ = some (.int .i64 (x.n : Int)) ∧ w.cell? ⟨b, o + 2, none⟩ = some (.int .i64 (x.count : Int)) ∧ w.cell? ⟨b, o + 3, none⟩ = some (.int .u64 (x.tag : Int))
theorem ROwns.at {w : World} {B : Nat} {v : Value} {l : List Pc} (h : ROwns w B v l) (hl : l ≠ []) : ∃ g cp, v = .slice (some ⟨g, 0, none⟩) l.length cp ∧ B ≤ g ∧ g < w.heap.size ∧ l.length ≤ cp ∧ ∀ i (hi : i < l.length), RcAt w g (i * 4) l[i] := by
  rcases h.2 with ⟨_, h2⟩ | ⟨g, c, cur, rfl, h4, h5, h6, h7, h8, h9⟩
  · exact absurd (List.eq_nil_of_length_eq_zero h2) hl
  · refine ⟨g, c, rfl, h4, (Array.getElem?_eq_some_iff.1 h5).1, h6, fun i hi => ?_⟩
    have key : ∀ j, j < 4 → w.cell? ⟨g, i * 4 + j, none⟩ = (runv l[i])[j]? := fun j hj => by
      rw [← rflat_at l i j hi hj, ← h9]
      simp only [World.cell?, h5]
      rw [List.getElem?_take_of_lt (by omega)]
      simp
    exact ⟨by simpa [runv] using key 0 (by omega), by simpa [runv] using key 1 (by omega), by simpa [runv] using key 2 (by omega), by simpa [runv] using key 3 (by omega)⟩
theorem ROwns.formL {w : World} {B : Nat} {v : Value} {l : List Pc} (h : ROwns w B v l) : ∃ ao cp, v = .slice ao l.length cp := by
  rcases h.2 with ⟨rfl, hn⟩ | ⟨g, c, cur, rfl, _⟩
  · exact ⟨none, 0, by rw [hn]⟩
  · exact ⟨_, _, rfl⟩
theorem used_take {l : List Pc} (h : ∀ p ∈ l, isUsed p = true) (k : Nat) (hk : k < l.length) : rowsL isUsed (l.take (k + 1)) = rowsL isUsed (l.take k) + l[k].n := by
  rw [List.take_succ_eq_append_getElem hk, rowsL_append]
  simp [rowsL, h l[k] (List.getElem_mem _)]
theorem fits_drop {a b : Nat} {l : List Pc} (h : Fits a l b) (k : Nat) (hk : k < l.length) (c : Nat) (hc : Fits c (l.drop k) b) : c ≤ l[k].at' ∧ 1 ≤ l[k].n ∧ l[k].stop ≤ b ∧ Fits l[k].stop (l.drop (k + 1)) b := by
  rw [List.drop_eq_getElem_cons hk] at hc
  simp only [Fits] at hc
  obtain ⟨h1, h2, h3⟩ := hc
  exact ⟨h1, h2, h3.le, h3⟩
end Go.Proofs.YtcfmjjpbekpoeafDoor
