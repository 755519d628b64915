import Derived.Test.YtcpdnalmoaojlaaDoorHSp31

/-
  without, all of it.
-/
namespace Go.Proofs.YtcpdnalmoaojlaaDoor
open Go.ChangeShapes Go.WideShapes Go.ChangeAt Go.RowKit
set_option linter.unusedVariables false
set_option linter.unusedSimpArgs false

theorem fits_filt {a b : Nat} {l : List Pc} (f : Pc → Bool) (h : Fits a l b) : Fits a (l.filter f) b := by
  induction l generalizing a with
  | nil => simpa [Fits] using h
  | cons x l ih =>
    simp only [Fits] at h
    obtain ⟨h1, h2, h3⟩ := h
    have h4 := ih h3
    by_cases hx : f x = true
    · rw [List.filter_cons_of_pos hx]
      simp only [Fits]
      exact ⟨h1, h2, h4⟩
    · rw [List.filter_cons_of_neg hx]
      exact h4.mono (by have : x.stop = x.at' + x.n := rfl; omega) (Nat.le_refl _)
theorem outL_lt {la lr : List Pc} {q : Pc} {a lo hi : Nat} (h : Fits lo (la ++ q :: lr) hi) (ha : a < q.at') : outL (la ++ q :: lr) a = outL la a ++ q :: lr := by
  have h2 := (fits_lt h).2
  unfold outL
  rw [List.filter_append]
  congr 1
  rw [List.filter_cons_of_pos (by simp; omega)]
  congr 1
  refine List.filter_eq_self.2 (fun p hp => ?_)
  have := h2 p hp
  simp
  omega
theorem outL_gt {la lr : List Pc} {q : Pc} {a lo hi : Nat} (h : Fits lo (la ++ q :: lr) hi) (ha : q.at' < a) : outL (la ++ q :: lr) a = la ++ q :: outL lr a := by
  have h1 := (fits_lt h).1
  unfold outL
  rw [List.filter_append, List.filter_cons_of_pos (by simp; omega)]
  congr 1
  refine List.filter_eq_self.2 (fun p hp => ?_)
  have := h1 p hp
  simp
  omega
theorem KD.below {w w' : World} {k : Nat} {p : Option Addr} {l : List Pc} (h : KD w k p l) (hW : Below w.heap.size w w') : KD w' k p l := KD.keep (fun b cur e => hW.block b (Array.getElem?_eq_some_iff.1 e).1) k _ _ h
theorem without_any (k : Nat) : ∀ (p : Option Addr) (l : List Pc) (a lo hi : Nat) (w : World), KD w k p l → Fits lo l hi → hi ≤ 1073741824 → Calls Tryd.prog 60 #[.pointer p, .int .i64 (a : Int)] w (KPost w (outL l a)) := by
  induction k with
  | zero =>
    rintro p l a lo hi w ⟨rfl, rfl⟩ hf hb
    exact wo_none a w
  | succ k ih =>
    rintro p l a lo hi w (⟨rfl, rfl⟩ | ⟨g, p1, p2, la, q, lr, d, wd, rfl, rfl, hg, hok, h1, h2⟩) hf hb
    · exact wo_none a w
    · obtain ⟨f1, f2, f3⟩ := fits_cut.1 hf
      have hqb : q.at' ≤ hi := by have := f3.le; have : q.stop = q.at' + q.n := rfl; omega
      have K1 : KT w p1 la := ⟨k, h1⟩
      have K2 : KT w p2 lr := ⟨k, h2⟩
      have hfo : Fits lo (outL (la ++ q :: lr) a) hi := fits_filt _ hf
      by_cases hlt : a < q.at'
      · rw [outL_lt hf hlt] at hfo ⊢
        refine wo_lt a q g p1 p2 (outL la a) _ d _ _ wd w hg hlt ?_ ?_
        · intro W hW
          exact ih p1 la a lo q.at' W (h1.below hW) f1 (by omega)
        · intro W t hW ht
          exact bal_any t p2 _ lr q lo hi W ht (K2.below hW) hfo hb
      · by_cases hgt : q.at' < a
        · rw [outL_gt hf hgt] at hfo ⊢
          refine wo_gt a q g p1 p2 (outL lr a) _ d _ _ wd w hg hgt ?_ ?_
          · intro W hW
            exact ih p2 lr a q.stop hi W (h2.below hW) f3 hb
          · intro W t hW ht
            exact bal_any p1 t la _ q lo hi W (K1.below hW) ht hfo hb
        · obtain rfl : a = q.at' := by omega
          rw [outL_mid hf] at hfo ⊢
          cases p2 with
          | none =>
            rw [K2.of_none, List.append_nil]
            exact wo_last q g p1 la d _ _ wd w hg K1
          | some x =>
            obtain ⟨hb2, p3, p4, l3, z, l4, d', wd', rfl, hl, hh, _⟩ := K2.of_some
            have hne : lr ≠ [] := by rw [hl]; simp
            obtain ⟨y, lr', hy⟩ : ∃ y lr', lr = y :: lr' := by
              cases lr with
              | nil => exact absurd rfl hne
              | cons y lr' => exact ⟨y, lr', rfl⟩
            have hfst : fstL lr = y.at' := by rw [hy]; rfl
            obtain ⟨r, hft, hor⟩ := KD.ft ((fstL lr : Nat) : Int) k _ lr _ _ h2 f3
            have hro : OwnK w r y := by
              rcases hor with ⟨q', hq', e, ho⟩ | ⟨hno, _⟩
              · have : q' = y := fits_inj f3 q' hq' y (by rw [hy]; simp) (by rw [hfst] at e; omega)
                rw [← this]; exact ho
              · exact absurd (by rw [hfst]) (hno y (by rw [hy]; simp))
            obtain ⟨r', pl, pr, d2, f', e2, wd2, rfl, hr'⟩ := hro
            have f3' : Fits q.stop (y :: lr') hi := by rw [← hy]; exact f3
            have hout : outL lr y.at' = lr' := by
              have h := outL_mid (l := []) (m := lr') (q := y) (a := q.stop) (b := hi) (by simpa using f3')
              rw [hy]
              simpa using h
            refine wo_mid q y g hb2 r' p1 lr' _ ((fstL lr : Nat) : Int) d _ _ wd w hg (kn_cells hh).2.2.2.2.2.2.2.2.1 (Array.getElem?_eq_some_iff.1 hh).1 ⟨pl, pr, d2, f', e2, wd2, hr'⟩ ?_ ?_ ?_
            · intro W hW
              exact find_to k _ _ _ W (FT.below hW k _ hft)
            · intro W hW
              have h := ih _ lr y.at' q.stop hi W (h2.below hW) f3 hb
              rw [hout] at h
              exact h
            · intro W t hW ht
              rw [hy] at hfo ⊢
              exact bal_any p1 t la lr' y lo hi W (K1.below hW) ht hfo hb
end Go.Proofs.YtcpdnalmoaojlaaDoor
