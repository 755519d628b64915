import Derived.Test.YtcpdnalmoaojlaaDoorGSp2

/-
  tie, whatever lies ahead and behind.
-/
namespace Go.Proofs.YtcpdnalmoaojlaaDoor
open Go.ChangeShapes Go.WideShapes Go.ChangeAt Go.RowKit
set_option linter.unusedVariables false

/-- What a call leaves that makes a list. -/
def KPost (w : World) (l : List Pc) (e : Ending) (w' : World) : Prop := ∃ p, e = .returned (.pointer p) ∧ KT w' p l ∧ Below w.heap.size w w'
theorem KPost.of_tie {w : World} {x : Pc} {pl pr : Option Addr} {d f e : Nat} {wd : Int} {la lr : List Pc} {ev : Ending} {w' : World} (h : TieW w x pl pr d f e wd ev w') (hl : KT w pl la) (hr : KT w pr lr) (hf : f = fstL (la ++ x :: lr)) (he : e = lstL (la ++ x :: lr)) (hk : KnOk (la ++ x :: lr) d wd) : KPost w (la ++ x :: lr) ev w' := by
  obtain ⟨g, h1, h2, h3, h4⟩ := h
  subst hf he
  exact ⟨_, h1, KT.node h3 hk (hl.below h4) (hr.below h4), h4⟩
theorem tie_any (pl pr : Option Addr) (la lr : List Pc) (x : Pc) (a b : Nat) (w : World) (hl : KT w pl la) (hr : KT w pr lr) (hf : Fits a (la ++ x :: lr) b) (hb : b ≤ 1073741824) : Calls Tryd.prog 69 #[.pointer pl, .agg (pcv x), .pointer pr] w (KPost w (la ++ x :: lr)) := by
  obtain ⟨f1, f2, f3⟩ := fits_cut.1 hf
  have hst : x.stop ≤ 1073741824 := Nat.le_trans f3.le hb
  have hlen := fits_len hf
  have hll := fits_len f1
  have hlr := fits_len f3
  have hsp : x.stop = x.at' + x.n := rfl
  rw [List.length_append, List.length_cons] at hlen
  have hcase : ∀ (p : Option Addr) (l : List Pc), KT w p l → (p = none ∧ l = []) ∨ ∃ b d wd, p = some ⟨b, 0, none⟩ ∧ l ≠ [] ∧ KnOk l d wd ∧ w.cell? ⟨b, 7, none⟩ = some (.int .i64 (d : Int)) ∧ w.cell? ⟨b, 8, none⟩ = some (.int .i64 (fstL l : Int)) ∧ w.cell? ⟨b, 9, none⟩ = some (.int .i64 (lstL l : Int)) ∧ w.cell? ⟨b, 10, none⟩ = some (.int .i64 wd) ∧ b < w.heap.size := by
    intro p l h
    cases p with
    | none => exact .inl ⟨rfl, h.of_none⟩
    | some p =>
      obtain ⟨b, pl, pr, la, x, lr, d, wd, rfl, h2, h3, h4, _⟩ := h.of_some
      obtain ⟨_, _, _, _, _, _, _, c7, c8, c9, c10⟩ := kn_cells h3
      exact .inr ⟨b, d, wd, rfl, by rw [h2]; simp, h4, c7, c8, c9, c10, (Array.getElem?_eq_some_iff.1 h3).1⟩
  rcases hcase pl la hl with ⟨rfl, rfl⟩ | ⟨b1, d1, v1, rfl, n1, k1, c7, c8, c9, c10, hb1⟩
  · rcases hcase pr lr hr with ⟨rfl, rfl⟩ | ⟨b2, d2, v2, rfl, n2, k2, e7, e8, e9, e10, hb2⟩
    · refine (tie_nn x w hst).mono fun e w' h => KPost.of_tie h hl hr rfl rfl ⟨Nat.le_refl _, by simp, Int.le_refl _, by omega, ?_⟩
      exact wide_join (wide_nil 0) (wide_nil 0) (fun h => absurd rfl h) (fun h => absurd rfl h)
    · obtain ⟨g1, g2, g3⟩ := fits_ends n2 f3
      have hd := k2.dl
      have hw := k2.w1
      have hw0 := k2.w0
      refine (tie_nk x w hst b2 _ _ d2 v2 e7 e8 e9 e10 hb2 (by omega) (by omega) k2.w0 k2.w1 k2.d1 (by omega)).mono fun e w' h => KPost.of_tie h hl hr rfl ?_ ⟨by omega, by simp; omega, by omega, by omega, ?_⟩
      · rw [lstL_app _ _ (by simp)]
        cases lr with
        | nil => exact absurd rfl n2
        | cons q lr => rfl
      · exact wide_join (wide_nil 0) k2.wide (fun h => absurd rfl h) (fun _ => ⟨by omega, by omega⟩)
  · obtain ⟨u1, u2, u3⟩ := fits_ends n1 f1
    have hd1 := k1.dl
    have hv1 := k1.w1
    have hv0 := k1.w0
    rcases hcase pr lr hr with ⟨rfl, rfl⟩ | ⟨b2, d2, v2, rfl, n2, k2, e7, e8, e9, e10, hb2⟩
    · refine (tie_kn x w hst b1 _ _ d1 v1 c7 c8 c9 c10 hb1 (by omega) (by omega) k1.w0 k1.w1 k1.d1 (by omega)).mono fun e w' h => KPost.of_tie h hl hr (fstL_app _ _ n1).symm ?_ ⟨by omega, by simp; omega, by omega, by omega, ?_⟩
      · rw [lstL_end]
      · exact wide_join k1.wide (wide_nil 0) (fun _ => ⟨by omega, by omega⟩) (fun h => absurd rfl h)
    · obtain ⟨g1, g2, g3⟩ := fits_ends n2 f3
      have hd := k2.dl
      have hw := k2.w1
      have hw0 := k2.w0
      refine (tie_kk x w hst b1 _ _ d1 v1 c7 c8 c9 c10 hb1 (by omega) (by omega) k1.w0 k1.w1 k1.d1 (by omega) b2 _ _ d2 v2 e7 e8 e9 e10 hb2 (by omega) (by omega) k2.w0 k2.w1 k2.d1 (by omega)).mono fun e w' h => KPost.of_tie h hl hr (fstL_app _ _ n1).symm ?_ ⟨by omega, by simp; omega, by omega, by omega, ?_⟩
      · rw [lstL_app _ _ (by simp)]
        cases lr with
        | nil => exact absurd rfl n2
        | cons q lr => rfl
      · exact wide_join k1.wide k2.wide (fun _ => ⟨by omega, by omega⟩) (fun _ => ⟨by omega, by omega⟩)
end Go.Proofs.YtcpdnalmoaojlaaDoor
