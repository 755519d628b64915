import Derived.Test.YtcpdnalmoaojlaaDoorHQ5
import Derived.BigRegion

/-
  The document's Drop.
-/
namespace Go.Proofs.YtcpdnalmoaojlaaDoor
open Go.RowKit Go.Shelf
set_option linter.unusedVariables false
set_option linter.unusedSimpArgs false

def goneR (o : Bool) : RR := ⟨-1, o, 0, 0, 0, false⟩
def partR (f : Nat → RR) (i k : Nat) (x : RR) : Nat → RR := fun t => if i ≤ t ∧ t < k then x else f t
def dropF (f : Nat → RR) (i : Nat) : Nat → RR := if (f i).uses = 1 then partR f i (i + (f i).n) (goneR (f i).old) else upd f i { f i with uses := (f i).uses - 1 }
def RDrop (w : World) (r rows : Nat) (v : Value) (f : Nat → RR) (at' : Int) (e : Ending) (w' : World) : Prop :=
  Kept (fun k => ¬ own v k) w w' ∧ ((bgn rows f at' = false ∧ e = .returned (.int .i64 3) ∧ RfAt w' r v rows f) ∨
    ∃ i : Nat, at' = (i : Int) ∧ i < rows ∧ (f i).run = (i : Int) ∧ e = .returned (.int .i64 0) ∧ RfAt w' r v rows (dropF f i))
/-- Six cells of one block are written: another block's are as they were. -/
theorem six_other {w : World} {g a b c d e f r o : Nat} {x0 x1 x2 x3 x4 x5 : Value} {u : Value} (hg : r ≠ g) (h : w.cell? ⟨r, o, none⟩ = some u) : ((((((w.setCell ⟨g, a, none⟩ x0).setCell ⟨g, b, none⟩ x1).setCell ⟨g, c, none⟩ x2).setCell ⟨g, d, none⟩ x3).setCell ⟨g, e, none⟩ x4).setCell ⟨g, f, none⟩ x5).cell? ⟨r, o, none⟩ = some u := by
  have key : ∀ (W : World) (p : Nat) (x : Value), (W.setCell ⟨g, p, none⟩ x).cell? ⟨r, o, none⟩ = W.cell? ⟨r, o, none⟩ := fun W p x => World.cell?_of_block (w := W) (Below.heap_setCell _ _ _ _ hg)
  rw [key, key, key, key, key, key]
  exact h
set_option maxRecDepth 100000 in
set_option maxHeartbeats 4000000 in
theorem rdrop_any (r rows : Nat) (v : Value) (f : Nat → RR) (at' : Int) (w : World) (hR : RfAt w r v rows f) (hr : rows ≤ 1073741824) (ha : -9223372036854775808 ≤ at' ∧ at' ≤ 9223372036854775807) (hu : ∀ i, i < rows → (f i).run = (i : Int) → 1 ≤ (f i).n ∧ i + (f i).n ≤ rows ∧ 1 ≤ (f i).uses ∧ (f i).uses ≤ 65535) :
    Calls Tryd.prog 26 #[.pointer (some ⟨r, 0, none⟩), .int .i64 at'] w (RDrop w r rows v f at') := by
  have HBG := hid_mk (begins_any r rows v f at' w hR hr ha)
  have HR := hid_mk hR
  obtain ⟨b, hb⟩ : ∃ b, b = bgn rows f at' := ⟨_, rfl⟩
  rw [← hb] at HBG
  cases b with
  | false =>
    have HB := hid_mk hb.symm
    clear hb hR
    go_enter Tryd.func26, Tryd.ntmps26
    go_wp2_with (first | (go_at_call 47; refine HBG.out.mono ?_; clear HBG; rintro e w2 ⟨rfl, hw2⟩; rw [hw2]; clear hw2))
    go_ret
    exact ⟨Kept.refl _ _, .inl ⟨HB.out, rfl, HR.out⟩⟩
  | true =>
    obtain ⟨i, rfl, hi, hrun⟩ := bgn_true hb.symm
    obtain ⟨hn1, hn2, hu1, hu2⟩ := hu i hi hrun
    have hc := hR.cell
    obtain ⟨ao, cp, rfl⟩ := hR.rows.form
    obtain ⟨g, cp', cur, hv, hg, hcp, hrow⟩ := hR.rows.at (by omega)
    obtain ⟨rfl, rfl⟩ : ao = some ⟨g, 0, none⟩ ∧ cp = cp' := by simp at hv; exact hv
    have hgr : r ≠ g := fun e => hR.ne (k := g) rfl e.symm
    obtain ⟨r0, r1, r2, r3, r4, r5⟩ := hrow i hi
    have hii : (i : Int) < (rows : Int) := by omega
    have hfz := unfrozen hg
    have HRUN := hid_mk hrun
    obtain ⟨x, hx⟩ : ∃ x, x = f i := ⟨_, rfl⟩
    rw [← hx] at r0 r1 r2 r3 r4 r5 hn1 hn2 hu1 hu2
    obtain ⟨xr, xh, xn, xu, xt, xo⟩ := x
    simp only [] at r0 r1 r2 r3 r4 r5 hn1 hn2 hu1 hu2
    obtain ⟨U, hU⟩ : ∃ U : Int, U = ((xu - 1 : Nat) : Int) := ⟨_, rfl⟩
    have x1 : IntKind.i64.wrap ((xu : Int) - 1) = U := by rw [IntKind.wrap_i64]; omega
    have HP1 := hid_mk (hR.put (x := ⟨xr, xh, xn, xu - 1, xt, xo⟩) (u := .int .i64 U) (g := g) rfl hi (j := 3) (by omega) rfl (by rw [← hx, hU]; rfl))
    obtain ⟨W1, hW1⟩ : ∃ W1, W1 = w.setCell ⟨g, i * 6 + 3, none⟩ (.int .i64 U) := ⟨_, rfl⟩
    rw [← hW1] at HP1
    have HK1 : Hid (Kept (fun k => ¬ own (.slice (some ⟨g, 0, none⟩) rows cp) k) w W1) := by show Kept _ _ _; rw [hW1]; exact (Kept.refl _ _).setOwn rfl
    have d0 := HP1.out.cell
    obtain ⟨g2, cp2, cur2, hv2, hg2, _, hrow2⟩ := HP1.out.rows.at (by omega)
    obtain ⟨e1, e2⟩ : g = g2 ∧ cp = cp2 := by simp at hv2; exact hv2
    subst e1 e2
    obtain ⟨s0, s1, s2, s3, s4, s5⟩ := hrow2 i hi
    rw [upd_at] at s0 s1 s2 s3 s4 s5
    simp only [] at s0 s1 s2 s3 s4 s5
    rw [← hU] at s3
    have HX := hid_mk hx
    have HXU : Hid (1 ≤ xu ∧ U = ((xu - 1 : Nat) : Int)) := ⟨hu1, hU⟩
    have hn0 : (i : Int) + (xn : Int) ≤ (rows : Int) := by omega
    have x2 : IntKind.i64.wrap ((i : Int) + (xn : Int)) = (i : Int) + (xn : Int) := by rw [IntKind.wrap_i64]; omega
    clear hb hR hrow hv hg hrun hrow2 hv2 hg2 hu hU hu2
    go_enter Tryd.func26, Tryd.ntmps26
    go_upto_region 4 with (first | (go_at_call 47; refine HBG.out.mono ?_; clear HBG; rintro e w2 ⟨rfl, hw2⟩; rw [hw2]; clear hw2))
    rw [← hW1]
    clear hW1 r0 r1 r2 r3 r4 r5 hfz hc
    obtain ⟨X, hX⟩ : ∃ X, X = W1.alloc (.cells #[.int .i64 xr, .bool xh, .int .i64 (xn : Int), .int .i64 U, .int .u64 (xt : Int), .bool xo] 89) := ⟨_, rfl⟩
    obtain ⟨B, hB⟩ : ∃ B, B = W1.heap.size := ⟨_, rfl⟩
    have bX : Below W1.heap.size W1 X := by rw [hX]; exact Below.alloc (Below.refl _ _) (Nat.le_refl _) _
    have eX : X.heap[B]? = some (.cells #[.int .i64 xr, .bool xh, .int .i64 (xn : Int), .int .i64 U, .int .u64 (xt : Int), .bool xo] 89 (0, 0)) := by rw [hX, hB]; exact heap_alloc_new _ _
    have d3 : X.cell? ⟨B, 3, none⟩ = some (.int .i64 U) := by simp [World.cell?, eX]
    have HRX := hid_mk (HP1.out.below bX)
    have HKX : Hid (Kept (fun k => ¬ own (.slice (some ⟨g, 0, none⟩) rows cp) k) w X) := HK1.out.trans (Kept.of_below bX)
    have hBg : B ≠ g := by have := HP1.out.ownlt (k := g) rfl; omega
    have HEX := hid_mk eX
    go_upto_region 5 with fail
    rw [← hX, ← hB]
    clear hX hB bX eX s0 s1 s2 s3 s4 s5 HP1 HK1
    by_cases h0 : U = 0
    · have h1u : xu = 1 := by have := HXU.out.2; omega
      have HFIN : Hid (dropF f i = partR (upd f i ⟨xr, xh, xn, xu - 1, xt, xo⟩) i (i + xn) (goneR xo)) := by
        show _ = _
        unfold dropF
        rw [← HX.out]
        simp only []
        rw [if_pos h1u]
        funext t
        unfold partR upd
        by_cases c : i ≤ t ∧ t < i + xn
        · rw [if_pos c, if_pos c]
        · rw [if_neg c, if_neg c, if_neg (by omega)]
      obtain ⟨f1, hf1⟩ : ∃ f1, f1 = upd f i ⟨xr, xh, xn, xu - 1, xt, xo⟩ := ⟨_, rfl⟩
      rw [← hf1] at HRX HFIN
      have HH1 := hid_mk h1u
      clear hf1 h1u
      subst h0
      go_wp2_with fail
      go_loopg [6] xn (fun k t wr => ∃ j : Nat, t = .int .i64 ((i + j : Nat) : Int) ∧ j ≤ xn ∧ k = xn - j ∧ Kept (fun k => ¬ own (.slice (some ⟨g, 0, none⟩) rows cp) k) w wr ∧ RfAt wr r (.slice (some ⟨g, 0, none⟩) rows cp) rows (partR f1 i (i + j) (goneR xo)) ∧ wr.heap[B]? = some (.cells #[.int .i64 xr, .bool xh, .int .i64 (xn : Int), .int .i64 0, .int .u64 (xt : Int), .bool xo] 89 (0, 0)))
      case atStart =>
        refine ⟨0, by simp, by omega, by omega, HKX.out, HRX.out.congr fun t _ => ?_, HEX.out⟩
        unfold partR
        rw [if_neg (by omega)]
      case round =>
        obtain ⟨j, rfl, hj, hk, hkp, hRw, hBk⟩ := hrel
        have HGK := hid_mk hk
        have HKP := hid_mk hkp
        have HRW := hid_mk hRw
        have HBK := hid_mk hBk
        have c0 := hRw.cell
        have b2 : wr.cell? ⟨B, 2, none⟩ = some (.int .i64 (xn : Int)) := by simp [World.cell?, hBk]
        have b5 : wr.cell? ⟨B, 5, none⟩ = some (.bool xo) := by simp [World.cell?, hBk]
        obtain ⟨t, ht⟩ : ∃ t : Nat, t = i + j := ⟨_, rfl⟩
        rw [← ht]
        clear hk hkp hBk d0 d3
        by_cases hlt : j < xn
        · have hti : (t : Int) < (i : Int) + (xn : Int) := by omega
          have htr : t < rows := by omega
          have htri : (t : Int) < (rows : Int) := by omega
          obtain ⟨g3, cp3, cur3, hv3, hg3, _, hrow3⟩ := hRw.rows.at (by omega)
          obtain ⟨e1, e2⟩ : g = g3 ∧ cp = cp3 := by simp at hv3; exact hv3
          subst e1 e2
          obtain ⟨q0, q1, q2, q3, q4, q5⟩ := hrow3 t htr
          have hfz := unfrozen hg3
          have HFN : Hid (RfAt ((((((wr.setCell ⟨g, t * 6, none⟩ (.int .i64 (-1))).setCell ⟨g, t * 6 + 1, none⟩ (.bool xo)).setCell ⟨g, t * 6 + 2, none⟩ (.int .i64 0)).setCell ⟨g, t * 6 + 3, none⟩ (.int .i64 0)).setCell ⟨g, t * 6 + 4, none⟩ (.int .u64 0)).setCell ⟨g, t * 6 + 5, none⟩ (.bool false)) r (.slice (some ⟨g, 0, none⟩) rows cp) rows (partR f1 i (i + (j + 1)) (goneR xo)) ∧ Kept (fun k => ¬ own (.slice (some ⟨g, 0, none⟩) rows cp) k) w ((((((wr.setCell ⟨g, t * 6, none⟩ (.int .i64 (-1))).setCell ⟨g, t * 6 + 1, none⟩ (.bool xo)).setCell ⟨g, t * 6 + 2, none⟩ (.int .i64 0)).setCell ⟨g, t * 6 + 3, none⟩ (.int .i64 0)).setCell ⟨g, t * 6 + 4, none⟩ (.int .u64 0)).setCell ⟨g, t * 6 + 5, none⟩ (.bool false))) := by
            refine ⟨(hRw.row (goneR xo) (g := g) rfl htr).congr fun s _ => ?_, (((((HKP.out.setOwn rfl).setOwn rfl).setOwn rfl).setOwn rfl).setOwn rfl).setOwn rfl⟩
            unfold upd partR
            by_cases c : s = t
            · rw [if_pos c, if_pos (by omega)]
            · rw [if_neg c]
              by_cases c2 : i ≤ s ∧ s < i + j
              · rw [if_pos c2, if_pos (by omega)]
              · rw [if_neg c2, if_neg (by omega)]
          have HBO : Hid (∀ x0 x1 x2 x3 x4 x5, ((((((wr.setCell ⟨g, t * 6, none⟩ x0).setCell ⟨g, t * 6 + 1, none⟩ x1).setCell ⟨g, t * 6 + 2, none⟩ x2).setCell ⟨g, t * 6 + 3, none⟩ x3).setCell ⟨g, t * 6 + 4, none⟩ x4).setCell ⟨g, t * 6 + 5, none⟩ x5).heap[B]? = wr.heap[B]?) := by
            intro x0 x1 x2 x3 x4 x5
            rw [Below.heap_setCell _ _ _ _ hBg, Below.heap_setCell _ _ _ _ hBg, Below.heap_setCell _ _ _ _ hBg, Below.heap_setCell _ _ _ _ hBg, Below.heap_setCell _ _ _ _ hBg, Below.heap_setCell _ _ _ _ hBg]
          have HT := hid_mk ht
          clear hRw hv3 hg3 hrow3 ht
          go_wp2_with fail
          go_region
          obtain ⟨k1, k2⟩ := HFN.out
          have HR3 := hid_mk (k1.below (Below.drew (Below.refl _ _)))
          have HK3 := hid_mk (k2.trans (Kept.of_below (Below.drew (Below.refl _ _))))
          have HB3 := hid_mk ((HBO.out (.int .i64 (-1)) (.bool xo) (.int .i64 0) (.int .i64 0) (.int .u64 0) (.bool false)).trans HBK.out)
          clear k1 k2 HFN HBO q0 q1 q2 q3 q4 q5 hfz
          go_wp2_with fail
          go_roundg (xn - (j + 1))
          case measure => have := HGK.out; omega
          case rel => exact ⟨j + 1, by have := HT.out; go_num, by omega, rfl, HK3.out, HR3.out, HB3.out⟩
        · obtain rfl : j = xn := by omega
          have hti : ¬ (t : Int) < (i : Int) + (j : Int) := by omega
          clear hRw ht
          go_wp2_with fail
          go_ret
          refine ⟨HKP.out, .inr ⟨i, rfl, hi, HRUN.out, rfl, ?_⟩⟩
          rw [HFIN.out]
          exact HRW.out
    · have HFIN : Hid (dropF f i = upd f i ⟨xr, xh, xn, xu - 1, xt, xo⟩) := by
        show _ = _
        unfold dropF
        rw [← HX.out]
        simp only []
        rw [if_neg (by have := HXU.out; omega)]
      go_wp2_with fail
      go_ret
      refine ⟨HKX.out, .inr ⟨i, rfl, hi, HRUN.out, rfl, ?_⟩⟩
      rw [HFIN.out]
      exact HRX.out
end Go.Proofs.YtcpdnalmoaojlaaDoor
