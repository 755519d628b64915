import Derived.Test.YtcpdnalmoaojlaaDoorHQ1
import Derived.Test.YtcpdnalmoaojlaaDoorHSp33
import Derived.Deep.CutBlock
import Derived.Deep.DeepCutAuto
import Derived.Deep.LoopGhost
import Derived.Deep.RegionHeld3

/-
  The document's begins, Find, Share.
-/
namespace Go.Proofs.YtcpdnalmoaojlaaDoor
open Go.RowKit Go.Shelf
set_option linter.unusedVariables false
set_option linter.unusedSimpArgs false

/-- Whether a run begins at a row. -/
def bgn (rows : Nat) (f : Nat → RR) (at' : Int) : Bool := decide (0 ≤ at' ∧ at' < (rows : Int) ∧ (f at'.toNat).run = at')
theorem bgn_true {rows : Nat} {f : Nat → RR} {at' : Int} (h : bgn rows f at' = true) : ∃ i : Nat, at' = (i : Int) ∧ i < rows ∧ (f i).run = (i : Int) := by
  have h' := of_decide_eq_true h
  obtain ⟨h1, h2, h3⟩ := h'
  refine ⟨at'.toNat, by omega, by omega, ?_⟩
  rw [h3]; omega
theorem bgn_nat {rows : Nat} {f : Nat → RR} {i : Nat} (h : i < rows) : bgn rows f (i : Int) = decide ((f i).run = (i : Int)) := by
  unfold bgn
  rw [decide_eq_decide]
  constructor
  · rintro ⟨_, _, h3⟩; simpa using h3
  · intro h3; exact ⟨by omega, by omega, by simpa using h3⟩
set_option maxRecDepth 100000 in
set_option maxHeartbeats 4000000 in
theorem begins_any (r rows : Nat) (v : Value) (f : Nat → RR) (at' : Int) (w : World) (hR : RfAt w r v rows f) (hr : rows ≤ 1073741824) (ha : -9223372036854775808 ≤ at' ∧ at' ≤ 9223372036854775807) :
    Calls Tryd.prog 47 #[.pointer (some ⟨r, 0, none⟩), .int .i64 at'] w fun e w' => e = .returned (.bool (bgn rows f at')) ∧ w' = w := by
  have hc := hR.cell
  obtain ⟨ao, cp, rfl⟩ := hR.rows.form
  by_cases h0 : at' < 0
  · have hb : bgn rows f at' = false := decide_eq_false (fun h => by omega)
    have HB := hid_mk hb
    have h0' : ¬ 0 ≤ at' := by omega
    clear hb hR
    go_enter Tryd.func47, Tryd.ntmps47
    go_wp2
    go_ret
    exact ⟨by rw [HB.out]; rfl, rfl⟩
  · have h0' : 0 ≤ at' := by omega
    by_cases h1 : at' < (rows : Int)
    · obtain ⟨i, rfl⟩ : ∃ i : Nat, at' = (i : Int) := ⟨at'.toNat, by omega⟩
      have hi : i < rows := by omega
      obtain ⟨g, cp', cur, hv, hg, hcp, hrow⟩ := hR.rows.at (by omega)
      obtain ⟨rfl, rfl⟩ : ao = some ⟨g, 0, none⟩ ∧ cp = cp' := by simp at hv; exact hv
      obtain ⟨r0, _⟩ := hrow i hi
      have HB := hid_mk (bgn_nat (f := f) hi)
      obtain ⟨x, hx⟩ : ∃ x : Int, x = (f i).run := ⟨_, rfl⟩
      rw [← hx] at r0 HB
      clear hR hrow hv hg hx h0
      by_cases hxe : x = (i : Int)
      · go_enter Tryd.func47, Tryd.ntmps47
        go_wp2
        go_ret
        exact ⟨by rw [HB.out]; simp [hxe], rfl⟩
      · go_enter Tryd.func47, Tryd.ntmps47
        go_wp2
        go_ret
        exact ⟨by rw [HB.out]; simp [hxe], rfl⟩
    · have hb : bgn rows f at' = false := decide_eq_false (fun h => by omega)
      have HB := hid_mk hb
      clear hb hR
      go_enter Tryd.func47, Tryd.ntmps47
      go_wp2
      go_ret
      exact ⟨by rw [HB.out]; rfl, rfl⟩
theorem rf_val {rows : Nat} {f : Nat → RR} {i : Nat} (h : bgn rows f (i : Int) = true) (hi : i < rows) : (f i).run = (i : Int) := by
  rw [bgn_nat hi] at h
  exact of_decide_eq_true h
def RFind (w : World) (rows : Nat) (f : Nat → RR) (at' : Int) (e : Ending) (w' : World) : Prop :=
  Below w.heap.size w w' ∧ ((bgn rows f at' = false ∧ e = .returned (.tuple #[.agg #[.int .i64 0, .int .i64 0, .int .i64 0, .int .u64 0], .int .i64 3])) ∨
    (bgn rows f at' = true ∧ e = .returned (.tuple #[.agg #[.int .i64 at', .int .i64 ((f at'.toNat).n : Int), .int .i64 ((f at'.toNat).uses : Int), .int .u64 ((f at'.toNat).tag : Int)], .int .i64 0])))
set_option maxRecDepth 100000 in
theorem load_run (w : World) (g : Nat) (a b c d : Value) (h : w.heap[g]? = some (.cells #[a, b, c, d] 48 (0, 0))) : (loadVar 48 ⟨g, 0, none⟩).run Tryd.prog w = .ok (.agg #[a, b, c, d]) w :=
  run_loadVar_row w g 48 48 #[a, b, c, d] (0, 0) _ h rfl rfl rfl
theorem put4 {w : World} {g : Nat} {a b c d a' b' c' d' : Value} {t : TypeId} (h : w.heap[g]? = some (.cells #[a, b, c, d] t (0, 0))) : ((((w.setCell ⟨g, 0, none⟩ a').setCell ⟨g, 1, none⟩ b').setCell ⟨g, 2, none⟩ c').setCell ⟨g, 3, none⟩ d').heap[g]? = some (.cells #[a', b', c', d'] t (0, 0)) := by
  rw [heap_put (heap_put (heap_put (heap_put h _) _) _) _]
  simp
set_option maxRecDepth 100000 in
set_option maxHeartbeats 4000000 in
theorem rfind_any (r rows : Nat) (v : Value) (f : Nat → RR) (at' : Int) (w : World) (hR : RfAt w r v rows f) (hr : rows ≤ 1073741824) (ha : -9223372036854775808 ≤ at' ∧ at' ≤ 9223372036854775807) :
    Calls Tryd.prog 36 #[.pointer (some ⟨r, 0, none⟩), .int .i64 at'] w (RFind w rows f at') := by
  obtain ⟨V, hV⟩ : ∃ V, V = w.alloc (.cells #[.int .i64 0, .int .i64 0, .int .i64 0, .int .u64 0] 48) := ⟨_, rfl⟩
  have bV : Below w.heap.size w V := by rw [hV]; exact Below.alloc (Below.refl _ _) (Nat.le_refl _) _
  have eV : V.heap[w.heap.size]? = some (.cells #[.int .i64 0, .int .i64 0, .int .i64 0, .int .u64 0] 48 (0, 0)) := by rw [hV]; exact heap_alloc_new _ _
  have hRV := hR.below bV
  have HBG := hid_mk (begins_any r rows v f at' V hRV hr ha)
  have HBV := hid_mk bV
  have f0 : V.cell? ⟨w.heap.size, 0, none⟩ = some (.int .i64 0) := by simp [World.cell?, eV]
  have f1 : V.cell? ⟨w.heap.size, 1, none⟩ = some (.int .i64 0) := by simp [World.cell?, eV]
  have f2 : V.cell? ⟨w.heap.size, 2, none⟩ = some (.int .i64 0) := by simp [World.cell?, eV]
  have f3 : V.cell? ⟨w.heap.size, 3, none⟩ = some (.int .u64 0) := by simp [World.cell?, eV]
  have ff := unfrozen eV
  have HEV := hid_mk eV
  obtain ⟨b, hb⟩ : ∃ b, b = bgn rows f at' := ⟨_, rfl⟩
  rw [← hb] at HBG
  cases b with
  | false =>
    have HB := hid_mk hb.symm
    clear hb hRV hR bV eV
    go_enter Tryd.func36, Tryd.ntmps36
    go_wp2_with fail
    rw [← hV]
    clear hV
    go_wp2_with (first | (go_at_call 47; refine HBG.out.mono ?_; clear HBG; rintro e w2 ⟨rfl, hw2⟩; rw [hw2]; clear hw2))
    refine bodyPost_ret (res_cell1 rfl _ _ w.heap.size _ rfl (load_run _ _ _ _ _ _ (put4 HEV.out))) rfl ⟨?_, .inl ⟨HB.out, rfl⟩⟩
    exact (((HBV.out.setCell (p := ⟨w.heap.size, 0, none⟩) (Nat.le_refl _) _).setCell (p := ⟨w.heap.size, 1, none⟩) (Nat.le_refl _) _).setCell (p := ⟨w.heap.size, 2, none⟩) (Nat.le_refl _) _).setCell (p := ⟨w.heap.size, 3, none⟩) (Nat.le_refl _) _
  | true =>
    have HB := hid_mk hb.symm
    obtain ⟨i, rfl, hi, hrun⟩ := bgn_true hb.symm
    have hc := hRV.cell
    obtain ⟨ao, cp, rfl⟩ := hRV.rows.form
    obtain ⟨g, cp', cur, hv, hg, hcp, hrow⟩ := hRV.rows.at (by omega)
    obtain ⟨rfl, rfl⟩ : ao = some ⟨g, 0, none⟩ ∧ cp = cp' := by simp at hv; exact hv
    obtain ⟨r0, r1, r2, r3, r4, r5⟩ := hrow i hi
    have hii : (i : Int) < (rows : Int) := by omega
    obtain ⟨x, hx⟩ : ∃ x, x = f i := ⟨_, rfl⟩
    rw [← hx] at r0 r1 r2 r3 r4 r5
    obtain ⟨xr, xh, xn, xu, xt, xo⟩ := x
    simp only [] at r0 r1 r2 r3 r4 r5
    obtain ⟨X, hX⟩ : ∃ X, X = V.alloc (.cells #[.int .i64 xr, .bool xh, .int .i64 (xn : Int), .int .i64 (xu : Int), .int .u64 (xt : Int), .bool xo] 89) := ⟨_, rfl⟩
    have bX : Below V.heap.size V X := by rw [hX]; exact Below.alloc (Below.refl _ _) (Nat.le_refl _) _
    have hwV : w.heap.size < V.heap.size := (Array.getElem?_eq_some_iff.1 eV).1
    have HEX : Hid (X.heap[w.heap.size]? = some (.cells #[.int .i64 0, .int .i64 0, .int .i64 0, .int .u64 0] 48 (0, 0))) := (bX.block _ hwV).trans eV
    have eX : X.heap[V.heap.size]? = some (.cells #[.int .i64 xr, .bool xh, .int .i64 (xn : Int), .int .i64 (xu : Int), .int .u64 (xt : Int), .bool xo] 89 (0, 0)) := by rw [hX]; exact heap_alloc_new _ _
    have d2 : X.cell? ⟨V.heap.size, 2, none⟩ = some (.int .i64 (xn : Int)) := by simp [World.cell?, eX]
    have d3 : X.cell? ⟨V.heap.size, 3, none⟩ = some (.int .i64 (xu : Int)) := by simp [World.cell?, eX]
    have d4 : X.cell? ⟨V.heap.size, 4, none⟩ = some (.int .u64 (xt : Int)) := by simp [World.cell?, eX]
    have g0 : X.cell? ⟨w.heap.size, 0, none⟩ = some (.int .i64 0) := (bX.cell (p := ⟨w.heap.size, 0, none⟩) hwV).trans f0
    have g1 : X.cell? ⟨w.heap.size, 1, none⟩ = some (.int .i64 0) := (bX.cell (p := ⟨w.heap.size, 1, none⟩) hwV).trans f1
    have g2 : X.cell? ⟨w.heap.size, 2, none⟩ = some (.int .i64 0) := (bX.cell (p := ⟨w.heap.size, 2, none⟩) hwV).trans f2
    have g3 : X.cell? ⟨w.heap.size, 3, none⟩ = some (.int .u64 0) := (bX.cell (p := ⟨w.heap.size, 3, none⟩) hwV).trans f3
    have gf := unfrozen HEX.out
    have HBX : Hid (Below w.heap.size w X) := HBV.out.trans (bX.mono HBV.out.size)
    have HX := hid_mk hx
    clear hb hRV hR bV eV hrow hv hg hrun bX eX hx hcp hwV
    go_enter Tryd.func36, Tryd.ntmps36
    go_wp2_with fail
    rw [← hV]
    clear hV
    go_upto_region 4 with (first | (go_at_call 47; refine HBG.out.mono ?_; clear HBG; rintro e w2 ⟨rfl, hw2⟩; rw [hw2]; clear hw2))
    rw [← hX]
    clear hX r0 r1 r2 r3 r4 r5 f0 f1 f2 f3 ff hc
    go_wp2_with fail
    refine bodyPost_ret (res_cell1 rfl _ _ w.heap.size _ rfl (load_run _ _ _ _ _ _ (put4 HEX.out))) rfl ⟨?_, .inr ⟨HB.out, ?_⟩⟩
    · exact (((HBX.out.setCell (p := ⟨w.heap.size, 0, none⟩) (Nat.le_refl _) _).setCell (p := ⟨w.heap.size, 1, none⟩) (Nat.le_refl _) _).setCell (p := ⟨w.heap.size, 2, none⟩) (Nat.le_refl _) _).setCell (p := ⟨w.heap.size, 3, none⟩) (Nat.le_refl _) _
    · rw [Int.toNat_natCast, ← HX.out]
      rfl
def RShare (w : World) (r rows : Nat) (v : Value) (f : Nat → RR) (at' : Int) (e : Ending) (w' : World) : Prop :=
  Kept (fun k => ¬ own v k) w w' ∧ ((bgn rows f at' = false ∧ e = .returned (.int .i64 3) ∧ RfAt w' r v rows f) ∨
    ∃ i : Nat, at' = (i : Int) ∧ i < rows ∧ (f i).run = (i : Int) ∧ (((f i).uses = 65535 ∧ e = .returned (.int .i64 14) ∧ RfAt w' r v rows f) ∨ ((f i).uses < 65535 ∧ e = .returned (.int .i64 0) ∧ RfAt w' r v rows (upd f i { f i with uses := (f i).uses + 1 }))))
set_option maxRecDepth 100000 in
set_option maxHeartbeats 4000000 in
theorem rshare_any (r rows : Nat) (v : Value) (f : Nat → RR) (at' : Int) (w : World) (hR : RfAt w r v rows f) (hr : rows ≤ 1073741824) (ha : -9223372036854775808 ≤ at' ∧ at' ≤ 9223372036854775807) (hu : ∀ i, i < rows → (f i).uses ≤ 65535) :
    Calls Tryd.prog 25 #[.pointer (some ⟨r, 0, none⟩), .int .i64 at'] w (RShare w r rows v f at') := by
  have HBG := hid_mk (begins_any r rows v f at' w hR hr ha)
  have HR := hid_mk hR
  obtain ⟨b, hb⟩ : ∃ b, b = bgn rows f at' := ⟨_, rfl⟩
  rw [← hb] at HBG
  cases b with
  | false =>
    have HB := hid_mk hb.symm
    clear hb hR
    go_enter Tryd.func25, Tryd.ntmps25
    go_wp2_with (first | (go_at_call 47; refine HBG.out.mono ?_; clear HBG; rintro e w2 ⟨rfl, hw2⟩; rw [hw2]; clear hw2))
    go_ret
    exact ⟨Kept.refl _ _, .inl ⟨HB.out, rfl, HR.out⟩⟩
  | true =>
    obtain ⟨i, rfl, hi, hrun⟩ := bgn_true hb.symm
    have hc := hR.cell
    obtain ⟨ao, cp, rfl⟩ := hR.rows.form
    obtain ⟨g, cp', cur, hv, hg, hcp, hrow⟩ := hR.rows.at (by omega)
    obtain ⟨rfl, rfl⟩ : ao = some ⟨g, 0, none⟩ ∧ cp = cp' := by simp at hv; exact hv
    obtain ⟨_, _, _, r3, _, _⟩ := hrow i hi
    have hii : (i : Int) < (rows : Int) := by omega
    have huse := hu i hi
    have hfz := unfrozen hg
    have HRUN := hid_mk hrun
    have HPU := hid_mk (hR.put (x := { f i with uses := (f i).uses + 1 }) (u := .int .i64 (((f i).uses : Int) + 1)) (g := g) rfl hi (j := 3) (by omega) rfl (by unfold rrv; rw [show (((f i).uses + 1 : Nat) : Int) = ((f i).uses : Int) + 1 by omega]; rfl))
    obtain ⟨us, hus⟩ : ∃ us, us = (f i).uses := ⟨_, rfl⟩
    rw [← hus] at r3 huse HPU
    have HUS := hid_mk hus
    obtain ⟨U, hU⟩ : ∃ U : Int, U = (us : Int) := ⟨_, rfl⟩
    rw [← hU] at r3 HPU
    have x1 : IntKind.i64.wrap (U + 1) = U + 1 := by rw [IntKind.wrap_i64]; omega
    clear hb hR hrow hv hg hrun hus hu
    by_cases hlt : us = 65535
    · have hq : (65535 : Int) ≤ U := by omega
      have HLT : Hid (us = 65535) := hlt
      clear hlt huse hU
      go_enter Tryd.func25, Tryd.ntmps25
      go_wp2_with (first | (go_at_call 47; refine HBG.out.mono ?_; clear HBG; rintro e w2 ⟨rfl, hw2⟩; rw [hw2]; clear hw2))
      go_ret
      exact ⟨Kept.refl _ _, .inr ⟨i, rfl, hi, HRUN.out, .inl ⟨by rw [← HUS.out]; exact HLT.out, rfl, HR.out⟩⟩⟩
    · have hq : ¬ (65535 : Int) ≤ U := by omega
      have HLT : Hid (us < 65535) := by show us < 65535; omega
      clear hlt huse hU
      go_enter Tryd.func25, Tryd.ntmps25
      go_wp2_with (first | (go_at_call 47; refine HBG.out.mono ?_; clear HBG; rintro e w2 ⟨rfl, hw2⟩; rw [hw2]; clear hw2))
      go_ret
      refine ⟨(Kept.refl _ _).setOwn rfl, .inr ⟨i, rfl, hi, HRUN.out, .inr ⟨by rw [← HUS.out]; exact HLT.out, rfl, ?_⟩⟩⟩
      rw [← HUS.out]
      exact HPU.out
end Go.Proofs.YtcpdnalmoaojlaaDoor

/-
  The document's Turn, Count.
-/
namespace Go.Proofs.YtcpdnalmoaojlaaDoor
open Go.RowKit Go.Shelf
set_option linter.unusedVariables false
set_option linter.unusedSimpArgs false

def turn1 (x : RR) (k : Nat) : RR := { x with held := false, old := decide (x.run = (k : Int)) }
def turnTo (f : Nat → RR) (i : Nat) : Nat → RR := fun k => if k < i then turn1 (f k) k else f k
set_option maxRecDepth 100000 in
set_option maxHeartbeats 4000000 in
theorem rturn_any (r rows : Nat) (v : Value) (f : Nat → RR) (w : World) (hR : RfAt w r v rows f) (hr : rows ≤ 1073741824) :
    Calls Tryd.prog 27 #[.pointer (some ⟨r, 0, none⟩)] w fun e w' => (∃ u, e = .returned u) ∧ Kept (fun k => ¬ own v k) w w' ∧ RfAt w' r v rows (turnTo f rows) := by
  have HR := hid_mk hR
  obtain ⟨ao, cp, rfl⟩ := hR.rows.form
  have hc0 := hR.cell
  clear hR
  go_enter Tryd.func27, Tryd.ntmps27
  go_wp2_with fail
  go_loopg [2] rows (fun k i wr => ∃ j : Nat, i = .int .i64 (j : Int) ∧ j ≤ rows ∧ k = rows - j ∧ Kept (fun k => ¬ own (.slice ao rows cp) k) w wr ∧ RfAt wr r (.slice ao rows cp) rows (turnTo f j))
  case atStart =>
    refine ⟨0, rfl, by omega, by omega, Kept.refl _ _, HR.out.congr fun i _ => ?_⟩
    unfold turnTo
    rw [if_neg (by omega)]
  case round =>
    obtain ⟨j, rfl, hj, hk, hkp, hRw⟩ := hrel
    have HGK := hid_mk hk
    have HKP := hid_mk hkp
    have HRW := hid_mk hRw
    have c0 := hRw.cell
    clear hk hkp hc0
    by_cases hlt : j < rows
    · obtain ⟨g, cp', cur, hv, hg, hcp, hrow⟩ := hRw.rows.at (by omega)
      obtain ⟨rfl, rfl⟩ : ao = some ⟨g, 0, none⟩ ∧ cp = cp' := by simp at hv; exact hv
      obtain ⟨r0, r1, r2, r3, r4, r5⟩ := hrow j hlt
      have hji : (j : Int) < (rows : Int) := by omega
      have hfz := unfrozen hg
      have hgr : g ≠ r := hRw.ne rfl
      have hfj : turnTo f j j = f j := by unfold turnTo; rw [if_neg (by omega)]
      have HP1 := hid_mk (hRw.put (x := { turnTo f j j with held := false }) (u := .bool false) (g := g) rfl hlt (j := 1) (by omega) rfl rfl)
      obtain ⟨W1, hW1⟩ : ∃ W1, W1 = wr.setCell ⟨g, j * 6 + 1, none⟩ (.bool false) := ⟨_, rfl⟩
      rw [← hW1] at HP1
      have HK1 : Hid (Kept (fun k => ¬ own (.slice (some ⟨g, 0, none⟩) rows cp) k) w W1) := by show Kept _ _ _; rw [hW1]; exact HKP.out.setOwn rfl
      have d0 := HP1.out.cell
      obtain ⟨g2, cp2, cur2, hv2, hg2, _, hrow2⟩ := HP1.out.rows.at (by omega)
      obtain ⟨rfl, _⟩ : g2 = g ∧ cp2 = cp := by simp at hv2; exact ⟨hv2.1.symm, hv2.2.symm⟩
      obtain ⟨_, _, _, _, _, s5⟩ := hrow2 j hlt
      have hfz2 := unfrozen hg2
      obtain ⟨b, hb⟩ : ∃ b, b = decide ((f j).run = (j : Int)) := ⟨_, rfl⟩
      have HBG : Hid (∀ W, Below W1.heap.size W1 W → Calls Tryd.prog 47 #[.pointer (some ⟨r, 0, none⟩), .int .i64 (j : Int)] W fun e w' => e = .returned (.bool b) ∧ w' = W) := fun W hW => by
        have h := begins_any r rows _ _ (j : Int) W (HP1.out.below hW) hr (by omega)
        rw [bgn_nat hlt, upd_at, hfj] at h
        rw [hb]
        exact h
      have HFIN : Hid (∀ W, Below W1.heap.size W1 W → RfAt (W.setCell ⟨g2, j * 6 + 5, none⟩ (.bool b)) r (.slice (some ⟨g2, 0, none⟩) rows cp) rows (turnTo f (j + 1)) ∧ Kept (fun k => ¬ own (.slice (some ⟨g2, 0, none⟩) rows cp) k) w (W.setCell ⟨g2, j * 6 + 5, none⟩ (.bool b))) := by
        intro W hW
        refine ⟨((HP1.out.below hW).put (x := turn1 (f j) j) (u := .bool b) (g := g2) rfl hlt (j := 5) (by omega) rfl ?_).congr fun i _ => ?_, (HK1.out.trans (Kept.of_below hW)).setOwn rfl⟩
        · rw [upd_at, hfj, hb]; rfl
        · rw [upd_upd]
          unfold upd turnTo
          by_cases e : i = j
          · rw [if_pos e, if_pos (by omega), e]
          · rw [if_neg e]
            by_cases e2 : i < j
            · rw [if_pos e2, if_pos (by omega)]
            · rw [if_neg e2, if_neg (by omega)]
      obtain ⟨o5, ho5⟩ : ∃ o5 : Bool, W1.cell? ⟨g2, j * 6 + 5, none⟩ = some (.bool o5) := ⟨_, s5⟩
      clear hRw hrow hv hg hrow2 hv2 hg2 r0 r2 r3 r4 r5 hb hfj s5
      go_upto_region 4 with fail
      rw [← hW1]
      clear hW1 r1 hfz c0
      have HRC : Hid (∀ W : World, W.cell? ⟨r, 0, none⟩ = some (.slice (some ⟨g2, 0, none⟩) rows cp) → ∀ u, (W.setCell ⟨g2, j * 6 + 5, none⟩ u).cell? ⟨r, 0, none⟩ = some (.slice (some ⟨g2, 0, none⟩) rows cp)) := fun W hW u => (World.cell?_of_block (w := W) (Below.heap_setCell _ _ _ _ (fun e => hgr e.symm))).trans hW
      go_region_held3 (fun w' => w'.cell? ⟨r, 0, none⟩ = some (.slice (some ⟨g2, 0, none⟩) rows cp)) (first | (simp [*]; done) | exact HRC.out _ (by first | assumption | (simp [*]; done)) _) (first | (go_at_call 47; refine (HBG.out _ (Below.drew (Below.refl _ _))).mono ?_; clear HBG; rintro e w7 ⟨rfl, hw7⟩; rw [hw7]; clear hw7))
      obtain ⟨hf1, hf2⟩ := HFIN.out W1 (Below.refl _ _)
      have HF1 := hid_mk (hf1.below (Below.drew (Below.refl _ _)))
      have HF2 := hid_mk (hf2.trans (Kept.of_below (Below.drew (Below.refl _ _))))
      clear hf1 hf2 HFIN
      go_wp2_with fail
      go_roundg (rows - (j + 1))
      case measure => have := HGK.out; omega
      case rel => exact ⟨j + 1, by go_num, by omega, rfl, HF2.out, HF1.out⟩
    · obtain rfl : j = rows := by omega
      clear hRw
      go_wp2_with fail
      go_end0
      exact ⟨⟨_, rfl⟩, HKP.out, HRW.out⟩
def cntV (f : Nat → RR) (k : Nat) : Array Value := #[.int .i64 (cntR usedR f k : Nat), .int .i64 (cntR heldR f k : Nat), .int .i64 ((k - cntR usedR f k - cntR heldR f k : Nat) : Int)]
theorem put3 {w : World} {g : Nat} {a b c a' b' c' : Value} {t : TypeId} (h : w.heap[g]? = some (.cells #[a, b, c] t (0, 0))) : (((w.setCell ⟨g, 0, none⟩ a').setCell ⟨g, 1, none⟩ b').setCell ⟨g, 2, none⟩ c').heap[g]? = some (.cells #[a', b', c'] t (0, 0)) := by
  rw [heap_put (heap_put (heap_put h _) _) _]
  simp
structure CI (w : World) (k : Nat) (f : Nat → RR) (X : World) : Prop where
  below : Below w.heap.size w X
  zero : X.heap[w.heap.size]? = some (.cells #[.int .i64 0, .int .i64 0, .int .i64 0] 57 (0, 0))
  cnt : X.heap[w.heap.size + 1]? = some (.cells (cntV f k) 57 (0, 0))
theorem CI.next {w X : World} {k k' o : Nat} {f : Nat → RR} {u : Value} (h : CI w k f X) (hc : (cntV f k).setIfInBounds o u = cntV f k') : CI w k' f (X.setCell ⟨w.heap.size + 1, o, none⟩ u) :=
  ⟨h.below.setCell (p := ⟨w.heap.size + 1, o, none⟩) (by show _ ≤ _ + 1; omega) _, (Below.heap_setCell _ _ _ _ (by show w.heap.size ≠ w.heap.size + 1; omega)).trans h.zero, (heap_put h.cnt u).trans (by rw [hc])⟩
set_option maxRecDepth 100000 in
set_option maxHeartbeats 4000000 in
theorem rcount_any (r rows : Nat) (v : Value) (f : Nat → RR) (w : World) (hR : RfAt w r v rows f) (hr : rows ≤ 1073741824) :
    Calls Tryd.prog 34 #[.pointer (some ⟨r, 0, none⟩)] w fun e w' => e = .returned (.agg (cntV f rows)) ∧ Below w.heap.size w w' := by
  have HR := hid_mk hR
  obtain ⟨ao, cp, rfl⟩ := hR.rows.form
  clear hR
  obtain ⟨V, hV⟩ : ∃ V, V = (w.alloc (.cells #[.int .i64 0, .int .i64 0, .int .i64 0] 57)).alloc (.cells #[.int .i64 0, .int .i64 0, .int .i64 0] 57) := ⟨_, rfl⟩
  have HCV : Hid (CI w 0 f V) := by
    refine ⟨by rw [hV]; exact Below.alloc (Below.alloc (Below.refl _ _) (Nat.le_refl _) _) (by simp) _, ?_, ?_⟩
    · rw [hV, Below.heap_alloc _ _ _ (by simp)]; exact heap_alloc_new _ _
    · have h := heap_alloc_new (w.alloc (.cells #[.int .i64 0, .int .i64 0, .int .i64 0] 57)) (.cells #[.int .i64 0, .int .i64 0, .int .i64 0] 57)
      rw [← hV] at h
      rw [show cntV f 0 = #[.int .i64 0, .int .i64 0, .int .i64 0] from rfl]
      simpa using h
  have HTW : Hid (∀ k, cntR usedR f k + cntR heldR f k ≤ k) := cntR_two usedR heldR (fun x hx => by unfold usedR at hx; unfold heldR; rw [hx]; rfl) f
  go_enter Tryd.func34, Tryd.ntmps34
  go_upto_block 0 with fail
  rw [← hV]
  clear hV
  go_wp2_with fail
  go_loopg [4] rows (fun k i wr => ∃ j : Nat, i = .int .i64 (j : Int) ∧ j ≤ rows ∧ k = rows - j ∧ CI w j f wr)
  case atStart => exact ⟨0, rfl, by omega, by omega, HCV.out⟩
  case round =>
    obtain ⟨j, rfl, hj, hk, hci⟩ := hrel
    have HGK := hid_mk hk
    have HCI := hid_mk hci
    have HRW := hid_mk (HR.out.kept (U := fun k => k < w.heap.size) ⟨hci.below.os, hci.below.tape, hci.below.output, hci.below.size, fun k hk _ => hci.below.block k hk⟩ HR.out.lt (fun k hk => HR.out.ownlt hk))
    have c0 := HRW.out.cell
    have h2 := HTW.out j
    have h2' := HTW.out (j + 1)
    have eU : cntR usedR f (j + 1) = cntR usedR f j + if usedR (f j) then 1 else 0 := rfl
    have eH : cntR heldR f (j + 1) = cntR heldR f j + if heldR (f j) then 1 else 0 := rfl
    have hcnt := hci.cnt
    unfold cntV at hcnt
    obtain ⟨cu, hcu⟩ : ∃ cu, cu = cntR usedR f j := ⟨_, rfl⟩
    obtain ⟨ch, hch⟩ : ∃ ch, ch = cntR heldR f j := ⟨_, rfl⟩
    rw [← hcu, ← hch] at hcnt h2
    rw [← hcu] at eU
    rw [← hch] at eH
    have k0 : wr.cell? ⟨w.heap.size + 1, 0, none⟩ = some (.int .i64 (cu : Int)) := by simp [World.cell?, hcnt]
    have k1 : wr.cell? ⟨w.heap.size + 1, 1, none⟩ = some (.int .i64 (ch : Int)) := by simp [World.cell?, hcnt]
    obtain ⟨fr, hfr⟩ : ∃ fr : Nat, fr = j - cu - ch := ⟨_, rfl⟩
    rw [← hfr] at hcnt
    have k2 : wr.cell? ⟨w.heap.size + 1, 2, none⟩ = some (.int .i64 (fr : Int)) := by simp [World.cell?, hcnt]
    have kf := unfrozen hci.cnt
    have HZ : Hid (wr.heap[w.heap.size]? = some (.cells #[.int .i64 0, .int .i64 0, .int .i64 0] 57 (0, 0))) := hci.zero
    have HFR : Hid (cu + ch + fr = j) := by show _ = _; omega
    have HV : Hid (cntV f j = #[.int .i64 (cu : Int), .int .i64 (ch : Int), .int .i64 (fr : Int)]) := by show _ = _; unfold cntV; rw [← hcu, ← hch, ← hfr]
    by_cases hlt : j < rows
    · obtain ⟨g, cp', cur, hv, hg, hcp, hrow⟩ := HRW.out.rows.at (by omega)
      obtain ⟨rfl, rfl⟩ : ao = some ⟨g, 0, none⟩ ∧ cp = cp' := by simp at hv; exact hv
      obtain ⟨r0, r1, _, _, _, _⟩ := hrow j hlt
      have hji : (j : Int) < (rows : Int) := by omega
      obtain ⟨x, hx⟩ : ∃ x, x = f j := ⟨_, rfl⟩
      rw [← hx] at r0 r1 eU eH
      obtain ⟨xr, hxr⟩ : ∃ xr, xr = x.run := ⟨_, rfl⟩
      obtain ⟨xh, hxh⟩ : ∃ xh, xh = x.held := ⟨_, rfl⟩
      rw [← hxr] at r0
      rw [← hxh] at r1
      have x1 : IntKind.i64.wrap ((cu : Int) + 1) = (cu : Int) + 1 := by rw [IntKind.wrap_i64]; omega
      have x2 : IntKind.i64.wrap ((ch : Int) + 1) = (ch : Int) + 1 := by rw [IntKind.wrap_i64]; omega
      have x3 : IntKind.i64.wrap ((fr : Int) + 1) = (fr : Int) + 1 := by rw [IntKind.wrap_i64]; omega
      have HNX : Hid (∀ o u, (#[.int .i64 (cu : Int), .int .i64 (ch : Int), .int .i64 (fr : Int)] : Array Value).setIfInBounds o u = cntV f (j + 1) → CI w (j + 1) f (wr.setCell ⟨w.heap.size + 1, o, none⟩ u)) := fun o u h => HCI.out.next (by rw [HV.out]; exact h)
      have HEU := hid_mk eU
      have HEH := hid_mk eH
      have HXR := hid_mk hxr
      have HXH := hid_mk hxh
      clear hci hcnt hrow hv hg hx hxr hxh hcu hch hfr hk eU eH h2 h2' hcp
      by_cases hu : 0 ≤ xr
      · have HN := hid_mk (HNX.out 0 (.int .i64 ((cu : Int) + 1)) (by
          have e1 : usedR x = true := by unfold usedR; rw [← HXR.out]; exact decide_eq_true hu
          have e2 : heldR x = false := by unfold heldR; rw [← HXR.out, decide_eq_true hu]; rfl
          have e3 := HEU.out
          have e4 := HEH.out
          have e5 := HFR.out
          rw [e1, if_pos rfl] at e3
          rw [e2, if_neg (by decide)] at e4
          unfold cntV
          rw [e3, e4, show j + 1 - (cu + 1) - (ch + 0) = fr by omega]
          simp))
        clear HEU HEH HNX HV
        go_wp2_with fail
        go_roundg (rows - (j + 1))
        case measure => have := HGK.out; omega
        case rel => exact ⟨j + 1, by go_num, by omega, rfl, HN.out⟩
      · cases xh with
        | true =>
          have HN := hid_mk (HNX.out 1 (.int .i64 ((ch : Int) + 1)) (by
            have e1 : usedR x = false := by unfold usedR; rw [← HXR.out]; exact decide_eq_false hu
            have e2 : heldR x = true := by unfold heldR; rw [← HXR.out, decide_eq_false hu, ← HXH.out]; rfl
            have e3 := HEU.out
            have e4 := HEH.out
            have e5 := HFR.out
            rw [e1, if_neg (by decide)] at e3
            rw [e2, if_pos rfl] at e4
            unfold cntV
            rw [e3, e4, show j + 1 - (cu + 0) - (ch + 1) = fr by omega]
            simp))
          clear HEU HEH HNX HV
          go_wp2_with fail
          go_roundg (rows - (j + 1))
          case measure => have := HGK.out; omega
          case rel => exact ⟨j + 1, by go_num, by omega, rfl, HN.out⟩
        | false =>
          have HN := hid_mk (HNX.out 2 (.int .i64 ((fr : Int) + 1)) (by
            have e1 : usedR x = false := by unfold usedR; rw [← HXR.out]; exact decide_eq_false hu
            have e2 : heldR x = false := by unfold heldR; rw [← HXH.out]; simp
            have e3 := HEU.out
            have e4 := HEH.out
            have e5 := HFR.out
            rw [e1, if_neg (by decide)] at e3
            rw [e2, if_neg (by decide)] at e4
            unfold cntV
            rw [e3, e4, show j + 1 - (cu + 0) - (ch + 0) = fr + 1 by omega]
            simp))
          clear HEU HEH HNX HV
          go_wp2_with fail
          go_roundg (rows - (j + 1))
          case measure => have := HGK.out; omega
          case rel => exact ⟨j + 1, by go_num, by omega, rfl, HN.out⟩
    · obtain rfl : j = rows := by omega
      have z0 : wr.cell? ⟨w.heap.size, 0, none⟩ = some (.int .i64 0) := by simp [World.cell?, HZ.out]
      have z1 : wr.cell? ⟨w.heap.size, 1, none⟩ = some (.int .i64 0) := by simp [World.cell?, HZ.out]
      have z2 : wr.cell? ⟨w.heap.size, 2, none⟩ = some (.int .i64 0) := by simp [World.cell?, HZ.out]
      have zf := unfrozen HZ.out
      clear hci hcnt hcu hch hfr hk eU eH h2 h2'
      go_wp2_with fail
      refine bodyPost_ret (v := .agg #[.int .i64 (cu : Int), .int .i64 (ch : Int), .int .i64 (fr : Int)]) (results_cell_row rfl _ _ w.heap.size 57 _ (0, 0) _ rfl (put3 HZ.out) rfl rfl rfl) rfl ⟨by rw [HV.out], ?_⟩
      exact ((HCI.out.below.setCell (p := ⟨w.heap.size, 0, none⟩) (Nat.le_refl _) _).setCell (p := ⟨w.heap.size, 1, none⟩) (Nat.le_refl _) _).setCell (p := ⟨w.heap.size, 2, none⟩) (Nat.le_refl _) _
end Go.Proofs.YtcpdnalmoaojlaaDoor
