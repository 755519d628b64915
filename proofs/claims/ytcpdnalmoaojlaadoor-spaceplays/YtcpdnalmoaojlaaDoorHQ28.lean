import Derived.Test.YtcpdnalmoaojlaaDoorHQ27

/-
  SpacePlays: a step, whole.
-/
namespace Go.Proofs.YtcpdnalmoaojlaaDoor
open Go.RowKit Go.Shelf
set_option linter.unusedVariables false
set_option linter.unusedSimpArgs false

set_option maxRecDepth 1000000 in
set_option maxHeartbeats 40000000 in
theorem step_any {w0 : World} {P : Nat} {c : PR} {ks : List PR} {kv : Value} {W0 : World} (h : PJ w0 P c c.rows c.l ks kv W0) (hok : SpOk c.rows c.l) (hks : ks.length ≤ 4) (xd xa xb xc : Int) (xt : ByteArray) (hd : I64' xd) (ha : I64' xa) (hb : I64' xb) (hc : I64' xc) :
    Calls Tryd.prog 8 #[.pointer (some ⟨P, 0, none⟩), .agg #[.int .i64 xd, .int .i64 xa, .int .i64 xb, .int .i64 xc, .string xt]] W0 (StepP w0 P W0) := by
  have HPK : Hid (∀ (x : Int) (k : Nat) W, I64' x → 0 < k → k ≤ 4611686018427387904 → Calls Tryd.prog 5 #[.int .i64 x, .int .i64 (k : Int)] W fun e w' => e = .returned (.int .i64 (x % (k : Int))) ∧ w' = W) := fun x k W hx h1 h2 => pick_any x k h1 h2 hx.1 hx.2 W
  obtain ⟨X0, hX0⟩ : ∃ X0, X0 = W0.alloc (.cells #[.int .i64 xd, .int .i64 xa, .int .i64 xb, .int .i64 xc, .string xt] 38) := ⟨_, rfl⟩
  obtain ⟨B3, hB3⟩ : ∃ B3, B3 = W0.heap.size := ⟨_, rfl⟩
  have bX0 : Below W0.heap.size W0 X0 := by rw [hX0]; exact Below.alloc (Below.refl _ _) (Nat.le_refl _) _
  have eX0 : X0.heap[B3]? = some (.cells #[.int .i64 xd, .int .i64 xa, .int .i64 xb, .int .i64 xc, .string xt] 38 (0, 0)) := by rw [hX0, hB3]; exact heap_alloc_new _ _
  have HNB : Hid (B3 ≠ c.s ∧ ¬ rfU c.r c.v B3) := by
    have h1 := h.sp.lt
    have h2 := h.rf.lt
    refine ⟨by omega, fun e => ?_⟩
    rcases e with e | e
    · omega
    · have := h.rf.ownlt e; omega
  have HJ0 := hid_mk (h.keepN bX0)
  have HC3 : Hid (∀ W : World, W.heap[B3]? = X0.heap[B3]? → W.cell? ⟨B3, 0, none⟩ = some (.int .i64 xd) ∧ W.cell? ⟨B3, 1, none⟩ = some (.int .i64 xa) ∧ W.cell? ⟨B3, 2, none⟩ = some (.int .i64 xb) ∧ W.cell? ⟨B3, 3, none⟩ = some (.int .i64 xc)) := fun W hW => by
    have h := hW.trans eX0
    simp [World.cell?, h]
  have HB3L : Hid (B3 < X0.heap.size) := (Array.getElem?_eq_some_iff.1 eX0).1
  have HBX0 := hid_mk eX0
  have HOK := hid_mk hok
  have HKS := hid_mk hks
  have HD := hid_mk hd
  have HA := hid_mk ha
  have HBW := hid_mk hb
  have HCW := hid_mk hc
  have h30 := hok.rows30
  obtain ⟨R, hR⟩ : ∃ R : Int, R = (c.rows : Int) := ⟨_, rfl⟩
  obtain ⟨ao, cp, hv⟩ := h.rf.rows.form
  obtain ⟨q, hq⟩ : ∃ q : Int, q = xa % (R + 2) := ⟨_, rfl⟩
  have hq0 : 0 ≤ q := by rw [hq]; exact Int.emod_nonneg _ (by omega)
  have hq1 : q < R + 2 := by rw [hq]; exact Int.emod_lt_of_pos _ (by omega)
  have HP1 : Hid (∀ W, Calls Tryd.prog 5 #[.int .i64 xa, .int .i64 (R + 2)] W fun e w' => e = .returned (.int .i64 q) ∧ w' = W) := fun W => by
    rw [hq, hR]; exact HPK.out xa (c.rows + 2) W ha (by omega) (by omega)
  have x1 : IntKind.i64.wrap (R + 2) = R + 2 := by rw [IntKind.wrap_i64]; omega
  have x2 : IntKind.i64.wrap (q - 1) = q - 1 := by rw [IntKind.wrap_i64]; omega
  have HAT0 : Hid (I64' (q - 1)) := ⟨by omega, by omega⟩
  have HRU : Hid (∀ W, Below X0.heap.size X0 W → Calls Tryd.prog 23 #[.pointer (some ⟨c.r, 0, none⟩)] W fun e w' => ∃ u, e = .returned u ∧ ROwns w' W.heap.size u (fil c.l) ∧ Below W.heap.size W w') := fun W hW => rruns_any c.r c.rows c.v c.l W (HJ0.out.keepN hW).rf hok
  have hfl : (fil c.l).length ≤ c.rows := by
    have h1 := fits_len hok.fits
    have h2 := fil_le c.l
    omega
  obtain ⟨M, hM⟩ : ∃ M, M = (fil c.l).length := ⟨_, rfl⟩
  have hM30 : M ≤ 1073741824 := by omega
  have HM := hid_mk hM
  have HAT : Hid (∀ q ∈ fil c.l, q.at' < 1073741824) := fun q hq => by
    obtain ⟨_, h2, h3⟩ := fits_mem hok.fits q (fil_mem hq).1
    have h4 : q.stop = q.at' + q.n := rfl
    omega
  obtain ⟨_, p1, p2⟩ := HJ0.out.cells
  have p3 := HJ0.out.rf.cell
  rw [hv] at p3
  obtain ⟨_, y1, _, _⟩ := HC3.out X0 rfl
  obtain ⟨rows, hrows⟩ : ∃ rows, rows = c.rows := ⟨_, rfl⟩
  rw [← hrows] at p3
  have hRr : (rows : Int) = R := by omega
  have HV : Hid (c.v = .slice ao rows cp) := by show _ = _; rw [hrows]; exact hv
  clear h hok hks hd ha hb hc eX0 bX0 hM hfl hq hR hrows h30 hv
  go_enter Tryd.func8, Tryd.ntmps8
  go_upto_region 1 with fail
  rw [← hX0, ← hB3]
  clear hX0 hB3
  go_region_held3 (fun w' => w'.cell? ⟨B3, 1, none⟩ = some (.int .i64 xa) ∧ w'.cell? ⟨P, 1, none⟩ = some (.pointer (some ⟨c.r, 0, none⟩)) ∧ w'.cell? ⟨c.r, 0, none⟩ = some (.slice ao rows cp)) (exact ⟨y1, p1, p3⟩) (first
    | (go_at_call 5; refine (HP1.out _).mono ?_; clear HP1; rintro e w5 ⟨rfl, hw5⟩; rw [hw5]; clear hw5))
  obtain ⟨Y1, hY1⟩ : ∃ Y1, Y1 = X0.drew := ⟨_, rfl⟩
  have HBY : Hid (Below X0.heap.size X0 Y1) := by show Below _ _ _; rw [hY1]; exact Below.drew (Below.refl _ _)
  obtain ⟨_, p1', _⟩ := (HJ0.out.keepN HBY.out).cells
  rw [← hY1]
  clear hY1 y1 p1 p2 p3 x1 x2
  go_upto_region 3 with (first
    | (go_at_call 23; refine (HRU.out _ HBY.out).mono ?_; clear HRU; rintro e w2 ⟨u2, rfl, o2, b2⟩; obtain ⟨a2, c2, hu2⟩ := o2.frm; rw [← HM.out] at hu2; subst hu2; have HO2 := hid_mk o2; have HB2 : Hid (Below X0.heap.size X0 w2) := HBY.out.trans (b2.mono HBY.out.size); clear o2 b2))
  have HJ2 := hid_mk (HJ0.out.keepN HB2.out)
  have HE2 : Hid (w2.heap[B3]? = X0.heap[B3]?) := HB2.out.block B3 HB3L.out
  obtain ⟨y0, y1, y2, y3⟩ := HC3.out w2 HE2.out
  clear p1'
  obtain ⟨q3, hq3⟩ : ∃ q3 : Int, q3 = xb % 3 := ⟨_, rfl⟩
  have HP3 : Hid (∀ W, Calls Tryd.prog 5 #[.int .i64 xb, .int .i64 3] W fun e w' => e = .returned (.int .i64 q3) ∧ w' = W) := fun W => by rw [hq3]; exact HPK.out xb 3 W HBW.out (by omega) (by omega)
  clear hq3
  go_cut [41] (fun b wx => ∃ bb : Bool, b = .bool bb ∧ (bb = true → 0 < M) ∧ wx = w2)
  case first =>
    by_cases hM0 : M = 0
    · subst hM0
      go_wp2_with fail
      go_meet
      exact ⟨false, rfl, (fun h => by cases h), rfl⟩
    · have hMi : (0 : Int) < (M : Int) := by omega
      have HMP : Hid (0 < M) := by show 0 < M; omega
      clear hM0
      go_wp2_with (first | (go_at_call 5; refine (HP3.out _).mono ?_; clear HP3; rintro e w5 ⟨rfl, hw5⟩; rw [hw5]; clear hw5))
      all_goals go_meet
      all_goals exact ⟨_, rfl, fun _ => HMP.out, rfl⟩
  case rest =>
    obtain ⟨bb, rfl, hbb, hwc⟩ := hcut
    rw [hwc]
    clear hwc HP3
    go_upto_if 41 with fail
    go_cut [5] (fun v wx => ∃ at' : Int, v = .int .i64 at' ∧ I64' at' ∧ wx = w2)
    case first =>
      cases bb with
      | false =>
        go_wp2_with fail
        go_meet
        exact ⟨_, rfl, HAT0.out, rfl⟩
      | true =>
        have hM0 := hbb rfl
        have hMi : (0 : Int) < (M : Int) := by omega
        have hne : fil c.l ≠ [] := fun h => by have := HM.out; rw [h] at this; simp at this; omega
        obtain ⟨g, cv', hgv, hgB, hgl, hgc, hcells⟩ := ROwns.at HO2.out hne
        rw [← HM.out] at hgv
        obtain ⟨rfl, rfl⟩ : a2 = some ⟨g, 0, none⟩ ∧ c2 = cv' := by simp at hgv; exact hgv
        obtain ⟨p, hp⟩ : ∃ p : Nat, (p : Int) = xa % (M : Int) := ⟨(xa % (M : Int)).toNat, by have := Int.emod_nonneg xa (b := (M : Int)) (by omega); omega⟩
        have hpM : p < M := by have := Int.emod_lt_of_pos xa (b := (M : Int)) hMi; omega
        have hpi : (p : Int) < (M : Int) := by omega
        have hpl : p < (fil c.l).length := by rw [← HM.out]; exact hpM
        obtain ⟨r0, _, _, _⟩ := hcells p hpl
        have hatp := HAT.out _ (List.getElem_mem hpl)
        obtain ⟨A, hA⟩ : ∃ A : Int, A = (((fil c.l)[p]'hpl).at' : Int) := ⟨_, rfl⟩
        rw [← hA] at r0
        have HAI : Hid (I64' A) := ⟨by omega, by omega⟩
        have HPM : Hid (∀ W, Calls Tryd.prog 5 #[.int .i64 xa, .int .i64 (M : Int)] W fun e w' => e = .returned (.int .i64 (p : Int)) ∧ w' = W) := fun W => by rw [hp]; exact HPK.out xa M W HA.out (by omega) (by omega)
        clear hcells hgv hA hp hne hgB hgc hatp hbb hM0
        go_wp2_with (first | (go_at_call 5; refine (HPM.out _).mono ?_; clear HPM; rintro e w5 ⟨rfl, hw5⟩; rw [hw5]; clear hw5))
        go_meet
        exact ⟨_, rfl, HAI.out, rfl⟩
    case rest =>
      obtain ⟨at', rfl, hat', hwc4⟩ := hcut
      have HATI := hid_mk hat'
      rw [hwc4]
      clear hwc4 hat' hbb
      obtain ⟨d, hdt⟩ : ∃ d : Int, d = xd % 12 := ⟨_, rfl⟩
      have HPD : Hid (∀ W, Calls Tryd.prog 5 #[.int .i64 xd, .int .i64 12] W fun e w' => e = .returned (.int .i64 d) ∧ w' = W) := fun W => by rw [hdt]; exact HPK.out xd 12 W HD.out (by omega) (by omega)
      have hd8 : 0 ≤ d ∧ d < 12 := by omega
      have HD8 := hid_mk hd8
      clear hdt hd8
      have HSB : Hid (SB w0 P B3 c ks kv xd xa xb xc xt w2) := ⟨HJ2.out, HOK.out, HKS.out, HE2.out.trans HBX0.out, HNB.out, HA.out, HBW.out, HCW.out⟩
      go_upto_block 0 with (first | (go_at_call 5; refine (HPD.out _).mono ?_; clear HPD; rintro e w5 ⟨rfl, hw5⟩; rw [hw5]; clear hw5))
      by_cases hd11 : d = 11
      · subst hd11
        have HLD := hid_mk (loads_any HJ2.out HOK.out HKS.out)
        go_wp2_with (first | (go_at_call 33; refine HLD.out.mono ?_; clear HLD; rintro e w3 ⟨rfl, hx⟩; have HX := hid_mk hx; clear hx))
        go_ret
        exact ⟨rfl, HX.out⟩
      · refine wp_block ?_
        refine step_switch HSB.out HATI.out (by have := HD8.out; omega) _ rfl _ (fun a' w' q1 q2 q3 => ?_) _ _ _ _ _ _ _ _ _ _ _ _ _ _ _ _ _ _ _ _ _ _ _ _ _ _ _ _ _ _ _ _ _ _ _ _ _ _ _ _ _ _ _ _ _ _ _ _ _ _ _ _ _ _ _ _ _ _ _ _ _ _ _ _ _ _ _ _ _ _ _ _ _ _ _ _ _ _ _ _ _ _ _ _ _ _ _ _ _ _ _ _ _ _ _ _ _ _ _ _ _ _ _ _ _ _ _ _ _ _ _ _ _ _ _ _ _ _ _ _ _ _ _ _ _ _ _ _ _ _ _ _ _ _ _ _ _ _ _ _ _ _ _ _ _ _ _ _ _ _ _ _ _ _ _ _ _ _ _ _ _ _ _ _ _ _ _ _ _ _ _ _ _ _ _ _ _ _ _ _ _ _ _ _ _ _ _ _ _ _ _ _ _ _ _ _ _ _ _ _ _ _ _ _ _ _ _ _ _ _ _ _ _ _ _ _ _ _ _ _ _ _ _ _ _ _ _ _ _ _ _ _ _ _ _ _ _ _ _ _ _ _ _ _ _ _ _ _ _ _ _ _ _ _ _ _ _ _ _ _ _ _ _ _ _ _
        obtain ⟨c', ks', kv', r1, r2, r3⟩ := q3
        exact bodyPost_ret (v := a'.tmps.getD 4 undef) (results_tmp (t := 4) rfl a'.tmps Tryd.prog w') q2 ⟨by rw [q1], c', ks', kv', r1, r2, fun _ _ => trivial, r3⟩
end Go.Proofs.YtcpdnalmoaojlaaDoor
