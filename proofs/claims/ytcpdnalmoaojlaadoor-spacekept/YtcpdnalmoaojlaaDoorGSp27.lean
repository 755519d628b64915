import Derived.Test.YtcpdnalmoaojlaaDoorGSp25

/-
  sound, walked.
-/
namespace Go.Proofs.YtcpdnalmoaojlaaDoor
open Go.RowKit Go.Shelf
set_option linter.unusedVariables false
set_option linter.unusedSimpArgs false

set_option maxRecDepth 100000 in
set_option maxHeartbeats 4000000 in
theorem sound_any (s rows : Nat) (l : List Pc) (w : World) (hs : SpAt w s rows l) (hok : SpOk rows l) :
    Calls Tryd.prog 18 #[plv s, .int .i64 (rows : Int)] w fun e w' => e = .returned (.bool true) ∧ Below w.heap.size w w' := by
  obtain ⟨V, hV⟩ : ∃ V, V = w.alloc (.cells #[.pointer (some ⟨s, 0, none⟩)] 26) := ⟨_, rfl⟩
  have bV : Below w.heap.size w V := by rw [hV]; exact Below.alloc (Below.refl _ _) (Nat.le_refl _) _
  have eV : V.heap[w.heap.size]? = some (.cells #[.pointer (some ⟨s, 0, none⟩)] 26 (0, 0)) := by rw [hV]; exact heap_alloc_new _ _
  have hsV := hs.below bV
  have HCB : Hid (∀ W, Below V.heap.size V W → W.cell? ⟨w.heap.size, 0, none⟩ = some (.pointer (some ⟨s, 0, none⟩))) := fun W hW => by
    have h := (hW.block _ (Array.getElem?_eq_some_iff.1 eV).1).trans eV
    simp [World.cell?, h]
  have HR := hid_mk (pruns_any s rows l V hsV hok)
  have HW : Hid (∀ W, Below V.heap.size V W → Calls Tryd.prog 19 #[plv s] W fun e w' => e = .returned (.agg #[.int .i64 (rowsL isUsed l : Nat), .int .i64 (rowsL isHeld l : Nat), .int .i64 ((rows - rowsL isUsed l - rowsL isHeld l : Nat) : Int)]) ∧ Below W.heap.size W w') := fun W hW => prows_any s rows l W (hsV.below hW) hok
  have h30 := hok.rows30
  have hsum := rowsL_all hok.fits
  have hff : Fits 0 (fil l) rows := fits_filter isUsed hok.fits
  have hus : ∀ p ∈ fil l, isUsed p = true := fun p hp => (List.mem_filter.1 hp).2
  have hct : ∀ p ∈ fil l, 1 ≤ p.count ∧ p.count ≤ 65535 := fun p hp => by
    have h := hok.ok p (List.mem_filter.1 hp).1
    have hu := hus p hp
    simp [isUsed] at hu
    exact ⟨h.1 hu, h.2.1⟩
  have hut := used_fil l
  obtain ⟨ms, hms⟩ : ∃ ms, ms = fil l := ⟨_, rfl⟩
  rw [← hms] at hff hus hct hut HR
  obtain ⟨used, hused⟩ : ∃ used, used = rowsL isUsed l := ⟨_, rfl⟩
  obtain ⟨held, hheld⟩ : ∃ held, held = rowsL isHeld l := ⟨_, rfl⟩
  rw [← hused, ← hheld] at HW hsum
  rw [← hused] at hut
  have hml := fits_len hff
  have c0 := HCB.out V (Below.refl _ _)
  have HBV := hid_mk bV
  have HFF := hid_mk hff
  have HUS := hid_mk hus
  have HCT := hid_mk hct
  have HUT := hid_mk hut
  clear hs hok bV eV hsV hff hus hct hut hms hused hheld
  obtain ⟨m, hm⟩ : ∃ m, m = ms.length := ⟨_, rfl⟩
  have hm30 : m ≤ 1073741824 := by omega
  have HM := hid_mk hm
  clear hm hml
  unfold plv
  unfold plv at HR HW
  go_enter Tryd.func18, Tryd.ntmps18
  go_wp2_with fail
  rw [← hV]
  clear hV
  go_wp2_with (first | (go_at_call 11; refine HR.out.mono ?_; clear HR; rintro e w2 ⟨v, rfl, h1, h2⟩; obtain ⟨ao, cv, hv⟩ := h1.formL; rw [← HM.out] at hv; subst hv; have H1 := hid_mk h1; have H2 := hid_mk h2; clear h1 h2))
  go_loopw [7, 8, 9] (fun a u i wr => ∃ (k at' us : Nat), a = .int .i64 (at' : Int) ∧ u = .int .i64 (us : Int) ∧ i = .int .i64 (k : Int) ∧ k ≤ m ∧ at' ≤ rows ∧ Fits at' (ms.drop k) rows ∧ us = rowsL isUsed (ms.take k) ∧ us ≤ used ∧ Below w2.heap.size w2 wr) (fun _ _ i _ => m - (intOf i).toNat)
  case atStart => exact ⟨0, 0, 0, rfl, rfl, rfl, by omega, by omega, by simpa using HFF.out, by simp [rowsL], by omega, Below.refl _ _⟩
  case round =>
    obtain ⟨k, at', us, rfl, rfl, rfl, hk, hat, hfit, hus, hule, hbe⟩ := hrel
    have HB := hid_mk hbe
    have HFT := hid_mk hfit
    have HUU := hid_mk hus
    clear hbe hfit hus
    by_cases hlt : k < m
    · have hkl : k < ms.length := by rw [← HM.out]; exact hlt
      obtain ⟨g, cv', hgv, hgB, hgl, hgc, hcells⟩ := ROwns.at H1.out (fun e => by rw [e] at hkl; simp at hkl)
      obtain ⟨rfl, rfl⟩ : ao = some ⟨g, 0, none⟩ ∧ cv = cv' := by simp at hgv; exact ⟨hgv.1, hgv.2.2⟩
      obtain ⟨r0, r1, r2, r3⟩ := hcells k hkl
      obtain ⟨f1, f2, f3, f4⟩ := fits_drop HFF.out k hkl at' HFT.out
      obtain ⟨x, hx⟩ : ∃ x, x = ms[k] := ⟨_, rfl⟩
      have hcx := HCT.out ms[k] (List.getElem_mem _)
      have hut := used_take HUS.out k hkl
      rw [← hx] at r0 r1 r2 r3 f1 f2 f3 f4 hcx hut
      have hxs : x.stop = x.at' + x.n := rfl
      have key : ∀ i, wr.cell? ⟨g, i, none⟩ = w2.cell? ⟨g, i, none⟩ := fun i => HB.out.cell (p := ⟨g, i, none⟩) hgl
      have q0 := (key _).trans r0
      have q1 := (key _).trans r1
      have q2 := (key _).trans r2
      have HF4 := hid_mk f4
      have HUT2 := hid_mk hut
      obtain ⟨A, hA⟩ : ∃ A : Int, A = (x.at' : Int) := ⟨_, rfl⟩
      obtain ⟨N, hN⟩ : ∃ N : Int, N = (x.n : Int) := ⟨_, rfl⟩
      obtain ⟨C, hC⟩ : ∃ C : Int, C = (x.count : Int) := ⟨_, rfl⟩
      obtain ⟨T, hT⟩ : ∃ T : Int, T = (at' : Int) := ⟨_, rfl⟩
      obtain ⟨R, hR⟩ : ∃ R : Int, R = (rows : Int) := ⟨_, rfl⟩
      rw [← hA] at q0
      rw [← hN] at q1
      rw [← hC] at q2
      rw [← hT, ← hR]
      have t1 : decide (A < T) = false := decide_eq_false (by omega)
      have t2 : decide (N < 1) = false := decide_eq_false (by omega)
      have t3 : decide (R < N) = false := decide_eq_false (by omega)
      have t4 : decide (R - N < A) = false := decide_eq_false (by omega)
      have t5 : decide (C < 1) = false := decide_eq_false (by omega)
      have t6 : decide (65535 < C) = false := decide_eq_false (by omega)
      have x1 : IntKind.i64.wrap (R - N) = R - N := by rw [IntKind.wrap_i64]; omega
      have x2 : IntKind.i64.wrap (A + N) = A + N := by rw [IntKind.wrap_i64]; omega
      have HNN : Hid (us + x.n ≤ used) := by
        show _ ≤ _
        have h1 := HUU.out
        have h2 := HUT2.out
        have h3 := HUT.out
        have h4 := rowsL_append isUsed (ms.take (k + 1)) (ms.drop (k + 1))
        rw [List.take_append_drop] at h4
        omega
      have hka : (k : Int) < (m : Int) := by omega
      have HA := hid_mk hA
      have HN' := hid_mk hN
      have HT := hid_mk hT
      have HXS := hid_mk hxs
      have hx2 : IntKind.i64.wrap ((us : Int) + N) = (us : Int) + N := by have := HNN.out; rw [IntKind.wrap_i64]; omega
      clear r0 r1 r2 r3 f1 f2 f4 hcx hut hx hxs key hA hN hC hT hR hcells hgv hgB hgc hkl
      go_wp2_with fail
      go_quiet (fail)
      obtain ⟨X1, hX1⟩ : ∃ X1, X1 = wr.drewN nq := ⟨_, rfl⟩
      rw [← hX1]
      have HB1 : Hid (Below w2.heap.size w2 X1) := by show Below _ _ _; rw [hX1]; exact HB.out.trans (drewN_bel _ _ _)
      have y0 : X1.cell? ⟨g, k * 4, none⟩ = some (.int .i64 A) := by rw [hX1]; exact ((drewN_bel wr.heap.size wr nq).cell (p := ⟨g, k * 4, none⟩) (Nat.lt_of_lt_of_le hgl HB.out.size)).trans q0
      have y1 : X1.cell? ⟨g, k * 4 + 1, none⟩ = some (.int .i64 N) := by rw [hX1]; exact ((drewN_bel wr.heap.size wr nq).cell (p := ⟨g, k * 4 + 1, none⟩) (Nat.lt_of_lt_of_le hgl HB.out.size)).trans q1
      clear hX1 q0 q1 q2 t1 t2 t3 t4 t5 t6 x1
      go_wp2_with fail
      go_quiet (fail)
      obtain ⟨X2, hX2⟩ : ∃ X2, X2 = X1.drewN nq := ⟨_, rfl⟩
      rw [← hX2]
      have HB2 : Hid (Below w2.heap.size w2 X2) := by show Below _ _ _; rw [hX2]; exact HB1.out.trans (drewN_bel _ _ _)
      have z1 : X2.cell? ⟨g, k * 4 + 1, none⟩ = some (.int .i64 N) := by rw [hX2]; exact ((drewN_bel X1.heap.size X1 nq).cell (p := ⟨g, k * 4 + 1, none⟩) (Nat.lt_of_lt_of_le hgl HB1.out.size)).trans y1
      clear hX2 y0 y1
      go_wp2_with fail
      have e1 := HA.out
      have e2 := HN'.out
      have e3 := HXS.out
      have e4 := HUT2.out
      have e5 := HUU.out
      have e6 := HNN.out
      refine ⟨⟨k + 1, x.stop, us + x.n, ?_, ?_, by go_num, by omega, by omega, HF4.out, by omega, by omega, HB2.out⟩, by simp [intOf]; omega⟩
      · congr 1; omega
      · congr 1; omega
    · obtain rfl : k = m := by omega
      have hu : us = used := by
        have h1 := HUU.out
        have h2 := HUT.out
        rw [HM.out, List.take_length] at h1
        omega
      subst hu
      have hbV : Below V.heap.size V wr := H2.out.trans (HB.out.mono H2.out.size)
      have c1 := HCB.out wr hbV
      have HWW := hid_mk (HW.out wr hbV)
      have HBW := hid_mk hbV
      obtain ⟨fr, hfr⟩ : ∃ fr : Nat, fr = rows - us - held := ⟨_, rfl⟩
      rw [← hfr] at HWW
      have hfr2 : us + held + fr = rows := by omega
      have s1 : IntKind.i64.wrap ((us : Int) + (held : Int)) = (us : Int) + (held : Int) := by rw [IntKind.wrap_i64]; omega
      have s2 : IntKind.i64.wrap ((us : Int) + (held : Int) + (fr : Int)) = (us : Int) + (held : Int) + (fr : Int) := by rw [IntKind.wrap_i64]; omega
      have s3 : (us : Int) + (held : Int) + (fr : Int) = (rows : Int) := by omega
      have s4 : (0 : Int) ≤ (held : Int) := by omega
      have s5 : (0 : Int) ≤ (fr : Int) := by omega
      clear hbV HW HFT HUU hfr hfr2 HCB c0
      go_wp2_with (first | (go_at_call 19; refine HWW.out.mono ?_; clear HWW; rintro e w5 ⟨rfl, hb5⟩; have HB5 := hid_mk hb5; clear hb5))
      go_ret
      exact ⟨rfl, ((HBV.out.trans (HBW.out.mono HBV.out.size)).trans (HB5.out.mono (Nat.le_trans HBV.out.size HBW.out.size))).alloc (Nat.le_trans (Nat.le_trans HBV.out.size HBW.out.size) HB5.out.size) _⟩
end Go.Proofs.YtcpdnalmoaojlaaDoor
