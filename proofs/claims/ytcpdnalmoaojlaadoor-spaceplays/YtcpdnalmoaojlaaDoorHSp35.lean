import Derived.Test.YtcpdnalmoaojlaaDoorHSp34

/-
  Drop.
-/
namespace Go.Proofs.YtcpdnalmoaojlaaDoor
open Go.ChangeShapes Go.WideShapes Go.ChangeAt Go.RowKit
set_option linter.unusedVariables false
set_option linter.unusedSimpArgs false

/-- What is left when a run is given back once. -/
def dropL (l : List Pc) (q : Pc) : List Pc := if 1 < q.count then putL l { q with count := q.count - 1 } else if q.st = 0 then outL l q.at' else putL l { q with count := 0, st := 2 }
/-- What Drop tells. -/
def DropPost (w : World) (s rows : Nat) (l : List Pc) (at' : Int) (e : Ending) (w' : World) : Prop :=
  Only s w w' ∧ (((∀ q ∈ l, (q.at' : Int) = at' → q.st = 2) ∧ e = .returned (.iface 27 (.int .i64 3)) ∧ SpAt w' s rows l) ∨
    ∃ q ∈ l, (q.at' : Int) = at' ∧ q.st ≠ 2 ∧ e = .returned .nilIface ∧ SpAt w' s rows (dropL l q))
theorem drop_ok {rows : Nat} {l : List Pc} {q : Pc} (h : SpOk rows l) (hq : q ∈ l) (hst : q.st ≠ 2) : SpOk rows (dropL l q) := by
  obtain ⟨o1, o2, o3, o4⟩ := h.ok q hq
  unfold dropL
  split
  · obtain ⟨_, _, _, _, h5⟩ := put_mid (q' := { q with count := q.count - 1 }) h hq rfl rfl ⟨fun _ => by show 1 ≤ q.count - 1; omega, by show q.count - 1 ≤ 65535; omega, o3, o4⟩
    exact h5
  · split
    · exact ⟨fits_filt _ h.fits, h.rows30, fun p hp => h.ok p (List.mem_filter.1 hp).1⟩
    · obtain ⟨_, _, _, _, h5⟩ := put_mid (q' := { q with count := 0, st := 2 }) h hq rfl rfl ⟨fun h => absurd rfl h, by show 0 ≤ 65535; omega, o3, by show 2 ≤ 2; omega⟩
      exact h5
theorem drop_rows {rows : Nat} {l : List Pc} {q : Pc} (h : SpOk rows l) (hq : q ∈ l) (hst : q.st ≠ 2) :
    (1 < q.count → rowsL isUsed (dropL l q) = rowsL isUsed l ∧ rowsL isHeld (dropL l q) = rowsL isHeld l) ∧
    (¬ 1 < q.count → q.n ≤ rowsL isUsed l ∧ rowsL isUsed (dropL l q) = rowsL isUsed l - q.n ∧ rowsL isHeld (dropL l q) = rowsL isHeld l + (if q.st = 0 then 0 else q.n)) := by
  obtain ⟨m, k, rfl⟩ := List.append_of_mem hq
  have hu : isUsed q = true := by simp [isUsed, hst]
  have hh : isHeld q = false := by simp [isHeld, hst]
  refine ⟨fun hc => ?_, fun hc => ?_⟩
  · unfold dropL
    rw [if_pos hc, putL_same (p := { q with count := q.count - 1 }) h.fits rfl, rows_mid, rows_mid, rows_mid, rows_mid]
    exact ⟨rfl, rfl⟩
  · unfold dropL
    rw [if_neg hc]
    by_cases h0 : q.st = 0
    · rw [if_pos h0, if_pos h0, outL_mid h.fits, rows_mid, rows_mid, rowsL_append, rowsL_append, hu, hh]
      simp
      omega
    · rw [if_neg h0, if_neg h0, putL_same (p := { q with count := 0, st := 2 }) h.fits rfl, rows_mid, rows_mid, rows_mid, rows_mid, hu, hh]
      simp [isUsed, isHeld]
      omega
set_option maxRecDepth 100000 in
set_option maxHeartbeats 4000000 in
theorem drop_any (s rows : Nat) (l : List Pc) (at' : Int) (w : World) (hs : SpAt w s rows l) (hok : SpOk rows l) : Calls Tryd.prog 41 #[.pointer (some ⟨s, 0, none⟩), .int .i64 at'] w (DropPost w s rows l at') := by
  have HR := hid_mk (run_p s rows l at' w hs hok)
  have hlt := hs.lt
  have HS := hid_mk hs
  obtain ⟨p, hc, hk⟩ := hs
  have HC := hid_mk hc
  have HK := hid_mk hk
  have HOK := hid_mk hok
  clear hc hk hok
  go_enter Tryd.func41, Tryd.ntmps41
  go_wp2_with (first | (go_at_call 59; refine HR.out.mono ?_; clear HR; rintro e w2 ⟨hb2, (⟨q, A, N, C, G, Z, HQ, hC1, hC2, hN0, hN1, hZ0, hZ1, rfl⟩ | ⟨HNO, rfl⟩)⟩ <;> (have HB2 := hid_mk hb2; clear hb2)))
  · have hC : 1 < C := by omega
    have HCC := hid_mk hC
    obtain ⟨P, hP⟩ : ∃ P, P = w2.heap.size := ⟨_, rfl⟩
    obtain ⟨V, hV⟩ : ∃ V, V = w2.alloc (.cells #[.int .i64 A, .int .i64 N, .int .i64 (C - 1), .int .u64 G, .int .u8 Z] 103) := ⟨_, rfl⟩
    have bV : Below w.heap.size w V := by rw [hV]; exact Below.alloc HB2.out HB2.out.size _
    have eV : V.heap[P]? = some (.cells #[.int .i64 A, .int .i64 N, .int .i64 (C - 1), .int .u64 G, .int .u8 Z] 103 (0, 0)) := by rw [hV, hP]; exact heap_alloc_new _ _
    have hPV := (Array.getElem?_eq_some_iff.1 eV).1
    have HBX : Hid (∀ W, Below V.heap.size V W → W.cell? ⟨P, 0, none⟩ = some (.int .i64 A) ∧ W.cell? ⟨P, 1, none⟩ = some (.int .i64 N) ∧ W.cell? ⟨P, 2, none⟩ = some (.int .i64 (C - 1)) ∧ W.cell? ⟨P, 3, none⟩ = some (.int .u64 G) ∧ W.cell? ⟨P, 4, none⟩ = some (.int .u8 Z)) := fun W hW => by
      have hb := (hW.block P hPV).trans eV
      exact ⟨by simp [World.cell?, hb], by simp [World.cell?, hb], by simp [World.cell?, hb], by simp [World.cell?, hb], by simp [World.cell?, hb]⟩
    have c3 : V.cell? ⟨s, 3, none⟩ = some (.pointer p) := (sp_cells ((bV.block s hlt).trans HC.out)).2.2.2
    have hPw : w.heap.size ≤ P := by rw [hP]; exact HB2.out.size
    have HCV : Hid (∀ W, Below V.heap.size V W → W.heap[s]? = some (.cells (spv rows (rowsL isUsed l) (rowsL isHeld l) p) 87 (0, 0))) := fun W hW => (hW.block s (Nat.lt_of_lt_of_le hlt bV.size)).trans ((bV.block s hlt).trans HC.out)
    have hsP : ¬ s = P := by omega
    have HBV := hid_mk bV
    have HKV := hid_mk (HK.out.below bV)
    rw [← hP, ← hV]
    obtain ⟨b0, b1, b2, b3, b4⟩ := HBX.out V (Below.refl _ _)
    obtain ⟨q', hq'⟩ : ∃ q' : Pc, q' = { q with count := q.count - 1 } := ⟨_, rfl⟩
    have hqc : 1 < q.count := by obtain ⟨_, _, _, _, _, h6, _⟩ := HQ.out; omega
    have hdl : dropL l q = putL l q' := by rw [hq']; unfold dropL; rw [if_pos hqc]
    have hok' := drop_ok HOK.out HQ.out.1 HQ.out.2.2.1
    have HUP := hid_mk ((drop_rows HOK.out HQ.out.1 HQ.out.2.2.1).1 hqc)
    rw [hdl] at hok'
    have HT : Hid (∀ W, Below V.heap.size V W → Calls Tryd.prog 57 #[.pointer p, .agg #[.int .i64 A, .int .i64 N, .int .i64 (C - 1), .int .u64 G, .int .u8 Z]] W (KPost W (putL l q'))) := fun W hW => by
      obtain ⟨k, hkd⟩ := HKV.out.below hW
      have h := with_any k p l q' 0 rows W hkd HOK.out.fits hok'.fits HOK.out.rows30
      obtain ⟨h1, h2, h3, h4, h5, h6, h7, h8⟩ := HQ.out
      have e : pcv q' = #[.int .i64 A, .int .i64 N, .int .i64 (C - 1), .int .u64 G, .int .u8 Z] := by rw [hq', h4, h5, h6, h7, h8]; simp [pcv]; omega
      rw [e] at h
      exact h
    have HDL := hid_mk hdl
    clear hV hP eV hok' hq' bV hdl hqc
    refine wp_region_held_drew (S := (fun w' => w'.cell? ⟨P, 0, none⟩ = some (.int .i64 A) ∧ w'.cell? ⟨P, 1, none⟩ = some (.int .i64 N) ∧ w'.cell? ⟨P, 2, none⟩ = some (.int .i64 (C - 1)) ∧ w'.cell? ⟨P, 3, none⟩ = some (.int .u64 G) ∧ w'.cell? ⟨P, 4, none⟩ = some (.int .u8 Z))) (by kernel_rfl) (by (try dsimp only); simp [*]) (fun hHeld => ?_)
    refine wpAnyH_take (i := 0) (v := ?_) rfl (by kernel_rfl) (by kernel_rfl) (by kernel_rfl) (fun _ _ _ h => h) (Or.inl ⟨by kernel_rfl, ?_⟩) (by assumption) ?_
    rotate_left
    · (intro w0 hSw; (try dsimp only at hSw); go_simp; (try with_reducible rfl))
    try simp only [Act.put, List.getElem_toArray, List.getElem_cons_zero, List.getElem_cons_succ, List.setIfInBounds_toArray, List.set_cons_zero, List.set_cons_succ]
    refine wpAnyH_take (i := 1) (v := ?_) rfl (by kernel_rfl) (by kernel_rfl) (by kernel_rfl) (fun _ _ _ h => h) (Or.inl ⟨by kernel_rfl, ?_⟩) (by assumption) ?_
    rotate_left
    · (intro w0 hSw; (try dsimp only at hSw); go_simp; (try with_reducible rfl))
    try simp only [Act.put, List.getElem_toArray, List.getElem_cons_zero, List.getElem_cons_succ, List.setIfInBounds_toArray, List.set_cons_zero, List.set_cons_succ]
    refine wpAnyH_take (i := 2) (v := ?_) rfl (by kernel_rfl) (by kernel_rfl) (by kernel_rfl) (fun _ _ _ h => h) (Or.inl ⟨by kernel_rfl, ?_⟩) (by assumption) ?_
    rotate_left
    · (intro w0 hSw; (try dsimp only at hSw); go_simp; (try with_reducible rfl))
    try simp only [Act.put, List.getElem_toArray, List.getElem_cons_zero, List.getElem_cons_succ, List.setIfInBounds_toArray, List.set_cons_zero, List.set_cons_succ]
    refine wpAnyH_take (i := 3) (v := ?_) rfl (by kernel_rfl) (by kernel_rfl) (by kernel_rfl) (fun _ _ _ h => h) (Or.inl ⟨by kernel_rfl, ?_⟩) (by assumption) ?_
    rotate_left
    · (intro w0 hSw; (try dsimp only at hSw); go_simp; (try with_reducible rfl))
    try simp only [Act.put, List.getElem_toArray, List.getElem_cons_zero, List.getElem_cons_succ, List.setIfInBounds_toArray, List.set_cons_zero, List.set_cons_succ]
    refine wpAnyH_take (i := 5) (v := ?_) rfl (by kernel_rfl) (by kernel_rfl) (by kernel_rfl) (fun _ _ _ h => h) (Or.inl ⟨by kernel_rfl, ?_⟩) (by assumption) ?_
    rotate_left
    · (intro w0 hSw; (try dsimp only at hSw); go_simp; (try with_reducible rfl))
    try simp only [Act.put, List.getElem_toArray, List.getElem_cons_zero, List.getElem_cons_succ, List.setIfInBounds_toArray, List.set_cons_zero, List.set_cons_succ]
    refine wpAnyH_ready (rs := [4]) (by kernel_rfl) (by simp) ?_
    refine AllReadyH.cons rfl (fun K hK => ?_) AllReadyH.nil
    go_simp
    refine hK.out _ _ (by (try dsimp only); simp [*]) (fun hHeld => ?_)
    clear hK K
    try simp only [Act.put, List.getElem_toArray, List.getElem_cons_zero, List.getElem_cons_succ, List.setIfInBounds_toArray, List.set_cons_zero, List.set_cons_succ]
    refine wpAnyH_ready (rs := [6]) (by kernel_rfl) (by simp) ?_
    refine AllReadyH.cons rfl (fun K hK => ?_) AllReadyH.nil
    (go_simp; go_at_call 57; refine (HT.out _ (Below.drew (Below.refl _ _))).mono ?_; clear HT; rintro e w3 ⟨t1, rfl, hk3, hb3⟩; have HB3 : Hid (Below V.heap.size V w3) := (Below.drew (Below.refl _ _)).trans hb3; have HK3 := hid_mk hk3; obtain ⟨y0, y1, y2, y3, y4⟩ := HBX.out w3 HB3.out; have y5 := (sp_cells (HCV.out w3 HB3.out)).2.2.2; have yf := unfrozen (HCV.out w3 HB3.out); clear hk3 hb3; go_wp2_with fail)
    refine hK.out _ _ (by (try dsimp only); simp [*]) (fun hHeld => ?_)
    clear hK K
    try simp only [Act.put, List.getElem_toArray, List.getElem_cons_zero, List.getElem_cons_succ, List.setIfInBounds_toArray, List.set_cons_zero, List.set_cons_succ]
    refine wpAnyH_take (i := 7) (v := ?_) rfl (by kernel_rfl) (by kernel_rfl) (by kernel_rfl) (fun _ _ _ h => h) (Or.inl ⟨by kernel_rfl, ?_⟩) (by assumption) ?_
    rotate_left
    · (intro w0 hSw; (try dsimp only at hSw); go_simp; (try with_reducible rfl))
    try simp only [Act.put, List.getElem_toArray, List.getElem_cons_zero, List.getElem_cons_succ, List.setIfInBounds_toArray, List.set_cons_zero, List.set_cons_succ]
    refine wpAnyH_take (i := 8) (v := ?_) rfl (by kernel_rfl) (by kernel_rfl) (by kernel_rfl) (fun _ _ _ h => h) (Or.inl ⟨by kernel_rfl, ?_⟩) (by assumption) ?_
    rotate_left
    · (intro w0 hSw; (try dsimp only at hSw); go_simp; (try with_reducible rfl))
    try simp only [Act.put, List.getElem_toArray, List.getElem_cons_zero, List.getElem_cons_succ, List.setIfInBounds_toArray, List.set_cons_zero, List.set_cons_succ]
    refine wpAnyH_ready (rs := [9]) (by kernel_rfl) (by simp) ?_
    refine AllReadyH.cons rfl (fun K hK => ?_) AllReadyH.nil
    go_simp
    refine hK.out _ _ (by (try dsimp only); simp [*, World.cell?_setCell_far]) (fun hHeld => ?_)
    clear hK K
    try simp only [Act.put, List.getElem_toArray, List.getElem_cons_zero, List.getElem_cons_succ, List.setIfInBounds_toArray, List.set_cons_zero, List.set_cons_succ]
    refine wpAnyH_done (by kernel_rfl) ?_ _
    go_wp2_with fail
    go_ret
    have hc3 := HCV.out w3 HB3.out
    have hb3 : Below w.heap.size w w3 := HBV.out.trans (HB3.out.mono HBV.out.size)
    obtain ⟨h1, h2, h3, _⟩ := HQ.out
    refine ⟨(Only.of_below hb3).setCell 3 _, .inr ⟨q, h1, h2, h3, rfl, ?_⟩⟩
    refine ⟨t1, ?_, ?_⟩
    · rw [heap_put hc3, HUP.out.1, HUP.out.2]
      simp [spv]
    · rw [HDL.out]
      exact HK3.out.only hc3 ((Only.refl s w3).setCell 3 _)
  · have hC : C = 1 := by omega
    have HCC := hid_mk hC
    clear hC
    obtain ⟨P, hP⟩ : ∃ P, P = w2.heap.size := ⟨_, rfl⟩
    obtain ⟨V, hV⟩ : ∃ V, V = w2.alloc (.cells #[.int .i64 A, .int .i64 N, .int .i64 (C - 1), .int .u64 G, .int .u8 Z] 103) := ⟨_, rfl⟩
    have bV : Below w.heap.size w V := by rw [hV]; exact Below.alloc HB2.out HB2.out.size _
    have eV : V.heap[P]? = some (.cells #[.int .i64 A, .int .i64 N, .int .i64 (C - 1), .int .u64 G, .int .u8 Z] 103 (0, 0)) := by rw [hV, hP]; exact heap_alloc_new _ _
    have hPV := (Array.getElem?_eq_some_iff.1 eV).1
    have HBX : Hid (∀ W, Below V.heap.size V W → W.cell? ⟨P, 0, none⟩ = some (.int .i64 A) ∧ W.cell? ⟨P, 1, none⟩ = some (.int .i64 N) ∧ W.cell? ⟨P, 2, none⟩ = some (.int .i64 (C - 1)) ∧ W.cell? ⟨P, 3, none⟩ = some (.int .u64 G) ∧ W.cell? ⟨P, 4, none⟩ = some (.int .u8 Z)) := fun W hW => by
      have hb := (hW.block P hPV).trans eV
      exact ⟨by simp [World.cell?, hb], by simp [World.cell?, hb], by simp [World.cell?, hb], by simp [World.cell?, hb], by simp [World.cell?, hb]⟩
    have c3 : V.cell? ⟨s, 3, none⟩ = some (.pointer p) := (sp_cells ((bV.block s hlt).trans HC.out)).2.2.2
    have hPw : w.heap.size ≤ P := by rw [hP]; exact HB2.out.size
    have HCV : Hid (∀ W, Below V.heap.size V W → W.heap[s]? = some (.cells (spv rows (rowsL isUsed l) (rowsL isHeld l) p) 87 (0, 0))) := fun W hW => (hW.block s (Nat.lt_of_lt_of_le hlt bV.size)).trans ((bV.block s hlt).trans HC.out)
    have hsP : ¬ s = P := by omega
    have HBV := hid_mk bV
    have HKV := hid_mk (HK.out.below bV)
    rw [← hP, ← hV]
    obtain ⟨b0, b1, b2, b3, b4⟩ := HBX.out V (Below.refl _ _)
    obtain ⟨U, hU⟩ : ∃ U : Int, U = (rowsL isUsed l : Nat) := ⟨_, rfl⟩
    obtain ⟨H, hH⟩ : ∃ H : Int, H = (rowsL isHeld l : Nat) := ⟨_, rfl⟩
    have hqc : ¬ 1 < q.count := by obtain ⟨_, _, _, _, _, h6, _⟩ := HQ.out; have := HCC.out; omega
    have hok' := drop_ok HOK.out HQ.out.1 HQ.out.2.2.1
    obtain ⟨hnu, hud, hhd⟩ := (drop_rows HOK.out HQ.out.1 HQ.out.2.2.1).2 hqc
    have hall := rowsL_all HOK.out.fits
    have h30 := HOK.out.rows30
    have u1 : V.cell? ⟨s, 1, none⟩ = some (.int .i64 U) := by rw [hU]; exact (sp_cells (HCV.out V (Below.refl _ _))).2.1
    have u2 : V.cell? ⟨s, 2, none⟩ = some (.int .i64 H) := by rw [hH]; exact (sp_cells (HCV.out V (Below.refl _ _))).2.2.1
    have uf := unfrozen (HCV.out V (Below.refl _ _))
    have pf := unfrozen eV
    have hNq : N = (q.n : Int) := HQ.out.2.2.2.2.1
    have hUN : IntKind.i64.wrap (U - N) = U - N := by rw [IntKind.wrap_i64]; omega
    have hHN : IntKind.i64.wrap (H + N) = H + N := by rw [IntKind.wrap_i64]; omega
    have hPs : ¬ P = s := fun e => hsP e.symm
    have HEV := hid_mk eV
    have HV1 : Hid ((V.setCell ⟨s, 1, none⟩ (.int .i64 (U - N))).heap[s]? = some (.cells #[.int .i64 (rows : Int), .int .i64 (U - N), .int .i64 H, .pointer p] 87 (0, 0))) := by
      show _ = _
      rw [heap_put (HCV.out V (Below.refl _ _)), hH]
      simp [spv]
    have HFU : Hid (U - N = ((rowsL isUsed (dropL l q) : Nat) : Int)) := by show _ = _; omega
    have HFH : Hid (H + (if q.st = 0 then 0 else N) = ((rowsL isHeld (dropL l q) : Nat) : Int)) := by
      show _ = _
      by_cases h0 : q.st = 0
      · rw [if_pos h0] at hhd ⊢; omega
      · rw [if_neg h0] at hhd ⊢; omega
    have HO1 : Hid (Only s V ((V.setCell ⟨s, 1, none⟩ (.int .i64 (U - N))).drew)) := ((Only.refl s V).setCell 1 _).trans (Only.of_below (Below.drew (Below.refl _ _)))
    have HOKD := hid_mk hok'
    have HQC := hid_mk hqc
    clear hV hP eV hok' bV hqc hnu hud hhd hall h30 hU hH hNq
    by_cases hz : Z = 0
    · have hst0 : q.st = 0 := by obtain ⟨_, _, _, _, _, _, _, h8⟩ := HQ.out; omega
      have HDL : Hid (dropL l q = outL l q.at') := by show _ = _; unfold dropL; rw [if_neg HQC.out, if_pos hst0]
      have HWO : Hid (∀ W, Only s V W → Calls Tryd.prog 60 #[.pointer p, .int .i64 at'] W (KPost W (outL l q.at'))) := fun W hW => by
        obtain ⟨k, hkd⟩ := HKV.out.only (HCV.out V (Below.refl _ _)) hW
        have h := without_any k p l q.at' 0 rows W hkd HOK.out.fits HOK.out.rows30
        rw [HQ.out.2.1] at h
        exact h
      have HST := hid_mk hst0
      clear hst0
      go_region
      go_wp2_with (first | (go_at_call 60; refine (HWO.out _ HO1.out).mono ?_; clear HWO; rintro e w3 ⟨t1, rfl, hk3, hb3⟩; have HK3 := hid_mk hk3; have HB3 := hid_mk hb3; have y3 : w3.heap[s]? = some (.cells #[.int .i64 (rows : Int), .int .i64 (U - N), .int .i64 H, .pointer p] 87 (0, 0)) := (hb3.block s (Array.getElem?_eq_some_iff.1 HV1.out).1).trans HV1.out; have HY3 := hid_mk y3; have yc : w3.cell? ⟨s, 3, none⟩ = some (.pointer p) := (by simp [World.cell?, y3]); have yf := unfrozen y3; clear hk3 hb3 y3))
      go_ret
      have hO3 : Only s w w3 := ((Only.of_below HBV.out).trans HO1.out).trans (Only.of_below HB3.out)
      obtain ⟨h1, h2, h3, _⟩ := HQ.out
      refine ⟨hO3.setCell 3 _, .inr ⟨q, h1, h2, h3, rfl, t1, ?_, ?_⟩⟩
      · have e1 := HFU.out
        have e2 := HFH.out
        rw [if_pos HST.out] at e2
        rw [heap_put HY3.out]
        unfold spv
        rw [← e1, ← e2]
        simp
      · rw [HDL.out]
        exact HK3.out.only HY3.out ((Only.refl s w3).setCell 3 _)
    · have hz1 : Z = 1 := by omega
      have hst1 : ¬ q.st = 0 := by obtain ⟨_, _, _, _, _, _, _, h8⟩ := HQ.out; omega
      have hq1 : q.st = 1 := by obtain ⟨_, _, _, _, _, _, _, h8⟩ := HQ.out; omega
      have hzz : ¬ Z = 0 := hz
      obtain ⟨q', hq'⟩ : ∃ q' : Pc, q' = { q with count := 0, st := 2 } := ⟨_, rfl⟩
      have hdl : dropL l q = putL l q' := by rw [hq']; unfold dropL; rw [if_neg HQC.out, if_neg hst1]
      obtain ⟨X, hX⟩ : ∃ X, X = (((V.setCell ⟨s, 1, none⟩ (.int .i64 (U - N))).setCell ⟨P, 4, none⟩ (.int .u8 2)).setCell ⟨s, 2, none⟩ (.int .i64 (H + N))).drew.drew := ⟨_, rfl⟩
      have xP : X.heap[P]? = some (.cells #[.int .i64 A, .int .i64 N, .int .i64 (C - 1), .int .u64 G, .int .u8 2] 103 (0, 0)) := by
        rw [hX]
        refine (Below.heap_setCell _ _ _ _ hPs).trans ?_
        have h := (Below.heap_setCell V ⟨s, 1, none⟩ (.int .i64 (U - N)) P hPs).trans HEV.out
        rw [heap_put h]
        simp
      have xS : X.heap[s]? = some (.cells #[.int .i64 (rows : Int), .int .i64 (U - N), .int .i64 (H + N), .pointer p] 87 (0, 0)) := by
        rw [hX]
        have h := (Below.heap_setCell (V.setCell ⟨s, 1, none⟩ (.int .i64 (U - N))) ⟨P, 4, none⟩ (.int .u8 2) s hsP).trans HV1.out
        refine (heap_put h _).trans ?_
        simp
      have sX : X.heap.size = V.heap.size := by rw [hX]; simp [World.setCell, World.drew]
      have oX : Only s w X := by
        have hs := HBV.out.size
        refine ⟨?_, ?_, ?_, by rw [sX]; exact hs, fun k hk hks => ?_⟩
        · rw [hX]; exact HBV.out.os
        · rw [hX]; exact HBV.out.tape
        · rw [hX]; exact HBV.out.output
        · rw [hX]
          refine (Below.heap_setCell _ _ _ _ hks).trans ((Below.heap_setCell _ _ _ _ (show k ≠ P by omega)).trans ((Below.heap_setCell _ _ _ _ hks).trans (HBV.out.block k hk)))
      have kX : KT X p l := by
        obtain ⟨k, hkd⟩ := HKV.out
        refine ⟨k, KD.keep (fun b cur e => ?_) k p l hkd⟩
        have hbs : b ≠ s := by rintro rfl; rw [HCV.out V (Below.refl _ _)] at e; simp at e
        have hbP : b ≠ P := by rintro rfl; rw [HEV.out] at e; simp at e
        rw [hX]
        exact (Below.heap_setCell _ _ _ _ hbs).trans ((Below.heap_setCell _ _ _ _ hbP).trans (Below.heap_setCell _ _ _ _ hbs))
      have HXB : Hid (∀ W, Below X.heap.size X W → W.cell? ⟨P, 0, none⟩ = some (.int .i64 A) ∧ W.cell? ⟨P, 1, none⟩ = some (.int .i64 N) ∧ W.cell? ⟨P, 2, none⟩ = some (.int .i64 (C - 1)) ∧ W.cell? ⟨P, 3, none⟩ = some (.int .u64 G) ∧ W.cell? ⟨P, 4, none⟩ = some (.int .u8 2)) := fun W hW => by
        have hb := (hW.block P (Array.getElem?_eq_some_iff.1 xP).1).trans xP
        exact ⟨by simp [World.cell?, hb], by simp [World.cell?, hb], by simp [World.cell?, hb], by simp [World.cell?, hb], by simp [World.cell?, hb]⟩
      have HXS : Hid (∀ W, Below X.heap.size X W → W.heap[s]? = some (.cells #[.int .i64 (rows : Int), .int .i64 (U - N), .int .i64 (H + N), .pointer p] 87 (0, 0))) := fun W hW => (hW.block s (Array.getElem?_eq_some_iff.1 xS).1).trans xS
      have HT : Hid (∀ W, Below X.heap.size X W → Calls Tryd.prog 57 #[.pointer p, .agg #[.int .i64 A, .int .i64 N, .int .i64 (C - 1), .int .u64 G, .int .u8 2]] W (KPost W (putL l q'))) := fun W hW => by
        obtain ⟨k, hkd⟩ := kX.below hW
        have hok' := HOKD.out
        rw [hdl] at hok'
        have h := with_any k p l q' 0 rows W hkd HOK.out.fits hok'.fits HOK.out.rows30
        obtain ⟨h1, h2, h3, h4, h5, h6, h7, h8⟩ := HQ.out
        have e : pcv q' = #[.int .i64 A, .int .i64 N, .int .i64 (C - 1), .int .u64 G, .int .u8 2] := by rw [hq', h4, h5, HCC.out, h7]; simp [pcv]
        rw [e] at h
        exact h
      have HDL := hid_mk hdl
      have HST := hid_mk hst1
      have HOX := hid_mk oX
      have x3 : X.cell? ⟨s, 3, none⟩ = some (.pointer p) := by simp [World.cell?, xS]
      obtain ⟨x0, x1, x2, x4, x5⟩ := HXB.out X (Below.refl _ _)
      clear xP xS sX oX kX hdl hst1 hq1 hq'
      go_region
      go_wp2_with fail
      go_region
      go_wp2_with fail
      rw [← hX]
      clear hX b0 b1 b2 b3 b4 u1 u2 uf pf c3
      refine wp_region_held_drew (S := (fun w' => w'.cell? ⟨P, 0, none⟩ = some (.int .i64 A) ∧ w'.cell? ⟨P, 1, none⟩ = some (.int .i64 N) ∧ w'.cell? ⟨P, 2, none⟩ = some (.int .i64 (C - 1)) ∧ w'.cell? ⟨P, 3, none⟩ = some (.int .u64 G) ∧ w'.cell? ⟨P, 4, none⟩ = some (.int .u8 2))) (by kernel_rfl) (by (try dsimp only); simp [*]) (fun hHeld => ?_)
      refine wpAnyH_take (i := 0) (v := ?_) rfl (by kernel_rfl) (by kernel_rfl) (by kernel_rfl) (fun _ _ _ h => h) (Or.inl ⟨by kernel_rfl, ?_⟩) (by assumption) ?_
      rotate_left
      · (intro w0 hSw; (try dsimp only at hSw); go_simp; (try with_reducible rfl))
      try simp only [Act.put, List.getElem_toArray, List.getElem_cons_zero, List.getElem_cons_succ, List.setIfInBounds_toArray, List.set_cons_zero, List.set_cons_succ]
      refine wpAnyH_take (i := 1) (v := ?_) rfl (by kernel_rfl) (by kernel_rfl) (by kernel_rfl) (fun _ _ _ h => h) (Or.inl ⟨by kernel_rfl, ?_⟩) (by assumption) ?_
      rotate_left
      · (intro w0 hSw; (try dsimp only at hSw); go_simp; (try with_reducible rfl))
      try simp only [Act.put, List.getElem_toArray, List.getElem_cons_zero, List.getElem_cons_succ, List.setIfInBounds_toArray, List.set_cons_zero, List.set_cons_succ]
      refine wpAnyH_take (i := 2) (v := ?_) rfl (by kernel_rfl) (by kernel_rfl) (by kernel_rfl) (fun _ _ _ h => h) (Or.inl ⟨by kernel_rfl, ?_⟩) (by assumption) ?_
      rotate_left
      · (intro w0 hSw; (try dsimp only at hSw); go_simp; (try with_reducible rfl))
      try simp only [Act.put, List.getElem_toArray, List.getElem_cons_zero, List.getElem_cons_succ, List.setIfInBounds_toArray, List.set_cons_zero, List.set_cons_succ]
      refine wpAnyH_take (i := 3) (v := ?_) rfl (by kernel_rfl) (by kernel_rfl) (by kernel_rfl) (fun _ _ _ h => h) (Or.inl ⟨by kernel_rfl, ?_⟩) (by assumption) ?_
      rotate_left
      · (intro w0 hSw; (try dsimp only at hSw); go_simp; (try with_reducible rfl))
      try simp only [Act.put, List.getElem_toArray, List.getElem_cons_zero, List.getElem_cons_succ, List.setIfInBounds_toArray, List.set_cons_zero, List.set_cons_succ]
      refine wpAnyH_take (i := 5) (v := ?_) rfl (by kernel_rfl) (by kernel_rfl) (by kernel_rfl) (fun _ _ _ h => h) (Or.inl ⟨by kernel_rfl, ?_⟩) (by assumption) ?_
      rotate_left
      · (intro w0 hSw; (try dsimp only at hSw); go_simp; (try with_reducible rfl))
      try simp only [Act.put, List.getElem_toArray, List.getElem_cons_zero, List.getElem_cons_succ, List.setIfInBounds_toArray, List.set_cons_zero, List.set_cons_succ]
      refine wpAnyH_ready (rs := [4]) (by kernel_rfl) (by simp) ?_
      refine AllReadyH.cons rfl (fun K hK => ?_) AllReadyH.nil
      go_simp
      refine hK.out _ _ (by (try dsimp only); simp [*]) (fun hHeld => ?_)
      clear hK K
      try simp only [Act.put, List.getElem_toArray, List.getElem_cons_zero, List.getElem_cons_succ, List.setIfInBounds_toArray, List.set_cons_zero, List.set_cons_succ]
      refine wpAnyH_ready (rs := [6]) (by kernel_rfl) (by simp) ?_
      refine AllReadyH.cons rfl (fun K hK => ?_) AllReadyH.nil
      (go_simp; go_at_call 57; refine (HT.out _ (Below.drew (Below.refl _ _))).mono ?_; clear HT; rintro e w3 ⟨t1, rfl, hk3, hb3⟩; have HB3 : Hid (Below X.heap.size X w3) := (Below.drew (Below.refl _ _)).trans hb3; have HK3 := hid_mk hk3; obtain ⟨y0, y1, y2, y3, y4⟩ := HXB.out w3 HB3.out; have y5 : w3.cell? ⟨s, 3, none⟩ = some (.pointer p) := (by simp [World.cell?, HXS.out w3 HB3.out]); have yf := unfrozen (HXS.out w3 HB3.out); clear hk3 hb3; go_wp2_with fail)
      refine hK.out _ _ (by (try dsimp only); simp [*]) (fun hHeld => ?_)
      clear hK K
      try simp only [Act.put, List.getElem_toArray, List.getElem_cons_zero, List.getElem_cons_succ, List.setIfInBounds_toArray, List.set_cons_zero, List.set_cons_succ]
      refine wpAnyH_take (i := 7) (v := ?_) rfl (by kernel_rfl) (by kernel_rfl) (by kernel_rfl) (fun _ _ _ h => h) (Or.inl ⟨by kernel_rfl, ?_⟩) (by assumption) ?_
      rotate_left
      · (intro w0 hSw; (try dsimp only at hSw); go_simp; (try with_reducible rfl))
      try simp only [Act.put, List.getElem_toArray, List.getElem_cons_zero, List.getElem_cons_succ, List.setIfInBounds_toArray, List.set_cons_zero, List.set_cons_succ]
      refine wpAnyH_take (i := 8) (v := ?_) rfl (by kernel_rfl) (by kernel_rfl) (by kernel_rfl) (fun _ _ _ h => h) (Or.inl ⟨by kernel_rfl, ?_⟩) (by assumption) ?_
      rotate_left
      · (intro w0 hSw; (try dsimp only at hSw); go_simp; (try with_reducible rfl))
      try simp only [Act.put, List.getElem_toArray, List.getElem_cons_zero, List.getElem_cons_succ, List.setIfInBounds_toArray, List.set_cons_zero, List.set_cons_succ]
      refine wpAnyH_ready (rs := [9]) (by kernel_rfl) (by simp) ?_
      refine AllReadyH.cons rfl (fun K hK => ?_) AllReadyH.nil
      go_simp
      refine hK.out _ _ (by (try dsimp only); simp [*, World.cell?_setCell_far]) (fun hHeld => ?_)
      clear hK K
      try simp only [Act.put, List.getElem_toArray, List.getElem_cons_zero, List.getElem_cons_succ, List.setIfInBounds_toArray, List.set_cons_zero, List.set_cons_succ]
      refine wpAnyH_done (by kernel_rfl) ?_ _
      go_wp2_with fail
      go_ret
      have hc3 := HXS.out w3 HB3.out
      obtain ⟨h1, h2, h3, _⟩ := HQ.out
      refine ⟨(HOX.out.trans (Only.of_below HB3.out)).setCell 3 _, .inr ⟨q, h1, h2, h3, rfl, t1, ?_, ?_⟩⟩
      · have e1 := HFU.out
        have e2 := HFH.out
        rw [if_neg HST.out] at e2
        rw [heap_put hc3]
        unfold spv
        rw [← e1, ← e2]
        simp
      · rw [HDL.out]
        exact HK3.out.only hc3 ((Only.refl s w3).setCell 3 _)
  · go_ret
    have hb : Below w.heap.size w (w2.alloc (.cells #[.int .i64 0, .int .i64 0, .int .i64 0, .int .u64 0, .int .u8 0] 103)) := Below.alloc HB2.out HB2.out.size _
    exact ⟨Only.of_below hb, .inl ⟨HNO.out, rfl, HS.out.below hb⟩⟩
end Go.Proofs.YtcpdnalmoaojlaaDoor
