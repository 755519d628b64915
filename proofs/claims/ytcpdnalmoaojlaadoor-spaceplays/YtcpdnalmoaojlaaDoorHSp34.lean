import Derived.Test.YtcpdnalmoaojlaaDoorHSp33
import Derived.Laws.Cover1

/-
  Share.
-/
namespace Go.Proofs.YtcpdnalmoaojlaaDoor
open Go.ChangeShapes Go.WideShapes Go.ChangeAt Go.RowKit
set_option linter.unusedVariables false
set_option linter.unusedSimpArgs false

/-- A piece in the place of one that begins where it does. -/
theorem put_mid {rows : Nat} {l : List Pc} {q q' : Pc} (h : SpOk rows l) (hq : q ∈ l) (h1 : q'.at' = q.at') (h2 : q'.n = q.n) (h3 : q'.Ok) : ∃ m k, l = m ++ q :: k ∧ putL l q' = m ++ q' :: k ∧ SpOk rows (putL l q') := by
  obtain ⟨m, k, rfl⟩ := List.append_of_mem hq
  have e := putL_same (m := m) (k := k) (p := q') h.fits h1
  refine ⟨m, k, rfl, e, ?_⟩
  rw [e]
  refine ⟨fits_put h.fits h1 h2, h.rows30, fun p hp => ?_⟩
  rcases List.mem_append.1 hp with hp | hp
  · exact h.ok p (by simp [hp])
  · rcases List.mem_cons.1 hp with rfl | hp
    · exact h3
    · exact h.ok p (by simp [hp])
theorem rows_mid (f : Pc → Bool) (m k : List Pc) (q : Pc) : rowsL f (m ++ q :: k) = rowsL f m + ((if f q then q.n else 0) + rowsL f k) := by
  rw [rowsL_append]; rfl
/-- What Share tells. -/
def SharePost (w : World) (s rows : Nat) (l : List Pc) (at' : Int) (e : Ending) (w' : World) : Prop :=
  Only s w w' ∧ (((∀ q ∈ l, (q.at' : Int) = at' → q.st = 2) ∧ e = .returned (.iface 27 (.int .i64 3)) ∧ SpAt w' s rows l) ∨
    ∃ q ∈ l, (q.at' : Int) = at' ∧ q.st ≠ 2 ∧ ((q.count = 65535 ∧ e = .returned (.iface 27 (.int .i64 14)) ∧ SpAt w' s rows l) ∨ (q.count < 65535 ∧ e = .returned .nilIface ∧ SpAt w' s rows (putL l { q with count := q.count + 1 }))))
/-- What run tells, its numbers named. -/
def RunP (w : World) (l : List Pc) (at' : Int) (e : Ending) (w' : World) : Prop :=
  Below w.heap.size w w' ∧ ((∃ (q : Pc) (A N C G Z : Int), Hid (q ∈ l ∧ (q.at' : Int) = at' ∧ q.st ≠ 2 ∧ A = (q.at' : Int) ∧ N = (q.n : Int) ∧ C = (q.count : Int) ∧ G = (q.tag : Int) ∧ Z = (q.st : Int)) ∧ 1 ≤ C ∧ C ≤ 65535 ∧ 0 ≤ N ∧ N ≤ 1073741824 ∧ 0 ≤ Z ∧ Z ≤ 1 ∧ e = .returned (.tuple #[.agg #[.int .i64 A, .int .i64 N, .int .i64 C, .int .u64 G, .int .u8 Z], .nilIface])) ∨
    (Hid (∀ q ∈ l, (q.at' : Int) = at' → q.st = 2) ∧ e = .returned (.tuple #[.agg #[.int .i64 0, .int .i64 0, .int .i64 0, .int .u64 0, .int .u8 0], .iface 27 (.int .i64 3)])))
theorem run_p (s rows : Nat) (l : List Pc) (at' : Int) (w : World) (hs : SpAt w s rows l) (hok : SpOk rows l) : Calls Tryd.prog 59 #[.pointer (some ⟨s, 0, none⟩), .int .i64 at'] w (RunP w l at') := by
  refine (run_any s rows l at' w hs hok).mono ?_
  rintro e w' ⟨hb, (⟨q, hq, he, hst, rfl⟩ | ⟨hno, rfl⟩)⟩
  · obtain ⟨h1, h2, h3, h4⟩ := hok.ok q hq
    obtain ⟨_, h6, h7⟩ := fits_mem hok.fits q hq
    have h8 := hok.rows30
    have h9 : q.stop = q.at' + q.n := rfl
    have h10 := h1 hst
    exact ⟨hb, .inl ⟨q, _, _, _, _, _, ⟨hq, he, hst, rfl, rfl, rfl, rfl, rfl⟩, by omega, by omega, by omega, by omega, by omega, by omega, rfl⟩⟩
  · exact ⟨hb, .inr ⟨hno, rfl⟩⟩
set_option maxRecDepth 100000 in
set_option maxHeartbeats 4000000 in
theorem share_any (s rows : Nat) (l : List Pc) (at' : Int) (w : World) (hs : SpAt w s rows l) (hok : SpOk rows l) : Calls Tryd.prog 42 #[.pointer (some ⟨s, 0, none⟩), .int .i64 at'] w (SharePost w s rows l at') := by
  have HR := hid_mk (run_p s rows l at' w hs hok)
  have hlt := hs.lt
  have HS := hid_mk hs
  obtain ⟨p, hc, hk⟩ := hs
  have HC := hid_mk hc
  have HK := hid_mk hk
  have HOK := hid_mk hok
  clear hc hk hok
  go_enter Tryd.func42, Tryd.ntmps42
  go_wp2_with (first | (go_at_call 59; refine HR.out.mono ?_; clear HR; rintro e w2 ⟨hb2, (⟨q, A, N, C, G, Z, HQ, hC1, hC2, hN0, hN1, hZ0, hZ1, rfl⟩ | ⟨HNO, rfl⟩)⟩ <;> (have HB2 := hid_mk hb2; clear hb2)))
  · go_ret
    have hC : C = 65535 := by have h := ‹(C == 65535) = true›; simpa using h
    obtain ⟨h1, h2, h3, h4, h5, h6, h7, h8⟩ := HQ.out
    have hb : Below w.heap.size w (w2.alloc (.cells #[.int .i64 A, .int .i64 N, .int .i64 C, .int .u64 G, .int .u8 Z] 103)) := Below.alloc HB2.out HB2.out.size _
    exact ⟨Only.of_below hb, .inr ⟨q, h1, h2, h3, .inl ⟨by omega, rfl, HS.out.below hb⟩⟩⟩
  · have hC : C < 65535 := by have h := ‹(C == 65535) = false›; have h' : ¬ C = 65535 := (by simpa using h); omega
    obtain ⟨P, hP⟩ : ∃ P, P = w2.heap.size := ⟨_, rfl⟩
    obtain ⟨V, hV⟩ : ∃ V, V = w2.alloc (.cells #[.int .i64 A, .int .i64 N, .int .i64 (C + 1), .int .u64 G, .int .u8 Z] 103) := ⟨_, rfl⟩
    have bV : Below w.heap.size w V := by rw [hV]; exact Below.alloc HB2.out HB2.out.size _
    have eV : V.heap[P]? = some (.cells #[.int .i64 A, .int .i64 N, .int .i64 (C + 1), .int .u64 G, .int .u8 Z] 103 (0, 0)) := by rw [hV, hP]; exact heap_alloc_new _ _
    have hPV := (Array.getElem?_eq_some_iff.1 eV).1
    have HBX : Hid (∀ W, Below V.heap.size V W → W.cell? ⟨P, 0, none⟩ = some (.int .i64 A) ∧ W.cell? ⟨P, 1, none⟩ = some (.int .i64 N) ∧ W.cell? ⟨P, 2, none⟩ = some (.int .i64 (C + 1)) ∧ W.cell? ⟨P, 3, none⟩ = some (.int .u64 G) ∧ W.cell? ⟨P, 4, none⟩ = some (.int .u8 Z)) := fun W hW => by
      have hb := (hW.block P hPV).trans eV
      exact ⟨by simp [World.cell?, hb], by simp [World.cell?, hb], by simp [World.cell?, hb], by simp [World.cell?, hb], by simp [World.cell?, hb]⟩
    obtain ⟨q', hq'⟩ : ∃ q' : Pc, q' = { q with count := q.count + 1 } := ⟨_, rfl⟩
    obtain ⟨m1, m2, hl, hpl, hok'⟩ := put_mid (q' := q') HOK.out HQ.out.1 (by rw [hq']) (by rw [hq']) (by
      obtain ⟨h1, h2, h3, h4, h5, h6, h7, h8⟩ := HQ.out
      obtain ⟨o1, o2, o3, o4⟩ := HOK.out.ok q h1
      rw [hq']
      exact ⟨fun _ => by show 1 ≤ q.count + 1; omega, by show q.count + 1 ≤ 65535; omega, o3, o4⟩)
    have HT : Hid (∀ W, Below V.heap.size V W → Calls Tryd.prog 57 #[.pointer p, .agg #[.int .i64 A, .int .i64 N, .int .i64 (C + 1), .int .u64 G, .int .u8 Z]] W (KPost W (putL l q'))) := fun W hW => by
      obtain ⟨k, hkd⟩ := (HK.out.below bV).below hW
      have h := with_any k p l q' 0 rows W hkd HOK.out.fits hok'.fits HOK.out.rows30
      obtain ⟨h1, h2, h3, h4, h5, h6, h7, h8⟩ := HQ.out
      have e : pcv q' = #[.int .i64 A, .int .i64 N, .int .i64 (C + 1), .int .u64 G, .int .u8 Z] := by rw [hq', h4, h5, h6, h7, h8]; simp [pcv]
      rw [e] at h
      exact h
    have c3 : V.cell? ⟨s, 3, none⟩ = some (.pointer p) := (sp_cells ((bV.block s hlt).trans HC.out)).2.2.2
    have hPw : w.heap.size ≤ P := by rw [hP]; exact HB2.out.size
    have HCV : Hid (∀ W, Below V.heap.size V W → W.heap[s]? = some (.cells (spv rows (rowsL isUsed l) (rowsL isHeld l) p) 87 (0, 0))) := fun W hW => (hW.block s (Nat.lt_of_lt_of_le hlt bV.size)).trans ((bV.block s hlt).trans HC.out)
    have hsP : ¬ s = P := by omega
    have HBV := hid_mk bV
    have HUP : Hid (rowsL isUsed (putL l q') = rowsL isUsed l ∧ rowsL isHeld (putL l q') = rowsL isHeld l) := by
      rw [hpl, hl, rows_mid, rows_mid, rows_mid, rows_mid, hq']
      exact ⟨rfl, rfl⟩
    have HQ' := hid_mk hq'
    rw [← hP, ← hV]
    obtain ⟨b0, b1, b2, b3, b4⟩ := HBX.out V (Below.refl _ _)
    clear hV hP eV hl hpl hok' hq' bV
    refine wp_region_held_drew (S := (fun w' => w'.cell? ⟨P, 0, none⟩ = some (.int .i64 A) ∧ w'.cell? ⟨P, 1, none⟩ = some (.int .i64 N) ∧ w'.cell? ⟨P, 2, none⟩ = some (.int .i64 (C + 1)) ∧ w'.cell? ⟨P, 3, none⟩ = some (.int .u64 G) ∧ w'.cell? ⟨P, 4, none⟩ = some (.int .u8 Z))) (by kernel_rfl) (by (try dsimp only); simp [*]) (fun hHeld => ?_)
    refine wpAnyH_take (i := 0) (v := ?_) rfl (by kernel_rfl) (by kernel_rfl) (by kernel_rfl) (fun _ _ _ h => h) (Or.inl ⟨by kernel_rfl, ?_⟩) (by assumption) ?_
    rotate_left
    · (intro w0 hSw; (try dsimp only at hSw); go_simp; (try with_reducible rfl))
    try simp only [Act.put, List.getElem_toArray, List.getElem_cons_zero, List.getElem_cons_succ, List.setIfInBounds_toArray, List.set_cons_zero, List.set_cons_succ]
    refine wpAnyH_take (i := 1) (v := ?_) rfl (by kernel_rfl) (by kernel_rfl) (by kernel_rfl) (fun _ _ _ h => h) (Or.inl ⟨by kernel_rfl, ?_⟩) (by assumption) ?_
    rotate_left
    · (intro w0 hSw; (try dsimp only at hSw); go_simp; (try with_reducible rfl))
    try simp only [Act.put, List.getElem_toArray, List.getElem_cons_zero, List.getElem_cons_succ, List.setIfInBounds_toArray, List.set_cons_zero, List.set_cons_succ]
    refine wpAnyH_take (i := 2) (v := ?_) rfl (by kernel_rfl) (by kernel_rfl) (by kernel_rfl) (fun _ _ _ h => h) (Or.inl ⟨by kernel_rfl, ?_⟩) (by assumption) ?_
    rotate_left
    · (intro w0 hSw; (try dsimp only at hSw); go_simp; (try with_reducible rfl))
    try simp only [Act.put, List.getElem_toArray, List.getElem_cons_zero, List.getElem_cons_succ, List.setIfInBounds_toArray, List.set_cons_zero, List.set_cons_succ]
    refine wpAnyH_take (i := 3) (v := ?_) rfl (by kernel_rfl) (by kernel_rfl) (by kernel_rfl) (fun _ _ _ h => h) (Or.inl ⟨by kernel_rfl, ?_⟩) (by assumption) ?_
    rotate_left
    · (intro w0 hSw; (try dsimp only at hSw); go_simp; (try with_reducible rfl))
    try simp only [Act.put, List.getElem_toArray, List.getElem_cons_zero, List.getElem_cons_succ, List.setIfInBounds_toArray, List.set_cons_zero, List.set_cons_succ]
    refine wpAnyH_take (i := 5) (v := ?_) rfl (by kernel_rfl) (by kernel_rfl) (by kernel_rfl) (fun _ _ _ h => h) (Or.inl ⟨by kernel_rfl, ?_⟩) (by assumption) ?_
    rotate_left
    · (intro w0 hSw; (try dsimp only at hSw); go_simp; (try with_reducible rfl))
    try simp only [Act.put, List.getElem_toArray, List.getElem_cons_zero, List.getElem_cons_succ, List.setIfInBounds_toArray, List.set_cons_zero, List.set_cons_succ]
    refine wpAnyH_ready (rs := [4]) (by kernel_rfl) (by simp) ?_
    refine AllReadyH.cons rfl (fun K hK => ?_) AllReadyH.nil
    go_simp
    refine hK.out _ _ (by (try dsimp only); simp [*]) (fun hHeld => ?_)
    clear hK K
    try simp only [Act.put, List.getElem_toArray, List.getElem_cons_zero, List.getElem_cons_succ, List.setIfInBounds_toArray, List.set_cons_zero, List.set_cons_succ]
    refine wpAnyH_ready (rs := [6]) (by kernel_rfl) (by simp) ?_
    refine AllReadyH.cons rfl (fun K hK => ?_) AllReadyH.nil
    (go_simp; go_at_call 57; refine (HT.out _ (Below.drew (Below.refl _ _))).mono ?_; clear HT; rintro e w3 ⟨t1, rfl, hk3, hb3⟩; have HB3 : Hid (Below V.heap.size V w3) := (Below.drew (Below.refl _ _)).trans hb3; have HK3 := hid_mk hk3; obtain ⟨y0, y1, y2, y3, y4⟩ := HBX.out w3 HB3.out; have y5 := (sp_cells (HCV.out w3 HB3.out)).2.2.2; have yf := unfrozen (HCV.out w3 HB3.out); clear hk3 hb3; go_wp2_with fail)
    refine hK.out _ _ (by (try dsimp only); simp [*]) (fun hHeld => ?_)
    clear hK K
    try simp only [Act.put, List.getElem_toArray, List.getElem_cons_zero, List.getElem_cons_succ, List.setIfInBounds_toArray, List.set_cons_zero, List.set_cons_succ]
    refine wpAnyH_take (i := 7) (v := ?_) rfl (by kernel_rfl) (by kernel_rfl) (by kernel_rfl) (fun _ _ _ h => h) (Or.inl ⟨by kernel_rfl, ?_⟩) (by assumption) ?_
    rotate_left
    · (intro w0 hSw; (try dsimp only at hSw); go_simp; (try with_reducible rfl))
    try simp only [Act.put, List.getElem_toArray, List.getElem_cons_zero, List.getElem_cons_succ, List.setIfInBounds_toArray, List.set_cons_zero, List.set_cons_succ]
    refine wpAnyH_take (i := 8) (v := ?_) rfl (by kernel_rfl) (by kernel_rfl) (by kernel_rfl) (fun _ _ _ h => h) (Or.inl ⟨by kernel_rfl, ?_⟩) (by assumption) ?_
    rotate_left
    · (intro w0 hSw; (try dsimp only at hSw); go_simp; (try with_reducible rfl))
    try simp only [Act.put, List.getElem_toArray, List.getElem_cons_zero, List.getElem_cons_succ, List.setIfInBounds_toArray, List.set_cons_zero, List.set_cons_succ]
    refine wpAnyH_ready (rs := [9]) (by kernel_rfl) (by simp) ?_
    refine AllReadyH.cons rfl (fun K hK => ?_) AllReadyH.nil
    go_simp
    refine hK.out _ _ (by (try dsimp only); simp [*, World.cell?_setCell_far]) (fun hHeld => ?_)
    clear hK K
    try simp only [Act.put, List.getElem_toArray, List.getElem_cons_zero, List.getElem_cons_succ, List.setIfInBounds_toArray, List.set_cons_zero, List.set_cons_succ]
    refine wpAnyH_done (by kernel_rfl) ?_ _
    go_wp2_with fail
    go_ret
    have hc3 := HCV.out w3 HB3.out
    have hb3 : Below w.heap.size w w3 := HBV.out.trans (HB3.out.mono HBV.out.size)
    obtain ⟨h1, h2, h3, _⟩ := HQ.out
    refine ⟨(Only.of_below hb3).setCell 3 _, .inr ⟨q, h1, h2, h3, .inr ⟨?_, rfl, ?_⟩⟩⟩
    · obtain ⟨_, _, _, _, _, h6, _⟩ := HQ.out
      omega
    · rw [← HQ'.out]
      refine ⟨t1, ?_, HK3.out.only hc3 ((Only.refl s w3).setCell 3 _)⟩
      rw [heap_put hc3, HUP.out.1, HUP.out.2]
      simp [spv]
  · go_ret
    have hb : Below w.heap.size w (w2.alloc (.cells #[.int .i64 0, .int .i64 0, .int .i64 0, .int .u64 0, .int .u8 0] 103)) := Below.alloc HB2.out HB2.out.size _
    exact ⟨Only.of_below hb, .inl ⟨HNO.out, rfl, HS.out.below hb⟩⟩
end Go.Proofs.YtcpdnalmoaojlaaDoor
