import Derived.Test.YtcpdnalmoaojlaaDoorHQ9

/-
  plain's words that SpacePlays wants besides: Take of any number, Find, Grow, Copy, Is, SpaceNew of too many.
-/
namespace Go.Proofs.YtcpdnalmoaojlaaDoor
open Go.RowKit Go.Shelf
set_option linter.unusedVariables false
set_option linter.unusedSimpArgs false

set_option maxRecDepth 100000 in
theorem take_low (s : Nat) (n : Int) (tag : Nat) (w : World) (hn : n < 1) :
    Calls Tryd.prog 39 #[.pointer (some ⟨s, 0, none⟩), .int .i64 n, .int .u64 (tag : Int)] w fun e w' => e = .returned (.tuple #[.int .i64 0, .iface 27 (.int .i64 5)]) ∧ w' = w := by
  go_enter Tryd.func39, Tryd.ntmps39
  go_wp2_with fail
  go_ret2
  exact ⟨rfl, rfl⟩
set_option maxRecDepth 100000 in
theorem ptake_low (s : Nat) (n : Int) (tag : Nat) (w : World) (hg : ErrT w) (hn : n < 1) :
    Calls Tryd.prog 12 #[plv s, .int .i64 n, .int .u64 (tag : Int)] w fun e w' => e = .returned (.tuple #[.int .i64 0, .int .i64 5]) ∧ Below w.heap.size w w' := by
  obtain ⟨V, hV⟩ : ∃ V, V = w.alloc (.cells #[.pointer (some ⟨s, 0, none⟩)] 26) := ⟨_, rfl⟩
  have bV : Below w.heap.size w V := by rw [hV]; exact Below.alloc (Below.refl _ _) (Nat.le_refl _) _
  have eV : V.heap[w.heap.size]? = some (.cells #[.pointer (some ⟨s, 0, none⟩)] 26 (0, 0)) := by rw [hV]; exact heap_alloc_new _ _
  have c0 : V.cell? ⟨w.heap.size, 0, none⟩ = some (.pointer (some ⟨s, 0, none⟩)) := by simp [World.cell?, eV]
  have HT := hid_mk (take_low s n tag V hn)
  have HN8 := hid_mk (number_errno 5 V (hg.below bV hg.size))
  have HB := hid_mk bV
  clear bV eV hg
  unfold plv
  go_enter Tryd.func12, Tryd.ntmps12
  go_wp2_with fail
  rw [← hV]
  clear hV
  go_wp2_with (first | (go_at_call 39; refine HT.out.mono ?_; clear HT; rintro e w2 ⟨rfl, hw2⟩; rw [hw2]; clear hw2) | (go_at_call 40; refine HN8.out.mono ?_; clear HN8; rintro e w3 ⟨rfl, hb⟩; have HB3 := hid_mk hb; clear hb))
  go_ret2
  exact ⟨rfl, HB.out.trans (HB3.out.mono HB.out.size)⟩
/-- What Find tells. -/
def FindP (w : World) (l : List Pc) (at' : Int) (er : Int → Value) (e : Ending) (w' : World) : Prop :=
  Below w.heap.size w w' ∧ ((∃ (q : Pc) (A N C G : Int), Hid (q ∈ l ∧ (q.at' : Int) = at' ∧ q.st ≠ 2 ∧ A = (q.at' : Int) ∧ N = (q.n : Int) ∧ C = (q.count : Int) ∧ G = (q.tag : Int)) ∧ e = .returned (.tuple #[.agg #[.int .i64 A, .int .i64 N, .int .i64 C, .int .u64 G], er 0])) ∨
    (Hid (∀ q ∈ l, (q.at' : Int) = at' → q.st = 2) ∧ e = .returned (.tuple #[.agg #[.int .i64 0, .int .i64 0, .int .i64 0, .int .u64 0], er 3])))
def erI (c : Int) : Value := if c = 0 then .nilIface else .iface 27 (.int .i64 c)
def erN (c : Int) : Value := .int .i64 c
set_option maxRecDepth 100000 in
set_option maxHeartbeats 4000000 in
theorem find_sp (s rows : Nat) (l : List Pc) (at' : Int) (w : World) (hs : SpAt w s rows l) (hok : SpOk rows l) : Calls Tryd.prog 53 #[.pointer (some ⟨s, 0, none⟩), .int .i64 at'] w (FindP w l at' erI) := by
  obtain ⟨V, hV⟩ : ∃ V, V = w.alloc (.cells #[.int .i64 0, .int .i64 0, .int .i64 0, .int .u64 0] 48) := ⟨_, rfl⟩
  have bV : Below w.heap.size w V := by rw [hV]; exact Below.alloc (Below.refl _ _) (Nat.le_refl _) _
  have eV : V.heap[w.heap.size]? = some (.cells #[.int .i64 0, .int .i64 0, .int .i64 0, .int .u64 0] 48 (0, 0)) := by rw [hV]; exact heap_alloc_new _ _
  have hwV : w.heap.size < V.heap.size := (Array.getElem?_eq_some_iff.1 eV).1
  have HRP := hid_mk (run_p s rows l at' V (hs.below bV) hok)
  have HB := hid_mk bV
  have HC : Hid (∀ W, Below V.heap.size V W → W.heap[w.heap.size]? = some (.cells #[.int .i64 0, .int .i64 0, .int .i64 0, .int .u64 0] 48 (0, 0))) := fun W hW => (hW.block _ hwV).trans eV
  clear bV eV hs hok
  go_enter Tryd.func53, Tryd.ntmps53
  go_upto_region 1 with fail
  rw [← hV]
  clear hV
  go_upto_region 2 with (first | (go_at_call 59; refine HRP.out.mono ?_; clear HRP; rintro e w2 ⟨hb2, (⟨q, A, N, C, G, Z, HQ, q1, q2, q3, q4, q5, q6, rfl⟩ | ⟨HQ, rfl⟩)⟩ <;> (have HB2 := hid_mk hb2; clear hb2)))
  · clear q1 q2 q3 q4 q5 q6
    obtain ⟨X, hX⟩ : ∃ X, X = w2.alloc (.cells #[.int .i64 A, .int .i64 N, .int .i64 C, .int .u64 G, .int .u8 Z] 103) := ⟨_, rfl⟩
    have bX : Below V.heap.size V X := by rw [hX]; exact HB2.out.alloc HB2.out.size _
    have eX : X.heap[w2.heap.size]? = some (.cells #[.int .i64 A, .int .i64 N, .int .i64 C, .int .u64 G, .int .u8 Z] 103 (0, 0)) := by rw [hX]; exact heap_alloc_new _ _
    have d0 : X.cell? ⟨w2.heap.size, 0, none⟩ = some (.int .i64 A) := by simp [World.cell?, eX]
    have d1 : X.cell? ⟨w2.heap.size, 1, none⟩ = some (.int .i64 N) := by simp [World.cell?, eX]
    have d2 : X.cell? ⟨w2.heap.size, 2, none⟩ = some (.int .i64 C) := by simp [World.cell?, eX]
    have d3 : X.cell? ⟨w2.heap.size, 3, none⟩ = some (.int .u64 G) := by simp [World.cell?, eX]
    have HZ := hid_mk (HC.out X bX)
    have f0 : X.cell? ⟨w.heap.size, 0, none⟩ = some (.int .i64 0) := by simp [World.cell?, HZ.out]
    have f1 : X.cell? ⟨w.heap.size, 1, none⟩ = some (.int .i64 0) := by simp [World.cell?, HZ.out]
    have f2 : X.cell? ⟨w.heap.size, 2, none⟩ = some (.int .i64 0) := by simp [World.cell?, HZ.out]
    have f3 : X.cell? ⟨w.heap.size, 3, none⟩ = some (.int .u64 0) := by simp [World.cell?, HZ.out]
    have ff := unfrozen HZ.out
    have HBX : Hid (Below w.heap.size w X) := HB.out.trans (bX.mono HB.out.size)
    rw [← hX]
    clear hX bX eX
    go_wp2_with fail
    refine bodyPost_ret (res_cell1 rfl _ _ w.heap.size _ rfl (load_run _ _ _ _ _ _ (put4 HZ.out))) rfl ⟨?_, .inl ⟨q, A, N, C, G, ?_, rfl⟩⟩
    · exact (((HBX.out.setCell (p := ⟨w.heap.size, 0, none⟩) (Nat.le_refl _) _).setCell (p := ⟨w.heap.size, 1, none⟩) (Nat.le_refl _) _).setCell (p := ⟨w.heap.size, 2, none⟩) (Nat.le_refl _) _).setCell (p := ⟨w.heap.size, 3, none⟩) (Nat.le_refl _) _
    · obtain ⟨h1, h2, h3, h4, h5, h6, h7, _⟩ := HQ.out
      exact ⟨h1, h2, h3, h4, h5, h6, h7⟩
  · obtain ⟨X, hX⟩ : ∃ X, X = w2.alloc (.cells #[.int .i64 0, .int .i64 0, .int .i64 0, .int .u64 0, .int .u8 0] 103) := ⟨_, rfl⟩
    have bX : Below V.heap.size V X := by rw [hX]; exact HB2.out.alloc HB2.out.size _
    have eX : X.heap[w2.heap.size]? = some (.cells #[.int .i64 0, .int .i64 0, .int .i64 0, .int .u64 0, .int .u8 0] 103 (0, 0)) := by rw [hX]; exact heap_alloc_new _ _
    have d0 : X.cell? ⟨w2.heap.size, 0, none⟩ = some (.int .i64 0) := by simp [World.cell?, eX]
    have d1 : X.cell? ⟨w2.heap.size, 1, none⟩ = some (.int .i64 0) := by simp [World.cell?, eX]
    have d2 : X.cell? ⟨w2.heap.size, 2, none⟩ = some (.int .i64 0) := by simp [World.cell?, eX]
    have d3 : X.cell? ⟨w2.heap.size, 3, none⟩ = some (.int .u64 0) := by simp [World.cell?, eX]
    have HZ := hid_mk (HC.out X bX)
    have f0 : X.cell? ⟨w.heap.size, 0, none⟩ = some (.int .i64 0) := by simp [World.cell?, HZ.out]
    have f1 : X.cell? ⟨w.heap.size, 1, none⟩ = some (.int .i64 0) := by simp [World.cell?, HZ.out]
    have f2 : X.cell? ⟨w.heap.size, 2, none⟩ = some (.int .i64 0) := by simp [World.cell?, HZ.out]
    have f3 : X.cell? ⟨w.heap.size, 3, none⟩ = some (.int .u64 0) := by simp [World.cell?, HZ.out]
    have ff := unfrozen HZ.out
    have HBX : Hid (Below w.heap.size w X) := HB.out.trans (bX.mono HB.out.size)
    rw [← hX]
    clear hX bX eX
    go_wp2_with fail
    refine bodyPost_ret (res_cell1 rfl _ _ w.heap.size _ rfl (load_run _ _ _ _ _ _ (put4 HZ.out))) rfl ⟨?_, .inr ⟨HQ, rfl⟩⟩
    exact (((HBX.out.setCell (p := ⟨w.heap.size, 0, none⟩) (Nat.le_refl _) _).setCell (p := ⟨w.heap.size, 1, none⟩) (Nat.le_refl _) _).setCell (p := ⟨w.heap.size, 2, none⟩) (Nat.le_refl _) _).setCell (p := ⟨w.heap.size, 3, none⟩) (Nat.le_refl _) _
/-- What Grow tells. -/
def GrowP (w : World) (s rows : Nat) (l : List Pc) (more : Int) (er : Int → Value) (e : Ending) (w' : World) : Prop :=
  Only s w w' ∧ (((more < 0 ∨ 1073741824 - (rows : Int) < more) ∧ e = .returned (er 5) ∧ SpAt w' s rows l) ∨ ∃ n : Nat, more = (n : Int) ∧ rows + n ≤ 1073741824 ∧ e = .returned (er 0) ∧ SpAt w' s (rows + n) l)
set_option maxRecDepth 100000 in
theorem grow_sp (s rows : Nat) (l : List Pc) (more : Int) (w : World) (hs : SpAt w s rows l) (hr : rows ≤ 1073741824) : Calls Tryd.prog 48 #[.pointer (some ⟨s, 0, none⟩), .int .i64 more] w (GrowP w s rows l more erI) := by
  have HS := hid_mk hs
  obtain ⟨p, h1, h2⟩ := hs
  obtain ⟨c0, _, _, _⟩ := sp_cells h1
  have x1 : IntKind.i64.wrap (1073741824 - (rows : Int)) = 1073741824 - (rows : Int) := by rw [IntKind.wrap_i64]; omega
  have hf := unfrozen h1 0
  have H1 := hid_mk h1
  have H2 := hid_mk h2
  clear h1 h2
  by_cases h0 : more < 0
  · go_enter Tryd.func48, Tryd.ntmps48
    go_wp2_with fail
    go_ret
    exact ⟨Only.refl _ _, .inl ⟨.inl h0, rfl, HS.out⟩⟩
  · obtain ⟨n, rfl⟩ : ∃ n : Nat, more = (n : Int) := ⟨more.toNat, by omega⟩
    have h0' : ¬ (n : Int) < 0 := h0
    by_cases h1 : 1073741824 - (rows : Int) < (n : Int)
    · go_enter Tryd.func48, Tryd.ntmps48
      go_wp2_with fail
      go_ret
      exact ⟨Only.refl _ _, .inl ⟨.inr h1, rfl, HS.out⟩⟩
    · have x2 : IntKind.i64.wrap ((rows : Int) + (n : Int)) = (rows : Int) + (n : Int) := by rw [IntKind.wrap_i64]; omega
      have HL : Hid (rows + n ≤ 1073741824) := by show _ ≤ _; omega
      go_enter Tryd.func48, Tryd.ntmps48
      go_wp2_with fail
      go_ret
      refine ⟨(Only.refl s w).setCell 0 _, .inr ⟨n, rfl, HL.out, rfl, p, ?_, KT.keepc H2.out H1.out⟩⟩
      rw [heap_put H1.out]
      simp [spv]
set_option maxRecDepth 100000 in
theorem copy_sp (s rows : Nat) (l : List Pc) (w : World) (hs : SpAt w s rows l) : Calls Tryd.prog 49 #[.pointer (some ⟨s, 0, none⟩)] w fun e w' => e = .returned (.pointer (some ⟨w.heap.size, 0, none⟩)) ∧ SpAt w' w.heap.size rows l ∧ Below w.heap.size w w' := by
  obtain ⟨p, h1, h2⟩ := hs
  obtain ⟨c0, c1, c2, c3⟩ := sp_cells h1
  have H2 := hid_mk h2
  clear h1 h2
  go_enter Tryd.func49, Tryd.ntmps49
  go_wp2_with fail
  go_ret
  have hb : Below w.heap.size w (w.alloc (.cells (spv rows (rowsL isUsed l) (rowsL isHeld l) p) 87)) := Below.alloc (Below.refl _ _) (Nat.le_refl _) _
  exact ⟨rfl, ⟨p, heap_alloc_new _ _, H2.out.below hb⟩, hb⟩
theorem erI_zero : erI 0 = .nilIface := rfl
theorem erI_pos (c : Int) (h : c ≠ 0) : erI c = .iface 27 (.int .i64 c) := if_neg h
set_option maxRecDepth 100000 in
theorem pgrow_any (s rows : Nat) (l : List Pc) (more : Int) (w : World) (hg : ErrT w) (hgs : 0 < s) (hs : SpAt w s rows l) (hr : rows ≤ 1073741824) : Calls Tryd.prog 28 #[plv s, .int .i64 more] w (GrowP w s rows l more erN) := by
  obtain ⟨V, hV⟩ : ∃ V, V = w.alloc (.cells #[.pointer (some ⟨s, 0, none⟩)] 26) := ⟨_, rfl⟩
  have bV : Below w.heap.size w V := by rw [hV]; exact Below.alloc (Below.refl _ _) (Nat.le_refl _) _
  have eV : V.heap[w.heap.size]? = some (.cells #[.pointer (some ⟨s, 0, none⟩)] 26 (0, 0)) := by rw [hV]; exact heap_alloc_new _ _
  have c0 : V.cell? ⟨w.heap.size, 0, none⟩ = some (.pointer (some ⟨s, 0, none⟩)) := by simp [World.cell?, eV]
  have HT := hid_mk (grow_sp s rows l more V (hs.below bV) hr)
  have HN0 : Hid (∀ W, Calls Tryd.prog 40 #[.nilIface] W fun e w' => e = .returned (.int .i64 0) ∧ Below W.heap.size W w') := fun W => number_nil W
  have HN5 : Hid (∀ W, Only s V W → Calls Tryd.prog 40 #[.iface 27 (.int .i64 5)] W fun e w' => e = .returned (.int .i64 5) ∧ Below W.heap.size W w') := fun W hW => number_errno 5 W ((hg.below bV hg.size).only hW hgs)
  have HB := hid_mk bV
  clear hs bV eV hg
  unfold plv
  go_enter Tryd.func28, Tryd.ntmps28
  go_wp2_with fail
  rw [← hV]
  clear hV
  go_wp2_with (first | (go_at_call 48; refine HT.out.mono ?_; clear HT; rintro e w2 ⟨ho, (⟨h1, rfl, h2⟩ | ⟨n, h1, h3, rfl, h2⟩)⟩ <;> (have HO := hid_mk ho; have H1 := hid_mk h1; have H2 := hid_mk h2; (try have H3 := hid_mk h3); clear ho h1 h2; (try clear h3); (try rw [erI_zero]); (try rw [erI_pos 5 (by decide)]))) | (go_at_call_of 40 (Value.nilIface); refine (HN0.out _).mono ?_; rintro e w3 ⟨rfl, hb⟩; have HB3 := hid_mk hb; clear hb) | (go_at_call 40; refine (HN5.out _ HO.out).mono ?_; rintro e w3 ⟨rfl, hb⟩; have HB3 := hid_mk hb; clear hb))
  · go_ret
    exact ⟨((Only.of_below HB.out).trans HO.out).trans (Only.of_below HB3.out), .inl ⟨H1.out, rfl, H2.out.below HB3.out⟩⟩
  · go_ret
    exact ⟨((Only.of_below HB.out).trans HO.out).trans (Only.of_below HB3.out), .inr ⟨n, H1.out, H3.out, rfl, H2.out.below HB3.out⟩⟩
set_option maxRecDepth 100000 in
theorem pcopy_any (s rows : Nat) (l : List Pc) (w : World) (hs : SpAt w s rows l) : Calls Tryd.prog 30 #[plv s] w fun e w' => ∃ s', e = .returned (.agg #[.pointer (some ⟨s', 0, none⟩)]) ∧ w.heap.size ≤ s' ∧ SpAt w' s' rows l ∧ Below w.heap.size w w' := by
  obtain ⟨V, hV⟩ : ∃ V, V = (w.alloc (.cells #[.pointer (some ⟨s, 0, none⟩)] 26)).alloc (.cells #[.pointer none] 26) := ⟨_, rfl⟩
  have bV : Below w.heap.size w V := by rw [hV]; exact Below.alloc (Below.alloc (Below.refl _ _) (Nat.le_refl _) _) (by simp) _
  have eV : V.heap[w.heap.size]? = some (.cells #[.pointer (some ⟨s, 0, none⟩)] 26 (0, 0)) := by rw [hV, Below.heap_alloc _ _ _ (by simp)]; exact heap_alloc_new _ _
  have eR : V.heap[w.heap.size + 1]? = some (.cells #[.pointer none] 26 (0, 0)) := by
    have h := heap_alloc_new (w.alloc (.cells #[.pointer (some ⟨s, 0, none⟩)] 26)) (.cells #[.pointer none] 26)
    rw [← hV] at h
    simpa using h
  have hs2 : V.heap.size = w.heap.size + 2 := by rw [hV]; simp
  have c0 : V.cell? ⟨w.heap.size, 0, none⟩ = some (.pointer (some ⟨s, 0, none⟩)) := by simp [World.cell?, eV]
  have HT := hid_mk (copy_sp s rows l V (hs.below bV))
  rw [hs2] at HT
  have HB := hid_mk bV
  have HR := hid_mk eR
  have HS2 := hid_mk hs2
  clear hs bV eV eR hs2
  unfold plv
  go_enter Tryd.func30, Tryd.ntmps30
  go_wp2_with fail
  rw [← hV]
  clear hV
  go_wp2_with (first | (go_at_call 49; refine HT.out.mono ?_; clear HT; rintro e w2 ⟨rfl, h2, h3⟩; have H2 := hid_mk h2; have H3 : Hid (Below V.heap.size V w2) := (by show Below _ _ _; rw [HS2.out]; exact h3); have HR2 : Hid (w2.heap[w.heap.size + 1]? = some (.cells #[.pointer none] 26 (0, 0))) := (H3.out.block _ (by rw [HS2.out]; omega)).trans HR.out; have f0 : w2.cell? ⟨w.heap.size + 1, 0, none⟩ = some (.pointer none) := (by simp [World.cell?, HR2.out]); have ff := unfrozen HR2.out 0; clear h2 h3))
  refine bodyPost_ret (v := .agg #[.pointer (some ⟨w.heap.size + 2, 0, none⟩)]) (results_cell_row rfl _ _ (w.heap.size + 1) 26 _ (0, 0) _ rfl (setc_heap HR2.out) rfl rfl rfl) rfl ⟨w.heap.size + 2, rfl, by omega, ?_, ?_⟩
  · obtain ⟨p, h1, h2⟩ := H2.out
    exact ⟨p, (Below.heap_setCell _ _ _ _ (by show w.heap.size + 2 ≠ w.heap.size + 1; omega)).trans h1, KT.keepc h2 HR2.out⟩
  · exact (HB.out.trans (H3.out.mono HB.out.size)).setCell (p := ⟨w.heap.size + 1, 0, none⟩) (by show _ ≤ _ + 1; omega) _
set_option maxRecDepth 100000 in
theorem pis_any (s : Nat) (w : World) : Calls Tryd.prog 32 #[plv s] w fun e w' => e = .returned (.bool true) ∧ Below w.heap.size w w' := by
  have HB : Hid (Below w.heap.size w (w.alloc (.cells #[.pointer (some ⟨s, 0, none⟩)] 26))) := Below.alloc (Below.refl _ _) (Nat.le_refl _) _
  unfold plv
  go_enter Tryd.func32, Tryd.ntmps32
  go_wp2_with fail
  go_ret
  exact ⟨rfl, HB.out⟩
set_option maxRecDepth 100000 in
theorem new_bad (n : Int) (w : World) (hn : n < 0 ∨ 1073741824 < n) : Calls Tryd.prog 20 #[.int .i64 n] w fun e w' => e = .returned (.tuple #[.pointer none, .iface 27 (.int .i64 5)]) ∧ w' = w := by
  by_cases h : n < 0
  · clear hn
    go_enter Tryd.func20, Tryd.ntmps20
    go_wp2
    go_ret2
    exact ⟨rfl, rfl⟩
  · have h1 : 1073741824 < n := by omega
    clear hn
    go_enter Tryd.func20, Tryd.ntmps20
    go_wp2
    go_ret2
    exact ⟨rfl, rfl⟩
set_option maxRecDepth 100000 in
theorem pnew_bad (n : Int) (w : World) (hg : ErrT w) (hn : n < 0 ∨ 1073741824 < n) : Calls Tryd.prog 6 #[.int .i64 n] w fun e w' => e = .returned (.tuple #[.agg #[.pointer none], .int .i64 5]) ∧ Below w.heap.size w w' := by
  obtain ⟨V, hV⟩ : ∃ V, V = w.alloc (.cells #[.pointer none] 26) := ⟨_, rfl⟩
  have bV : Below w.heap.size w V := by rw [hV]; exact Below.alloc (Below.refl _ _) (Nat.le_refl _) _
  have eV : V.heap[w.heap.size]? = some (.cells #[.pointer none] 26 (0, 0)) := by rw [hV]; exact heap_alloc_new _ _
  have H1 := hid_mk (new_bad n V hn)
  have H2 := hid_mk (made_errno 5 V (hg.below bV hg.size))
  have hwV : w.heap.size < V.heap.size := (Array.getElem?_eq_some_iff.1 eV).1
  have HF : Hid (∀ W, Below V.heap.size V W → W.heap[w.heap.size]? = some (.cells #[.pointer none] 26 (0, 0)) ∧ Below w.heap.size w W) := fun W hW => ⟨(hW.block _ hwV).trans eV, bV.trans (hW.mono bV.size)⟩
  clear bV eV hg hwV hn
  go_enter Tryd.func6, Tryd.ntmps6
  go_wp2_with fail
  rw [← hV]
  clear hV
  go_wp2_with (first | (go_at_call 20; refine H1.out.mono ?_; clear H1; rintro e w2 ⟨rfl, hw2⟩; rw [hw2]; clear hw2) | (go_at_call 21; refine H2.out.mono ?_; clear H2; rintro e w3 ⟨rfl, hb⟩; have HB := hid_mk (HF.out _ hb); have f0 : w3.cell? ⟨w.heap.size, 0, none⟩ = some (.pointer none) := (by simp [World.cell?, HB.out.1]); have ff := unfrozen HB.out.1 0; clear hb))
  obtain ⟨h1, h3⟩ := HB.out
  exact bodyPost_ret (res_cell1 rfl _ _ w.heap.size _ rfl (load_pl _ _ _ (setc_heap h1))) rfl ⟨rfl, h3.setCell (p := ⟨w.heap.size, 0, none⟩) (Nat.le_refl _) _⟩
end Go.Proofs.YtcpdnalmoaojlaaDoor
