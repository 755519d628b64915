import Derived.Test.YtcpdnalmoaojlaaDoorHQ10

/-
  plain's Find.
-/
namespace Go.Proofs.YtcpdnalmoaojlaaDoor
open Go.RowKit Go.Shelf
set_option linter.unusedVariables false
set_option linter.unusedSimpArgs false

/-- Four cells of one block are written: another block's are as they were. -/
theorem four_other {w : World} {g r o : Nat} {x0 x1 x2 x3 : Value} {u : Value} (hg : r ≠ g) (h : w.cell? ⟨r, o, none⟩ = some u) : ((((w.setCell ⟨g, 0, none⟩ x0).setCell ⟨g, 1, none⟩ x1).setCell ⟨g, 2, none⟩ x2).setCell ⟨g, 3, none⟩ x3).cell? ⟨r, o, none⟩ = some u := by
  have key : ∀ (W : World) (p : Nat) (x : Value), (W.setCell ⟨g, p, none⟩ x).cell? ⟨r, o, none⟩ = W.cell? ⟨r, o, none⟩ := fun W p x => World.cell?_of_block (w := W) (Below.heap_setCell _ _ _ _ hg)
  rw [key, key, key, key]
  exact h
set_option maxRecDepth 100000 in
set_option maxHeartbeats 4000000 in
theorem pfind_any (s rows : Nat) (l : List Pc) (at' : Int) (w : World) (hg : ErrT w) (hs : SpAt w s rows l) (hok : SpOk rows l) : Calls Tryd.prog 35 #[plv s, .int .i64 at'] w (FindP w l at' erN) := by
  obtain ⟨V, hV⟩ : ∃ V, V = (w.alloc (.cells #[.pointer (some ⟨s, 0, none⟩)] 26)).alloc (.cells #[.int .i64 0, .int .i64 0, .int .i64 0, .int .u64 0] 48) := ⟨_, rfl⟩
  have bV : Below w.heap.size w V := by rw [hV]; exact Below.alloc (Below.alloc (Below.refl _ _) (Nat.le_refl _) _) (by simp) _
  have eV : V.heap[w.heap.size]? = some (.cells #[.pointer (some ⟨s, 0, none⟩)] 26 (0, 0)) := by rw [hV, Below.heap_alloc _ _ _ (by simp)]; exact heap_alloc_new _ _
  have eR : V.heap[w.heap.size + 1]? = some (.cells #[.int .i64 0, .int .i64 0, .int .i64 0, .int .u64 0] 48 (0, 0)) := by
    have h := heap_alloc_new (w.alloc (.cells #[.pointer (some ⟨s, 0, none⟩)] 26)) (.cells #[.int .i64 0, .int .i64 0, .int .i64 0, .int .u64 0] 48)
    rw [← hV] at h
    simpa using h
  have hs2 : V.heap.size = w.heap.size + 2 := by rw [hV]; simp
  have c0 : V.cell? ⟨w.heap.size, 0, none⟩ = some (.pointer (some ⟨s, 0, none⟩)) := by simp [World.cell?, eV]
  have HT := hid_mk (find_sp s rows l at' V (hs.below bV) hok)
  have HE : Hid (∀ W, Below V.heap.size V W → ErrT W) := fun W hW => (hg.below bV hg.size).below hW (Nat.lt_of_lt_of_le hg.size bV.size)
  have HB := hid_mk bV
  have HR := hid_mk eR
  have HS2 := hid_mk hs2
  clear hs bV eV eR hs2 hg hok
  unfold plv
  go_enter Tryd.func35, Tryd.ntmps35
  go_upto_region 1 with fail
  rw [← hV]
  clear hV
  go_upto_region 2 with (first | (go_at_call 53; refine HT.out.mono ?_; clear HT; rintro e w2 ⟨hb2, (⟨q, A, N, C, G, HQ, rfl⟩ | ⟨HQ, rfl⟩)⟩ <;> (have HB2 := hid_mk hb2; clear hb2)))
  · rw [erI_zero]
    obtain ⟨X, hX⟩ : ∃ X, X = w2.alloc (.cells #[.int .i64 A, .int .i64 N, .int .i64 C, .int .u64 G] 48) := ⟨_, rfl⟩
    obtain ⟨B2, hB2⟩ : ∃ B2, B2 = w2.heap.size := ⟨_, rfl⟩
    have bX : Below V.heap.size V X := by rw [hX]; exact HB2.out.alloc HB2.out.size _
    have eX : X.heap[B2]? = some (.cells #[.int .i64 A, .int .i64 N, .int .i64 C, .int .u64 G] 48 (0, 0)) := by rw [hX, hB2]; exact heap_alloc_new _ _
    have hne : B2 ≠ w.heap.size + 1 := by have h1 := HB2.out.size; have h2 := HS2.out; omega
    have HCX : Hid (∀ W, Below X.heap.size X W → W.cell? ⟨B2, 0, none⟩ = some (.int .i64 A) ∧ W.cell? ⟨B2, 1, none⟩ = some (.int .i64 N) ∧ W.cell? ⟨B2, 2, none⟩ = some (.int .i64 C) ∧ W.cell? ⟨B2, 3, none⟩ = some (.int .u64 G)) := fun W hW => by
      have h := (hW.block _ (Array.getElem?_eq_some_iff.1 eX).1).trans eX
      simp [World.cell?, h]
    obtain ⟨d0, d1, d2, d3⟩ := HCX.out X (Below.refl _ _)
    have HNB : Hid (∀ W, Below X.heap.size X W → Calls Tryd.prog 40 #[.nilIface] W fun e w' => e = .returned (.int .i64 0) ∧ Below W.heap.size W w') := fun W hW => number_nil W
    have HBX := hid_mk bX
    rw [← hX, ← hB2]
    clear hX hB2 bX eX
    go_region_held3 (fun w' => w'.cell? ⟨B2, 0, none⟩ = some (.int .i64 A) ∧ w'.cell? ⟨B2, 1, none⟩ = some (.int .i64 N) ∧ w'.cell? ⟨B2, 2, none⟩ = some (.int .i64 C) ∧ w'.cell? ⟨B2, 3, none⟩ = some (.int .u64 G)) (first | exact ⟨d0, d1, d2, d3⟩ | exact ⟨z0, z1, z2, z3⟩ | exact ⟨four_other hne z0, four_other hne z1, four_other hne z2, four_other hne z3⟩) (first
      | (go_at_call 40; refine (HNB.out _ (Below.drew (Below.refl _ _))).mono ?_; clear HNB; rintro e w3 ⟨rfl, hb3⟩; have HB3 : Hid (Below X.heap.size X w3) := (Below.drew (Below.refl _ _)).trans hb3; obtain ⟨z0, z1, z2, z3⟩ := HCX.out w3 HB3.out; have HZ : Hid (w3.heap[w.heap.size + 1]? = some (.cells #[.int .i64 0, .int .i64 0, .int .i64 0, .int .u64 0] 48 (0, 0))) := ((HBX.out.trans (HB3.out.mono HBX.out.size)).block _ (by rw [HS2.out]; omega)).trans HR.out; have f0 : w3.cell? ⟨w.heap.size + 1, 0, none⟩ = some (.int .i64 0) := (by simp [World.cell?, HZ.out]); have f1 : w3.cell? ⟨w.heap.size + 1, 1, none⟩ = some (.int .i64 0) := (by simp [World.cell?, HZ.out]); have f2 : w3.cell? ⟨w.heap.size + 1, 2, none⟩ = some (.int .i64 0) := (by simp [World.cell?, HZ.out]); have f3 : w3.cell? ⟨w.heap.size + 1, 3, none⟩ = some (.int .u64 0) := (by simp [World.cell?, HZ.out]); have ff := unfrozen HZ.out; clear hb3))
    go_wp2_with fail
    refine bodyPost_ret (res_cell1 rfl _ _ (w.heap.size + 1) _ rfl (load_run _ _ _ _ _ _ (put4 HZ.out))) rfl ⟨?_, .inl ⟨q, A, N, C, G, HQ, rfl⟩⟩
    have hall : Below w.heap.size w w3 := HB.out.trans ((HBX.out.trans (HB3.out.mono HBX.out.size)).mono HB.out.size)
    exact (((hall.setCell (p := ⟨w.heap.size + 1, 0, none⟩) (by show _ ≤ _ + 1; omega) _).setCell (p := ⟨w.heap.size + 1, 1, none⟩) (by show _ ≤ _ + 1; omega) _).setCell (p := ⟨w.heap.size + 1, 2, none⟩) (by show _ ≤ _ + 1; omega) _).setCell (p := ⟨w.heap.size + 1, 3, none⟩) (by show _ ≤ _ + 1; omega) _
  · rw [erI_pos 3 (by decide)]
    obtain ⟨X, hX⟩ : ∃ X, X = w2.alloc (.cells #[.int .i64 0, .int .i64 0, .int .i64 0, .int .u64 0] 48) := ⟨_, rfl⟩
    obtain ⟨B2, hB2⟩ : ∃ B2, B2 = w2.heap.size := ⟨_, rfl⟩
    have bX : Below V.heap.size V X := by rw [hX]; exact HB2.out.alloc HB2.out.size _
    have eX : X.heap[B2]? = some (.cells #[.int .i64 0, .int .i64 0, .int .i64 0, .int .u64 0] 48 (0, 0)) := by rw [hX, hB2]; exact heap_alloc_new _ _
    have hne : B2 ≠ w.heap.size + 1 := by have h1 := HB2.out.size; have h2 := HS2.out; omega
    have HCX : Hid (∀ W, Below X.heap.size X W → W.cell? ⟨B2, 0, none⟩ = some (.int .i64 0) ∧ W.cell? ⟨B2, 1, none⟩ = some (.int .i64 0) ∧ W.cell? ⟨B2, 2, none⟩ = some (.int .i64 0) ∧ W.cell? ⟨B2, 3, none⟩ = some (.int .u64 0)) := fun W hW => by
      have h := (hW.block _ (Array.getElem?_eq_some_iff.1 eX).1).trans eX
      simp [World.cell?, h]
    obtain ⟨d0, d1, d2, d3⟩ := HCX.out X (Below.refl _ _)
    have HBX := hid_mk bX
    have HNB : Hid (∀ W, Below X.heap.size X W → Calls Tryd.prog 40 #[.iface 27 (.int .i64 3)] W fun e w' => e = .returned (.int .i64 3) ∧ Below W.heap.size W w') := fun W hW => number_errno 3 W (HE.out W (HBX.out.trans (hW.mono HBX.out.size)))
    rw [← hX, ← hB2]
    clear hX hB2 bX eX
    go_region_held3 (fun w' => w'.cell? ⟨B2, 0, none⟩ = some (.int .i64 0) ∧ w'.cell? ⟨B2, 1, none⟩ = some (.int .i64 0) ∧ w'.cell? ⟨B2, 2, none⟩ = some (.int .i64 0) ∧ w'.cell? ⟨B2, 3, none⟩ = some (.int .u64 0)) (first | exact ⟨d0, d1, d2, d3⟩ | exact ⟨z0, z1, z2, z3⟩ | exact ⟨four_other hne z0, four_other hne z1, four_other hne z2, four_other hne z3⟩) (first
      | (go_at_call 40; refine (HNB.out _ (Below.drew (Below.refl _ _))).mono ?_; clear HNB; rintro e w3 ⟨rfl, hb3⟩; have HB3 : Hid (Below X.heap.size X w3) := (Below.drew (Below.refl _ _)).trans hb3; obtain ⟨z0, z1, z2, z3⟩ := HCX.out w3 HB3.out; have HZ : Hid (w3.heap[w.heap.size + 1]? = some (.cells #[.int .i64 0, .int .i64 0, .int .i64 0, .int .u64 0] 48 (0, 0))) := ((HBX.out.trans (HB3.out.mono HBX.out.size)).block _ (by rw [HS2.out]; omega)).trans HR.out; have f0 : w3.cell? ⟨w.heap.size + 1, 0, none⟩ = some (.int .i64 0) := (by simp [World.cell?, HZ.out]); have f1 : w3.cell? ⟨w.heap.size + 1, 1, none⟩ = some (.int .i64 0) := (by simp [World.cell?, HZ.out]); have f2 : w3.cell? ⟨w.heap.size + 1, 2, none⟩ = some (.int .i64 0) := (by simp [World.cell?, HZ.out]); have f3 : w3.cell? ⟨w.heap.size + 1, 3, none⟩ = some (.int .u64 0) := (by simp [World.cell?, HZ.out]); have ff := unfrozen HZ.out; clear hb3))
    go_wp2_with fail
    refine bodyPost_ret (res_cell1 rfl _ _ (w.heap.size + 1) _ rfl (load_run _ _ _ _ _ _ (put4 HZ.out))) rfl ⟨?_, .inr ⟨HQ, rfl⟩⟩
    have hall : Below w.heap.size w w3 := HB.out.trans ((HBX.out.trans (HB3.out.mono HBX.out.size)).mono HB.out.size)
    exact (((hall.setCell (p := ⟨w.heap.size + 1, 0, none⟩) (by show _ ≤ _ + 1; omega) _).setCell (p := ⟨w.heap.size + 1, 1, none⟩) (by show _ ≤ _ + 1; omega) _).setCell (p := ⟨w.heap.size + 1, 2, none⟩) (by show _ ≤ _ + 1; omega) _).setCell (p := ⟨w.heap.size + 1, 3, none⟩) (by show _ ≤ _ + 1; omega) _
end Go.Proofs.YtcpdnalmoaojlaaDoor
