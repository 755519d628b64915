import Derived.Test.YtcpdnalmoaojlaaDoorHSp23
import Derived.Test.YtcpdnalmoaojlaaDoorHSp22

/-
  plain's words on a space: Take, Bytes, Rows, Runs, SpaceLoad.
-/
namespace Go.Proofs.YtcpdnalmoaojlaaDoor
open Go.RowKit Go.Shelf
set_option linter.unusedVariables false
set_option linter.unusedSimpArgs false

theorem Owns.low {w : World} {base base' : Nat} {v : Value} {l : List UInt8} (h : Owns w base v l) (hb : base' ≤ base) : Owns w base' v l := by
  refine ⟨h.1, ?_⟩
  rcases h.2 with hn | ⟨g, c, cur, h3, h4, h5⟩
  · exact .inl hn
  · exact .inr ⟨g, c, cur, h3, by omega, h5⟩
theorem ErrT.only {s : Nat} {w w' : World} (h : ErrT w) (ho : Only s w w') (hs : 0 < s) : ErrT w' := (ho.cell (p := ⟨0, 0, none⟩) h.size (show 0 ≠ s by omega)).trans h
/-- What plain's Take tells. -/
def PTake (w : World) (s rows n tag : Nat) (l : List Pc) (e : Ending) (w' : World) : Prop :=
  Only s w w' ∧ ((gapL l n 0 rows < 0 ∧ e = .returned (.tuple #[.int .i64 0, .int .i64 8]) ∧ SpAt w' s rows l) ∨
    ∃ g : Nat, gapL l n 0 rows = (g : Int) ∧ e = .returned (.tuple #[.int .i64 (g : Int), .int .i64 0]) ∧ SpAt w' s rows (putL l ⟨g, n, 1, tag, 0⟩))
set_option maxRecDepth 100000 in
theorem ptake_any (s rows n tag : Nat) (l : List Pc) (w : World) (hg : ErrT w) (hgs : 0 < s) (hs : SpAt w s rows l) (hok : SpOk rows l) (hn : 1 ≤ n) (hn2 : n ≤ 9223372036854775807) (ht : tag < 18446744073709551616) :
    Calls Tryd.prog 12 #[plv s, .int .i64 (n : Int), .int .u64 (tag : Int)] w (PTake w s rows n tag l) := by
  obtain ⟨V, hV⟩ : ∃ V, V = w.alloc (.cells #[.pointer (some ⟨s, 0, none⟩)] 26) := ⟨_, rfl⟩
  have bV : Below w.heap.size w V := by rw [hV]; exact Below.alloc (Below.refl _ _) (Nat.le_refl _) _
  have eV : V.heap[w.heap.size]? = some (.cells #[.pointer (some ⟨s, 0, none⟩)] 26 (0, 0)) := by rw [hV]; exact heap_alloc_new _ _
  have c0 : V.cell? ⟨w.heap.size, 0, none⟩ = some (.pointer (some ⟨s, 0, none⟩)) := by simp [World.cell?, eV]
  have HT := hid_mk (take_any s rows n tag l V (hs.below bV) hok hn hn2 ht)
  have HE : Hid (∀ W, Only s V W → ErrT W) := fun W hW => (hg.below bV hg.size).only hW hgs
  have HN0 : Hid (∀ W, Calls Tryd.prog 40 #[.nilIface] W fun e w' => e = .returned (.int .i64 0) ∧ Below W.heap.size W w') := fun W => number_nil W
  have HN8 : Hid (∀ W, Only s V W → Calls Tryd.prog 40 #[.iface 27 (.int .i64 8)] W fun e w' => e = .returned (.int .i64 8) ∧ Below W.heap.size W w') := fun W hW => number_errno 8 W (HE.out W hW)
  have HB := hid_mk bV
  clear hs bV eV hg hok
  unfold plv
  go_enter Tryd.func12, Tryd.ntmps12
  go_wp2_with fail
  rw [← hV]
  clear hV
  go_wp2_with (first | (go_at_call 39; refine HT.out.mono ?_; clear HT; rintro e w2 ⟨ho, (⟨h1, rfl, h2⟩ | ⟨g, h1, rfl, h2⟩)⟩ <;> (have HO := hid_mk ho; have H1 := hid_mk h1; have H2 := hid_mk h2; clear ho h1 h2)) | (go_at_call 40; refine (HN0.out _).mono ?_; rintro e w3 ⟨rfl, hb⟩; have HB3 := hid_mk hb; clear hb) | (go_at_call 40; refine (HN8.out _ HO.out).mono ?_; rintro e w3 ⟨rfl, hb⟩; have HB3 := hid_mk hb; clear hb))
  · go_ret2
    exact ⟨((Only.of_below HB.out).trans HO.out).trans (Only.of_below HB3.out), .inl ⟨H1.out, rfl, H2.out.below HB3.out⟩⟩
  · go_ret2
    exact ⟨((Only.of_below HB.out).trans HO.out).trans (Only.of_below HB3.out), .inr ⟨g, H1.out, rfl, H2.out.below HB3.out⟩⟩
set_option maxRecDepth 100000 in
theorem pbytes_any (s rows : Nat) (l : List Pc) (w : World) (hs : SpAt w s rows l) (hok : SpOk rows l) :
    Calls Tryd.prog 17 #[plv s] w fun e w' => ∃ v, e = .returned v ∧ Owns w' w.heap.size v (spB rows (fil l)) ∧ Below w.heap.size w w' := by
  obtain ⟨V, hV⟩ : ∃ V, V = w.alloc (.cells #[.pointer (some ⟨s, 0, none⟩)] 26) := ⟨_, rfl⟩
  have bV : Below w.heap.size w V := by rw [hV]; exact Below.alloc (Below.refl _ _) (Nat.le_refl _) _
  have eV : V.heap[w.heap.size]? = some (.cells #[.pointer (some ⟨s, 0, none⟩)] 26 (0, 0)) := by rw [hV]; exact heap_alloc_new _ _
  have c0 : V.cell? ⟨w.heap.size, 0, none⟩ = some (.pointer (some ⟨s, 0, none⟩)) := by simp [World.cell?, eV]
  have HT := hid_mk (bytes_any s rows l V (hs.below bV) hok)
  have HB := hid_mk bV
  clear hs bV eV hok
  unfold plv
  go_enter Tryd.func17, Tryd.ntmps17
  go_wp2_with fail
  rw [← hV]
  clear hV
  go_wp2_with (first | (go_at_call 45; refine HT.out.mono ?_; clear HT; rintro e w2 ⟨v, rfl, h1, h2⟩; have H1 := hid_mk h1; have H2 := hid_mk h2; clear h1 h2))
  go_ret
  exact ⟨_, rfl, H1.out.low HB.out.size, HB.out.trans (H2.out.mono HB.out.size)⟩
set_option maxRecDepth 100000 in
theorem prows_any (s rows : Nat) (l : List Pc) (w : World) (hs : SpAt w s rows l) (hok : SpOk rows l) :
    Calls Tryd.prog 19 #[plv s] w fun e w' => e = .returned (.agg #[.int .i64 (rowsL isUsed l : Nat), .int .i64 (rowsL isHeld l : Nat), .int .i64 ((rows - rowsL isUsed l - rowsL isHeld l : Nat) : Int)]) ∧ Below w.heap.size w w' := by
  have hsum := rowsL_all hok.fits
  obtain ⟨V, hV⟩ : ∃ V, V = (w.alloc (.cells #[.pointer (some ⟨s, 0, none⟩)] 26)).alloc (.cells #[.int .i64 0, .int .i64 0, .int .i64 0] 57) := ⟨_, rfl⟩
  have bV : Below w.heap.size w V := by rw [hV]; exact Below.alloc (Below.alloc (Below.refl _ _) (Nat.le_refl _) _) (by simp) _
  have eV : V.heap[w.heap.size]? = some (.cells #[.pointer (some ⟨s, 0, none⟩)] 26 (0, 0)) := by rw [hV, Below.heap_alloc _ _ _ (by simp)]; exact heap_alloc_new _ _
  have eR : V.heap[w.heap.size + 1]? = some (.cells #[.int .i64 0, .int .i64 0, .int .i64 0] 57 (0, 0)) := by
    have h := heap_alloc_new (w.alloc (.cells #[.pointer (some ⟨s, 0, none⟩)] 26)) (.cells #[.int .i64 0, .int .i64 0, .int .i64 0] 57)
    rw [← hV] at h
    simpa using h
  have hlt := Nat.lt_of_lt_of_le hs.lt bV.size
  obtain ⟨p, h1, h2⟩ := hs.below bV
  obtain ⟨used, hused⟩ : ∃ used, used = rowsL isUsed l := ⟨_, rfl⟩
  obtain ⟨held, hheld⟩ : ∃ held, held = rowsL isHeld l := ⟨_, rfl⟩
  rw [← hused, ← hheld] at h1 hsum
  rw [← hused, ← hheld]
  have HT := hid_mk (rows_any rows used held s p V h1 hok.rows30 (by omega))
  have c0 : V.cell? ⟨w.heap.size, 0, none⟩ = some (.pointer (some ⟨s, 0, none⟩)) := by simp [World.cell?, eV]
  have HB := hid_mk bV
  have HR := hid_mk eR
  obtain ⟨fr, hfr⟩ : ∃ fr : Int, fr = ((rows - used - held : Nat) : Int) := ⟨_, rfl⟩
  rw [← hfr] at HT ⊢
  clear hs bV eV hok h1 h2 hused hheld hsum eR hfr
  have HS : Hid (V.heap.size = w.heap.size + 2) := by show _ = _; rw [hV]; simp
  unfold plv
  go_enter Tryd.func19, Tryd.ntmps19
  go_wp2_with fail
  rw [← hV]
  clear hV
  go_wp2_with (first | (go_at_call 46; refine HT.out.mono ?_; clear HT; rintro e w2 ⟨rfl, h2⟩; have H2 := hid_mk h2; have HR2 : Hid (w2.heap[w.heap.size + 1]? = some (.cells #[.int .i64 0, .int .i64 0, .int .i64 0] 57 (0, 0))) := (h2.block _ (by rw [HS.out]; omega)).trans HR.out; have f0 : w2.cell? ⟨w.heap.size + 1, 0, none⟩ = some (.int .i64 0) := (by simp [World.cell?, HR2.out]); have f1 : w2.cell? ⟨w.heap.size + 1, 1, none⟩ = some (.int .i64 0) := (by simp [World.cell?, HR2.out]); have f2 : w2.cell? ⟨w.heap.size + 1, 2, none⟩ = some (.int .i64 0) := (by simp [World.cell?, HR2.out]); have ff := unfrozen HR2.out; clear h2))
  have e2 : (((w2.setCell ⟨w.heap.size + 1, 0, none⟩ (.int .i64 (used : Int))).setCell ⟨w.heap.size + 1, 1, none⟩ (.int .i64 (held : Int))).setCell ⟨w.heap.size + 1, 2, none⟩ (.int .i64 fr)).heap[w.heap.size + 1]? = some (.cells #[.int .i64 (used : Int), .int .i64 (held : Int), .int .i64 fr] 57 (0, 0)) := by
    rw [heap_put (heap_put (heap_put HR2.out _) _) _]
    simp
  refine bodyPost_ret (v := .agg #[.int .i64 (used : Int), .int .i64 (held : Int), .int .i64 fr]) (results_cell_row rfl _ _ (w.heap.size + 1) 57 _ (0, 0) _ rfl e2 rfl rfl rfl) rfl ⟨rfl, ?_⟩
  exact (((HB.out.trans (H2.out.mono HB.out.size)).setCell (p := ⟨w.heap.size + 1, 0, none⟩) (by simp) _).setCell (p := ⟨w.heap.size + 1, 1, none⟩) (by simp) _).setCell (p := ⟨w.heap.size + 1, 2, none⟩) (by simp) _
set_option maxRecDepth 100000 in
theorem pruns_any (s rows : Nat) (l : List Pc) (w : World) (hs : SpAt w s rows l) (hok : SpOk rows l) :
    Calls Tryd.prog 11 #[plv s, .int .i64 0] w fun e w' => ∃ v, e = .returned (.tuple #[.slice none 0 0, v]) ∧ ROwns w' w.heap.size v (fil l) ∧ Below w.heap.size w w' := by
  obtain ⟨V, hV⟩ : ∃ V, V = w.alloc (.cells #[.pointer (some ⟨s, 0, none⟩)] 26) := ⟨_, rfl⟩
  have bV : Below w.heap.size w V := by rw [hV]; exact Below.alloc (Below.refl _ _) (Nat.le_refl _) _
  have eV : V.heap[w.heap.size]? = some (.cells #[.pointer (some ⟨s, 0, none⟩)] 26 (0, 0)) := by rw [hV]; exact heap_alloc_new _ _
  have c0 : V.cell? ⟨w.heap.size, 0, none⟩ = some (.pointer (some ⟨s, 0, none⟩)) := by simp [World.cell?, eV]
  have HT : Hid (Calls Tryd.prog 38 #[.pointer (some ⟨s, 0, none⟩)] V fun e w' => e = .returned (.func (.func 54) #[] #[.pointer (some ⟨V.heap.size, 0, none⟩)]) ∧ w' = V.alloc (.cells #[.pointer (some ⟨s, 0, none⟩)] 24)) := (callsIn_wide (n := 3)).1 (runs_in 3 _ V)
  obtain ⟨X, hX⟩ : ∃ X, X = V.alloc (.cells #[.pointer (some ⟨s, 0, none⟩)] 24) := ⟨_, rfl⟩
  have bX : Below V.heap.size V X := by rw [hX]; exact Below.alloc (Below.refl _ _) (Nat.le_refl _) _
  have sX : X.heap.size = V.heap.size + 1 := by rw [hX]; simp
  have HL : Hid (Calls Tryd.prog 37 #[.func (.func 54) #[] #[.pointer (some ⟨V.heap.size, 0, none⟩)], .int .i64 0] X fun e w' => ∃ v, e = .returned (.tuple #[.slice none 0 0, v]) ∧ ROwns w' X.heap.size v (fil l) ∧ Below X.heap.size X w') := by
    have hlt := (hs.below bV).lt
    obtain ⟨p0, h1, h2⟩ := hs.below bV
    obtain ⟨_, _, _, c3⟩ := sp_cells h1
    have cT : X.cell? ⟨V.heap.size, 0, none⟩ = some (.pointer (some ⟨s, 0, none⟩)) := by
      have h := heap_alloc_new V (.cells #[.pointer (some ⟨s, 0, none⟩)] 24)
      rw [← hX] at h
      simp [World.cell?, h]
    have hlen := fits_len hok.fits
    exact listed_runs 54 _ Small (fun k => k < V.heap.size ∨ k = V.heap.size) l.length (fil l) X (enters_of Tryd.func54 (by kernel_rfl) rfl)
      (runs_seq V.heap.size s p0 l Small hok.small V X h2 c3 hlt bX (by omega) cT) (fun k hk => by rcases hk with h | h <;> omega) (by have := hok.rows30; omega)
  have HB : Hid (Below w.heap.size w X) := bV.trans (bX.mono bV.size)
  have HX := hid_mk hX
  clear hs bV eV hok bX sX hX
  unfold plv
  go_enter Tryd.func11, Tryd.ntmps11
  go_wp2_with fail
  rw [← hV]
  clear hV
  go_wp2_with (first | (go_at_call 38; refine HT.out.mono ?_; clear HT; rintro e w2 ⟨rfl, hw2⟩; rw [hw2, ← HX.out]; clear hw2) | (go_at_call 37; refine HL.out.mono ?_; clear HL; rintro e w3 ⟨v, rfl, h1, h2⟩; have H1 := hid_mk h1; have H2 := hid_mk h2; clear h1 h2))
  go_ret2
  refine ⟨_, rfl, ?_, HB.out.trans (H2.out.mono HB.out.size)⟩
  refine ⟨H1.out.1, ?_⟩
  rcases H1.out.2 with hn | ⟨g, c, cur, h3, h4, h5⟩
  · exact .inl hn
  · exact .inr ⟨g, c, cur, h3, Nat.le_trans HB.out.size h4, h5⟩
end Go.Proofs.YtcpdnalmoaojlaaDoor
