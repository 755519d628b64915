import Derived.Test.YtcpdnalmoaojlaaDoorHSp36
import Derived.Test.YtcpdnalmoaojlaaDoorHSp24

/-
  plain's Share, Drop, Turn.
-/
namespace Go.Proofs.YtcpdnalmoaojlaaDoor
open Go.RowKit Go.Shelf
set_option linter.unusedVariables false
set_option linter.unusedSimpArgs false

/-- What plain's Drop tells. -/
def PDrop (w : World) (s rows : Nat) (l : List Pc) (at' : Int) (e : Ending) (w' : World) : Prop :=
  Only s w w' ∧ (((∀ q ∈ l, (q.at' : Int) = at' → q.st = 2) ∧ e = .returned (.int .i64 3) ∧ SpAt w' s rows l) ∨
    ∃ q ∈ l, (q.at' : Int) = at' ∧ q.st ≠ 2 ∧ e = .returned (.int .i64 0) ∧ SpAt w' s rows (dropL l q))
/-- What plain's Share tells. -/
def PShare (w : World) (s rows : Nat) (l : List Pc) (at' : Int) (e : Ending) (w' : World) : Prop :=
  Only s w w' ∧ (((∀ q ∈ l, (q.at' : Int) = at' → q.st = 2) ∧ e = .returned (.int .i64 3) ∧ SpAt w' s rows l) ∨
    ∃ q ∈ l, (q.at' : Int) = at' ∧ q.st ≠ 2 ∧ ((q.count = 65535 ∧ e = .returned (.int .i64 14) ∧ SpAt w' s rows l) ∨ (q.count < 65535 ∧ e = .returned (.int .i64 0) ∧ SpAt w' s rows (putL l { q with count := q.count + 1 }))))
set_option maxRecDepth 100000 in
theorem pdrop_any (s rows : Nat) (l : List Pc) (at' : Int) (w : World) (hg : ErrT w) (hgs : 0 < s) (hs : SpAt w s rows l) (hok : SpOk rows l) :
    Calls Tryd.prog 13 #[plv s, .int .i64 at'] w (PDrop w s rows l at') := by
  obtain ⟨V, hV⟩ : ∃ V, V = w.alloc (.cells #[.pointer (some ⟨s, 0, none⟩)] 26) := ⟨_, rfl⟩
  have bV : Below w.heap.size w V := by rw [hV]; exact Below.alloc (Below.refl _ _) (Nat.le_refl _) _
  have eV : V.heap[w.heap.size]? = some (.cells #[.pointer (some ⟨s, 0, none⟩)] 26 (0, 0)) := by rw [hV]; exact heap_alloc_new _ _
  have c0 : V.cell? ⟨w.heap.size, 0, none⟩ = some (.pointer (some ⟨s, 0, none⟩)) := by simp [World.cell?, eV]
  have HT := hid_mk (drop_any s rows l at' V (hs.below bV) hok)
  have HN0 : Hid (∀ W, Calls Tryd.prog 40 #[.nilIface] W fun e w' => e = .returned (.int .i64 0) ∧ Below W.heap.size W w') := fun W => number_nil W
  have HN3 : Hid (∀ W, Only s V W → Calls Tryd.prog 40 #[.iface 27 (.int .i64 3)] W fun e w' => e = .returned (.int .i64 3) ∧ Below W.heap.size W w') := fun W hW => number_errno 3 W ((hg.below bV hg.size).only hW hgs)
  have HB := hid_mk bV
  clear hs bV eV hg hok
  unfold plv
  go_enter Tryd.func13, Tryd.ntmps13
  go_wp2_with fail
  rw [← hV]
  clear hV
  go_wp2_with (first | (go_at_call 41; refine HT.out.mono ?_; clear HT; rintro e w2 ⟨ho, (⟨h1, rfl, h2⟩ | ⟨q, hq, hq1, hq2, rfl, h2⟩)⟩ <;> (have HO := hid_mk ho; have H2 := hid_mk h2; clear ho h2; (try have H1 := hid_mk h1); (try have HQ := hid_mk hq); (try have HQ1 := hid_mk hq1); (try have HQ2 := hid_mk hq2))) | (go_at_call_of 40 (Value.nilIface); refine (HN0.out _).mono ?_; rintro e w3 ⟨rfl, hb⟩; have HB3 := hid_mk hb; clear hb) | (go_at_call 40; refine (HN3.out _ HO.out).mono ?_; rintro e w3 ⟨rfl, hb⟩; have HB3 := hid_mk hb; clear hb))
  · go_ret
    exact ⟨((Only.of_below HB.out).trans HO.out).trans (Only.of_below HB3.out), .inl ⟨H1.out, rfl, H2.out.below HB3.out⟩⟩
  · go_ret
    exact ⟨((Only.of_below HB.out).trans HO.out).trans (Only.of_below HB3.out), .inr ⟨q, HQ.out, HQ1.out, HQ2.out, rfl, H2.out.below HB3.out⟩⟩
set_option maxRecDepth 100000 in
theorem pshare_any (s rows : Nat) (l : List Pc) (at' : Int) (w : World) (hg : ErrT w) (hgs : 0 < s) (hs : SpAt w s rows l) (hok : SpOk rows l) :
    Calls Tryd.prog 14 #[plv s, .int .i64 at'] w (PShare w s rows l at') := by
  obtain ⟨V, hV⟩ : ∃ V, V = w.alloc (.cells #[.pointer (some ⟨s, 0, none⟩)] 26) := ⟨_, rfl⟩
  have bV : Below w.heap.size w V := by rw [hV]; exact Below.alloc (Below.refl _ _) (Nat.le_refl _) _
  have eV : V.heap[w.heap.size]? = some (.cells #[.pointer (some ⟨s, 0, none⟩)] 26 (0, 0)) := by rw [hV]; exact heap_alloc_new _ _
  have c0 : V.cell? ⟨w.heap.size, 0, none⟩ = some (.pointer (some ⟨s, 0, none⟩)) := by simp [World.cell?, eV]
  have HT := hid_mk (share_any s rows l at' V (hs.below bV) hok)
  have HN0 : Hid (∀ W, Calls Tryd.prog 40 #[.nilIface] W fun e w' => e = .returned (.int .i64 0) ∧ Below W.heap.size W w') := fun W => number_nil W
  have HNE : Hid (∀ W c, Only s V W → Calls Tryd.prog 40 #[.iface 27 (.int .i64 c)] W fun e w' => e = .returned (.int .i64 c) ∧ Below W.heap.size W w') := fun W c hW => number_errno c W ((hg.below bV hg.size).only hW hgs)
  have HB := hid_mk bV
  clear hs bV eV hg hok
  unfold plv
  go_enter Tryd.func14, Tryd.ntmps14
  go_wp2_with fail
  rw [← hV]
  clear hV
  go_wp2_with (first | (go_at_call 42; refine HT.out.mono ?_; clear HT; rintro e w2 ⟨ho, (⟨h1, rfl, h2⟩ | ⟨q, hq, hq1, hq2, (⟨hc, rfl, h2⟩ | ⟨hc, rfl, h2⟩)⟩)⟩ <;> (have HO := hid_mk ho; have H2 := hid_mk h2; clear ho h2; (try have H1 := hid_mk h1); (try have HQ := hid_mk hq); (try have HQ1 := hid_mk hq1); (try have HQ2 := hid_mk hq2); (try have HC := hid_mk hc))) | (go_at_call_of 40 (Value.nilIface); refine (HN0.out _).mono ?_; rintro e w3 ⟨rfl, hb⟩; have HB3 := hid_mk hb; clear hb) | (go_at_call 40; refine (HNE.out _ _ HO.out).mono ?_; rintro e w3 ⟨rfl, hb⟩; have HB3 := hid_mk hb; clear hb))
  · go_ret
    exact ⟨((Only.of_below HB.out).trans HO.out).trans (Only.of_below HB3.out), .inl ⟨H1.out, rfl, H2.out.below HB3.out⟩⟩
  · go_ret
    exact ⟨((Only.of_below HB.out).trans HO.out).trans (Only.of_below HB3.out), .inr ⟨q, HQ.out, HQ1.out, HQ2.out, .inl ⟨HC.out, rfl, H2.out.below HB3.out⟩⟩⟩
  · go_ret
    exact ⟨((Only.of_below HB.out).trans HO.out).trans (Only.of_below HB3.out), .inr ⟨q, HQ.out, HQ1.out, HQ2.out, .inr ⟨HC.out, rfl, H2.out.below HB3.out⟩⟩⟩
set_option maxRecDepth 100000 in
theorem pturn_any (s rows : Nat) (l : List Pc) (w : World) (hs : SpAt w s rows l) (hok : SpOk rows l) :
    Calls Tryd.prog 15 #[plv s] w fun e w' => (∃ v, e = .returned v) ∧ Only s w w' ∧ SpAt w' s rows (turnL l) := by
  obtain ⟨V, hV⟩ : ∃ V, V = w.alloc (.cells #[.pointer (some ⟨s, 0, none⟩)] 26) := ⟨_, rfl⟩
  have bV : Below w.heap.size w V := by rw [hV]; exact Below.alloc (Below.refl _ _) (Nat.le_refl _) _
  have eV : V.heap[w.heap.size]? = some (.cells #[.pointer (some ⟨s, 0, none⟩)] 26 (0, 0)) := by rw [hV]; exact heap_alloc_new _ _
  have c0 : V.cell? ⟨w.heap.size, 0, none⟩ = some (.pointer (some ⟨s, 0, none⟩)) := by simp [World.cell?, eV]
  have HT := hid_mk (turn_any s rows l V (hs.below bV) hok)
  have HB := hid_mk bV
  clear hs bV eV hok
  unfold plv
  go_enter Tryd.func15, Tryd.ntmps15
  go_wp2_with fail
  rw [← hV]
  clear hV
  go_wp2_with (first | (go_at_call 43; refine HT.out.mono ?_; clear HT; rintro e w2 ⟨⟨v, rfl⟩, ho, h2⟩; have HO := hid_mk ho; have H2 := hid_mk h2; clear ho h2))
  go_end0
  exact ⟨⟨_, rfl⟩, (Only.of_below HB.out).trans HO.out, H2.out⟩
end Go.Proofs.YtcpdnalmoaojlaaDoor

/-
  What is in use when runs are given back, one by one.
-/
namespace Go.Proofs.YtcpdnalmoaojlaaDoor
set_option linter.unusedVariables false
set_option linter.unusedSimpArgs false

theorem fil_mid (m k : List Pc) (q : Pc) : fil (m ++ q :: k) = fil m ++ (if isUsed q then [q] else []) ++ fil k := by
  unfold fil
  rw [List.filter_append]
  by_cases h : isUsed q = true
  · rw [List.filter_cons_of_pos h, if_pos h]; simp
  · rw [List.filter_cons_of_neg h, if_neg h]; simp
theorem fil_mem {l : List Pc} {q : Pc} (h : q ∈ fil l) : q ∈ l ∧ q.st ≠ 2 := by
  obtain ⟨h1, h2⟩ := List.mem_filter.1 h
  simp [isUsed] at h2
  exact ⟨h1, h2⟩
/-- The first one that is in use is given back once. -/
theorem drop_fil {rows : Nat} {l r : List Pc} {q : Pc} (h : SpOk rows l) (hf : fil l = q :: r) : fil (dropL l q) = if 1 < q.count then { q with count := q.count - 1 } :: r else r := by
  have hm : q ∈ fil l := by rw [hf]; exact List.mem_cons_self
  obtain ⟨hq, hst⟩ := fil_mem hm
  obtain ⟨m, k, rfl⟩ := List.append_of_mem hq
  have hu : isUsed q = true := by simp [isUsed, hst]
  rw [fil_mid, if_pos hu] at hf
  have hm0 : fil m = [] ∧ fil k = r := by
    cases hfm : fil m with
    | nil =>
      rw [hfm] at hf
      simp at hf
      exact ⟨rfl, hf⟩
    | cons y ys =>
      rw [hfm] at hf
      simp at hf
      have hy : y ∈ m := (fil_mem (by rw [hfm]; exact List.mem_cons_self)).1
      have := (fits_lt h.fits).1 y hy
      rw [hf.1] at this
      omega
  obtain ⟨e1, e2⟩ := hm0
  unfold dropL
  by_cases hc : 1 < q.count
  · rw [if_pos hc, if_pos hc, putL_same (p := { q with count := q.count - 1 }) h.fits rfl, fil_mid, e1, e2]
    have : isUsed { q with count := q.count - 1 } = true := by simp [isUsed, hst]
    rw [if_pos this]
    rfl
  · rw [if_neg hc, if_neg hc]
    by_cases h0 : q.st = 0
    · rw [if_pos h0, outL_mid h.fits]
      unfold fil at e1 e2 ⊢
      rw [List.filter_append, e1, e2]
      rfl
    · rw [if_neg h0, putL_same (p := { q with count := 0, st := 2 }) h.fits rfl, fil_mid, e1, e2]
      simp [isUsed]
/-- One that is in use is the one that a row leads to. -/
theorem used_at {rows : Nat} {l : List Pc} {q p : Pc} (h : SpOk rows l) (hq : q ∈ fil l) (hp : p ∈ l) (e : (p.at' : Int) = (q.at' : Int)) : p = q := fits_inj h.fits p hp q (fil_mem hq).1 (by omega)
theorem turn_nil {l : List Pc} (h : fil l = []) : turnL l = [] := by unfold turnL; rw [h]; rfl
/-- A space's bytes are read back. -/
theorem load_back {rows : Nat} {l : List Pc} (h : SpOk rows l) : loadR (spB rows (fil l)) = some (rows, turnL l) := by
  have hf : Fits 0 (fil l) rows := fits_filt _ h.fits
  have h30 := h.rows30
  have hl := spB_length rows (fil l)
  have ht : (spB rows (fil l)).take 4 = toLe rows 4 := by unfold spB; exact take_mid _ _ 4 (toLe_length _ _)
  have hd : (spB rows (fil l)).drop 4 = ((fil l).map runB).flatten := by unfold spB; exact drop_mid' _ _ 4 (toLe_length _ _)
  have hr : leN (toLe rows 4) = rows := by rw [leN_toLe]; exact Nat.mod_eq_of_lt (by simp; omega)
  have hb := loadL_back (stop := 0) (rows := rows) (l := fil l) (by omega) hf (fun p hp => ⟨h.ok p (fil_mem hp).1, (fil_mem hp).2⟩)
  unfold loadR
  rw [if_neg (by omega), ht, hr, if_neg (by omega), hd, hl, show (4 + 18 * (fil l).length - 4) / 18 = (fil l).length by omega, hb]
  rfl
end Go.Proofs.YtcpdnalmoaojlaaDoor
