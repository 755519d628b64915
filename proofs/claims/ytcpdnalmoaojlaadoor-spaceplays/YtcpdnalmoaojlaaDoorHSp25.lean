import Derived.Test.YtcpdnalmoaojlaaDoorHSp24
import Derived.BigQuiet

/-
  plain's SpaceLoad; what a space that was read is.
-/
namespace Go.Proofs.YtcpdnalmoaojlaaDoor
open Go.RowKit Go.Shelf
set_option linter.unusedVariables false
set_option linter.unusedSimpArgs false

theorem loadR_ok {bs : List UInt8} {rows : Nat} {l : List Pc} (h : loadR bs = some (rows, l)) : SpOk rows l ∧ ∀ p ∈ l, p.st = 1 := by
  unfold loadR at h
  split at h
  · cases h
  · rename_i h1
    split at h
    · cases h
    · rename_i h2
      rw [Option.map_eq_some_iff] at h
      obtain ⟨l', h3, h4⟩ := h
      injection h4 with e1 e2
      subst e1 e2
      obtain ⟨h5, h6⟩ := loadL_fits (stop := 0) (Nat.zero_le _) (by rw [List.length_drop]; omega) h3
      exact ⟨⟨h5, by omega, fun p hp => (h6 p hp).1⟩, fun p hp => (h6 p hp).2⟩
set_option maxRecDepth 100000 in
theorem pload_any (bs : List UInt8) (n b off cp : Nat) (w : World) (hg : ErrT w) (hn : n = bs.length) (hl : bs.length ≤ 70368744177664) (hcp : bs.length ≤ cp) (hb : b < w.heap.size) (hv : BytesAt w b off bs) :
    Calls Tryd.prog 16 #[.slice (some ⟨b, off, none⟩) n cp] w fun e w' => Below w.heap.size w w' ∧ ((loadR bs = none ∧ e = .returned (.tuple #[.agg #[.pointer none], .int .i64 7])) ∨
      ∃ s rows l, loadR bs = some (rows, l) ∧ e = .returned (.tuple #[plv s, .int .i64 0]) ∧ w.heap.size ≤ s ∧ SpAt w' s rows l) := by
  obtain ⟨V, hV⟩ : ∃ V, V = w.alloc (.cells #[.pointer none] 26) := ⟨_, rfl⟩
  have sV : V.heap.size = w.heap.size + 1 := by rw [hV]; simp
  have bV : Below w.heap.size w V := by rw [hV]; exact Below.alloc (Below.refl _ _) (Nat.le_refl _) _
  have eV : V.heap[w.heap.size]? = some (.cells #[.pointer none] 26 (0, 0)) := by rw [hV]; exact heap_alloc_new _ _
  have H1 := hid_mk (load_any bs n b off cp V hn hl hcp (by omega) (hv.below bV hb))
  have H2 : Hid (∀ W, Calls Tryd.prog 21 #[.nilIface, .bool true] W fun e w' => e = .returned (.int .i64 0) ∧ Below W.heap.size W w') := fun W => made_nil W
  have H3 : Hid (∀ W, Below V.heap.size V W → Calls Tryd.prog 21 #[.iface 27 (.int .i64 7), .bool false] W fun e w' => e = .returned (.int .i64 7) ∧ Below W.heap.size W w') := fun W hW => made_errno 7 W ((hg.below bV hg.size).below hW (Nat.lt_of_lt_of_le hg.size bV.size))
  have HF : Hid (∀ W, Below V.heap.size V W → W.heap[w.heap.size]? = some (.cells #[.pointer none] 26 (0, 0)) ∧ Below w.heap.size w W) := fun W hW => ⟨(hW.block _ (by omega)).trans eV, bV.trans (hW.mono (by omega))⟩
  have HSV := hid_mk sV
  clear sV bV eV hn hl hcp hb hv hg
  go_enter Tryd.func16, Tryd.ntmps16
  go_wp2_with fail
  rw [← hV]
  clear hV
  go_wp2_with (first | (go_at_call 44; refine H1.out.mono ?_; clear H1; rintro e w2 ⟨hb2, (⟨hr, rfl⟩ | ⟨s, rows, l, hr, rfl, hs, hsp⟩)⟩ <;> (have HB2 := hid_mk hb2; have HR := hid_mk hr; clear hr; try (have HS := hid_mk hs; have HSP := hid_mk hsp; clear hs hsp); clear hb2)) | (go_at_call_of 21 (Value.nilIface); refine (H2.out _).mono ?_; clear H2; rintro e w3 ⟨rfl, hb⟩; have HB3 := hid_mk hb; have HB := hid_mk (HF.out _ (HB2.out.trans (hb.mono HB2.out.size))); have f0 : w3.cell? ⟨w.heap.size, 0, none⟩ = some (.pointer none) := (by simp [World.cell?, HB.out.1]); have ff := unfrozen HB.out.1 0; clear hb) | (go_at_call_of 21 (Value.iface 27 (.int .i64 7)); refine (H3.out _ HB2.out).mono ?_; clear H3; rintro e w3 ⟨rfl, hb⟩; have HB := hid_mk (HF.out _ (HB2.out.trans (hb.mono HB2.out.size))); have f0 : w3.cell? ⟨w.heap.size, 0, none⟩ = some (.pointer none) := (by simp [World.cell?, HB.out.1]); have ff := unfrozen HB.out.1 0; clear hb))
  · obtain ⟨h1, h3⟩ := HB.out
    exact bodyPost_ret (res_cell1 rfl _ _ w.heap.size _ rfl (load_pl _ _ _ (setc_heap h1))) rfl ⟨h3.setCell (p := ⟨w.heap.size, 0, none⟩) (Nat.le_refl _) _, .inl ⟨HR.out, rfl⟩⟩
  · obtain ⟨h1, h3⟩ := HB.out
    refine bodyPost_ret (res_cell1 rfl _ _ w.heap.size _ rfl (load_pl _ _ _ (setc_heap h1))) rfl ⟨h3.setCell (p := ⟨w.heap.size, 0, none⟩) (Nat.le_refl _) _, .inr ⟨s, rows, l, HR.out, rfl, by have := HS.out; have := HSV.out; omega, ?_⟩⟩
    obtain ⟨p, h4, h5⟩ := HSP.out.below HB3.out
    exact ⟨p, (Below.heap_setCell _ _ _ _ (show s ≠ w.heap.size by have := HS.out; have := HSV.out; omega)).trans h4, KT.keepc h5 h1⟩
end Go.Proofs.YtcpdnalmoaojlaaDoor

/-
  sound.
-/
namespace Go.Proofs.YtcpdnalmoaojlaaDoor
open Go.RowKit Go.Shelf
set_option linter.unusedVariables false
set_option linter.unusedSimpArgs false

theorem fits_filter {a b : Nat} {l : List Pc} (f : Pc → Bool) (h : Fits a l b) : Fits a (l.filter f) b := by
  induction l generalizing a with
  | nil => simpa [Fits] using h
  | cons x l ih =>
    simp only [Fits] at h
    obtain ⟨h1, h2, h3⟩ := h
    have h4 := ih h3
    by_cases hx : f x = true
    · rw [List.filter_cons_of_pos hx]
      simp only [Fits]
      exact ⟨h1, h2, h4⟩
    · rw [List.filter_cons_of_neg hx]
      exact h4.mono (by have : x.stop = x.at' + x.n := rfl; omega) (Nat.le_refl _)
theorem used_fil (l : List Pc) : rowsL isUsed (fil l) = rowsL isUsed l := by
  induction l with
  | nil => rfl
  | cons x l ih =>
    unfold fil at ih ⊢
    by_cases hx : isUsed x = true
    · rw [List.filter_cons_of_pos hx]
      simp only [rowsL, ih]
    · rw [List.filter_cons_of_neg hx]
      simp only [rowsL, ih, hx]
      simp
theorem rflat_at (l : List Pc) : ∀ (i j : Nat) (h : i < l.length) (hj : j < 4), (l.flatMap fun x => (runv x).toList)[i * 4 + j]? = (runv l[i])[j]? := by
  induction l with
  | nil => intro i j h; simp at h
  | cons x l ih =>
    intro i j h hj
    rw [List.flatMap_cons]
    have h5 : (runv x).toList.length = 4 := rfl
    cases i with
    | zero =>
      rw [Nat.zero_mul, Nat.zero_add, List.getElem?_append_left (by omega)]
      simp
    | succ i =>
      rw [List.getElem?_append_right (by omega), h5, show (i + 1) * 4 + j - 4 = i * 4 + j from by omega]
      have := ih i j (by simpa using h) hj
      simpa using this
/-- A run in memory. -/
def RcAt (w : World) (b o : Nat) (x : Pc) : Prop := w.cell? ⟨b, o, none⟩ = some (.int .i64 (x.at' : Int)) ∧ w.cell? ⟨b, o + 1, none⟩ = some (.int .i64 (x.n : Int)) ∧ w.cell? ⟨b, o + 2, none⟩ = some (.int .i64 (x.count : Int)) ∧ w.cell? ⟨b, o + 3, none⟩ = some (.int .u64 (x.tag : Int))
theorem ROwns.at {w : World} {B : Nat} {v : Value} {l : List Pc} (h : ROwns w B v l) (hl : l ≠ []) : ∃ g cp, v = .slice (some ⟨g, 0, none⟩) l.length cp ∧ B ≤ g ∧ g < w.heap.size ∧ l.length ≤ cp ∧ ∀ i (hi : i < l.length), RcAt w g (i * 4) l[i] := by
  rcases h.2 with ⟨_, h2⟩ | ⟨g, c, cur, rfl, h4, h5, h6, h7, h8, h9⟩
  · exact absurd (List.eq_nil_of_length_eq_zero h2) hl
  · refine ⟨g, c, rfl, h4, (Array.getElem?_eq_some_iff.1 h5).1, h6, fun i hi => ?_⟩
    have key : ∀ j, j < 4 → w.cell? ⟨g, i * 4 + j, none⟩ = (runv l[i])[j]? := fun j hj => by
      rw [← rflat_at l i j hi hj, ← h9]
      simp only [World.cell?, h5]
      rw [List.getElem?_take_of_lt (by omega)]
      simp
    exact ⟨by simpa [runv] using key 0 (by omega), by simpa [runv] using key 1 (by omega), by simpa [runv] using key 2 (by omega), by simpa [runv] using key 3 (by omega)⟩
theorem ROwns.formL {w : World} {B : Nat} {v : Value} {l : List Pc} (h : ROwns w B v l) : ∃ ao cp, v = .slice ao l.length cp := by
  rcases h.2 with ⟨rfl, hn⟩ | ⟨g, c, cur, rfl, _⟩
  · exact ⟨none, 0, by rw [hn]⟩
  · exact ⟨_, _, rfl⟩
theorem used_take {l : List Pc} (h : ∀ p ∈ l, isUsed p = true) (k : Nat) (hk : k < l.length) : rowsL isUsed (l.take (k + 1)) = rowsL isUsed (l.take k) + l[k].n := by
  rw [List.take_succ_eq_append_getElem hk, rowsL_append]
  simp [rowsL, h l[k] (List.getElem_mem _)]
theorem fits_drop {a b : Nat} {l : List Pc} (h : Fits a l b) (k : Nat) (hk : k < l.length) (c : Nat) (hc : Fits c (l.drop k) b) : c ≤ l[k].at' ∧ 1 ≤ l[k].n ∧ l[k].stop ≤ b ∧ Fits l[k].stop (l.drop (k + 1)) b := by
  rw [List.drop_eq_getElem_cons hk] at hc
  simp only [Fits] at hc
  obtain ⟨h1, h2, h3⟩ := hc
  exact ⟨h1, h2, h3.le, h3⟩
end Go.Proofs.YtcpdnalmoaojlaaDoor
