/-
  plain's SpaceLoad; what a space that was read is.
-/
import Derived.Test.YtcfmjjpbekpoeafDoorSp24
namespace Go.Proofs.YtcfmjjpbekpoeafDoor
open Go.RowKit Go.Shelf
set_option linter.unusedVariables false
set_option linter.unusedSimpArgs false

theorem loadR_ok {bs : List UInt8} {rows : Nat} {l : List Pc} (h : loadR bs = some (rows, l)) : SpOk rows l ∧ ∀ p ∈ l, p.st = 1 := by
  unfold loadR at h
  split at h
  · cases h
  · rename_i h1
    split at h
    · cases h
    · rename_i h2
      rw [Option.map_eq_some_iff] at h
      obtain ⟨l', h3, h4⟩ := h
      injection h4 with e1 e2
      subst e1 e2
      obtain ⟨h5, h6⟩ := loadL_fits (stop := 0) (Nat.zero_le _) (by rw [List.length_drop]; omega) h3
      exact ⟨⟨h5, by omega, fun p hp => (h6 p hp).1⟩, fun p hp => (h6 p hp).2⟩
set_option maxRecDepth 100000 in
theorem pload_any (bs : List UInt8) (n b off cp : Nat) (w : World) (hg : ErrT w) (hn : n = bs.length) (hl : bs.length ≤ 140737488355328) (hcp : bs.length ≤ cp) (hb : b < w.heap.size) (hv : BytesAt w b off bs) :
    Calls Tryd.prog 19 #[.slice (some ⟨b, off, none⟩) n cp] w fun e w' => Below w.heap.size w w' ∧ ((loadR bs = none ∧ e = .returned (.tuple #[.agg #[.pointer none], .int .i64 7])) ∨
      ∃ s rows l, loadR bs = some (rows, l) ∧ e = .returned (.tuple #[plv s, .int .i64 0]) ∧ w.heap.size ≤ s ∧ SpAt w' s rows l) := by
  obtain ⟨V, hV⟩ : ∃ V, V = w.alloc (.cells #[.pointer none] 38) := ⟨_, rfl⟩
  have sV : V.heap.size = w.heap.size + 1 := by rw [hV]; simp
  have bV : Below w.heap.size w V := by rw [hV]; exact Below.alloc (Below.refl _ _) (Nat.le_refl _) _
  have eV : V.heap[w.heap.size]? = some (.cells #[.pointer none] 38 (0, 0)) := by rw [hV]; exact heap_alloc_new _ _
  have H1 := hid_mk (load_any bs n b off cp V hn hl hcp (by omega) (hv.below bV hb))
  have H2 : Hid (∀ W, Calls Tryd.prog 28 #[.nilIface, .bool true] W fun e w' => e = .returned (.int .i64 0) ∧ Below W.heap.size W w') := fun W => made_nil W
  have H3 : Hid (∀ W, Below V.heap.size V W → Calls Tryd.prog 28 #[.iface 29 (.int .i64 7), .bool false] W fun e w' => e = .returned (.int .i64 7) ∧ Below W.heap.size W w') := fun W hW => made_errno 7 W ((hg.below bV hg.size).below hW (Nat.lt_of_lt_of_le hg.size bV.size))
  have HF : Hid (∀ W, Below V.heap.size V W → W.heap[w.heap.size]? = some (.cells #[.pointer none] 38 (0, 0)) ∧ Below w.heap.size w W) := fun W hW => ⟨(hW.block _ (by omega)).trans eV, bV.trans (hW.mono (by omega))⟩
  have HSV := hid_mk sV
  clear sV bV eV hn hl hcp hb hv hg
  go_enter Tryd.func19, Tryd.ntmps19
  go_wp2_with fail
  rw [← hV]
  clear hV
  go_wp2_with (first | (go_at_call 35; refine H1.out.mono ?_; clear H1; rintro e w2 ⟨hb2, (⟨hr, rfl⟩ | ⟨s, rows, l, hr, rfl, hs, hsp⟩)⟩ <;> (have HB2 := hid_mk hb2; have HR := hid_mk hr; clear hr; try (have HS := hid_mk hs; have HSP := hid_mk hsp; clear hs hsp); clear hb2)) | (go_at_call_of 28 (Value.nilIface); refine (H2.out _).mono ?_; clear H2; rintro e w3 ⟨rfl, hb⟩; have HB3 := hid_mk hb; have HB := hid_mk (HF.out _ (HB2.out.trans (hb.mono HB2.out.size))); have f0 : w3.cell? ⟨w.heap.size, 0, none⟩ = some (.pointer none) := (by simp [World.cell?, HB.out.1]); have ff := unfrozen HB.out.1 0; clear hb) | (go_at_call_of 28 (Value.iface 29 (.int .i64 7)); refine (H3.out _ HB2.out).mono ?_; clear H3; rintro e w3 ⟨rfl, hb⟩; have HB := hid_mk (HF.out _ (HB2.out.trans (hb.mono HB2.out.size))); have f0 : w3.cell? ⟨w.heap.size, 0, none⟩ = some (.pointer none) := (by simp [World.cell?, HB.out.1]); have ff := unfrozen HB.out.1 0; clear hb))
  · obtain ⟨h1, h3⟩ := HB.out
    exact bodyPost_ret (res_cell1 rfl _ _ w.heap.size _ rfl (load_pl _ _ _ (setc_heap h1))) rfl ⟨h3.setCell (p := ⟨w.heap.size, 0, none⟩) (Nat.le_refl _) _, .inl ⟨HR.out, rfl⟩⟩
  · obtain ⟨h1, h3⟩ := HB.out
    refine bodyPost_ret (res_cell1 rfl _ _ w.heap.size _ rfl (load_pl _ _ _ (setc_heap h1))) rfl ⟨h3.setCell (p := ⟨w.heap.size, 0, none⟩) (Nat.le_refl _) _, .inr ⟨s, rows, l, HR.out, rfl, by have := HS.out; have := HSV.out; omega, ?_⟩⟩
    obtain ⟨p, h4, h5⟩ := HSP.out.below HB3.out
    exact ⟨p, (Below.heap_setCell _ _ _ _ (show s ≠ w.heap.size by have := HS.out; have := HSV.out; omega)).trans h4, KT.keepc h5 h1⟩
end Go.Proofs.YtcfmjjpbekpoeafDoor
