/-
  SpaceReads.
-/
import Derived.Test.YtcfmjjpbekpoeafDoorSp27
import Derived.Test.YtcfmjjpbekpoeafDoorPk
import Derived.Test.YtcfmjjpbekpoeafDoorText
namespace Go.Proofs.YtcfmjjpbekpoeafDoor
open Go.RowKit Go.Shelf
set_option linter.unusedVariables false
set_option linter.unusedSimpArgs false

theorem room_ge (w : World) (s : ByteArray) : s.size ≤ room w s := grownCap_ge w s.size 0 5
set_option maxRecDepth 100000 in
set_option maxHeartbeats 4000000 in
theorem reads_text (str : ByteArray) (at' to : Int) (w : World) (hg : ErrT w) (hlen : str.size ≤ 140737488355328) (h1 : -9223372036854775808 ≤ to) (h2 : to ≤ 9223372036854775807) (hz : str.size = 0 ∨ to % 3 = 0) :
    Calls Tryd.prog 6 #[.string str, .int .i64 at', .int .i64 to] w fun e w' => e = .returned (.bool true) ∧ Below w.heap.size w w' := by
  have hconv := run_bw w str
  have bB : Below w.heap.size w (bw w str) := below_bw (Below.refl _ _) (Nat.le_refl _) str
  obtain ⟨n, hn⟩ : ∃ n, n = str.size := ⟨_, rfl⟩
  have hln := bl_length str
  have HP : Hid (∀ W, Calls Tryd.prog 7 #[.int .i64 to, .int .i64 3] W fun e w' => e = .returned (.int .i64 (to % 3)) ∧ w' = W) := fun W => pick_any to 3 (by omega) (by omega) h1 h2 W
  have HL := hid_mk (pload_any (bl str) str.size w.heap.size 0 (room w str) (bw w str) (hg.below bB hg.size) hln.symm (by omega) (by rw [hln]; exact room_ge w str) (by rw [bw_size]; omega) (bw_bytes w str))
  unfold plv at HL
  have HBW := hid_mk bB
  rw [← hn] at hconv HL hlen hz
  obtain ⟨W, hW⟩ : ∃ W, W = bw w str := ⟨_, rfl⟩
  rw [← hW] at hconv HL HBW
  obtain ⟨cp, hcp⟩ : ∃ cp, cp = room w str := ⟨_, rfl⟩
  rw [← hcp] at hconv HL
  clear hn bB hg hln hW hcp
  by_cases h0 : n = 0
  · have h0' : ¬ (0 : Int) < (n : Int) := by omega
    clear hz h0
    go_enter Tryd.func6, Tryd.ntmps6
    go_wp2_with (first | (go_at_call 19; refine HL.out.mono ?_; clear HL; rintro e w5 ⟨hb5, (⟨hr5, rfl⟩ | ⟨s5, rows5, l5, hr5, rfl, hs5, hsp5⟩)⟩ <;> (have HB5 := hid_mk hb5; have HR5 := hid_mk hr5; clear hb5 hr5)))
    · go_ret
      exact ⟨rfl, (HBW.out.trans (HB5.out.mono HBW.out.size)).alloc (Nat.le_trans HBW.out.size HB5.out.size) _⟩
    · obtain ⟨hok5, hst5⟩ := loadR_ok HR5.out
      have hh0 := held_none hst5
      have hsum5 := rowsL_all hok5.fits
      have h305 := hok5.rows30
      obtain ⟨us, hus⟩ : ∃ us, us = rowsL isUsed l5 := ⟨_, rfl⟩
      obtain ⟨fr, hfr⟩ : ∃ fr : Nat, fr = rows5 - us - 0 := ⟨_, rfl⟩
      have HRW : Hid (∀ W, Below w5.heap.size w5 W → Calls Tryd.prog 22 #[.agg #[.pointer (some ⟨s5, 0, none⟩)]] W fun e w' => e = .returned (.agg #[.int .i64 (us : Int), .int .i64 0, .int .i64 (fr : Int)]) ∧ Below W.heap.size W w') := fun W hW => by
        have h := prows_any s5 rows5 l5 W (hsp5.below hW) hok5
        rw [hh0, ← hus, ← hfr] at h
        exact h
      have HSD : Hid (∀ W, Below w5.heap.size w5 W → Calls Tryd.prog 21 #[.agg #[.pointer (some ⟨s5, 0, none⟩)], .int .i64 (rows5 : Int)] W fun e w' => e = .returned (.bool true) ∧ Below W.heap.size W w') := fun W hW => sound_any s5 rows5 l5 W (hsp5.below hW) hok5
      rw [hh0, ← hus] at hsum5
      have hfr2 : us + fr = rows5 := by omega
      have x1 : IntKind.i64.wrap (us : Int) = (us : Int) := by rw [IntKind.wrap_i64]; omega
      have x2 : IntKind.i64.wrap ((us : Int) + (fr : Int)) = (us : Int) + (fr : Int) := by rw [IntKind.wrap_i64]; omega
      have x3 : (us : Int) + (fr : Int) = (rows5 : Int) := by omega
      have x4 : (rows5 : Int) ≤ 1073741824 := by omega
      have x5 : (0 : Int) ≤ (rows5 : Int) := by omega
      obtain ⟨X5, hX5⟩ : ∃ X5, X5 = w5.alloc (.cells #[.pointer (some ⟨s5, 0, none⟩)] 38) := ⟨_, rfl⟩
      have HX5 : Hid (Below w5.heap.size w5 X5) := by show Below _ _ _; rw [hX5]; exact Below.alloc (Below.refl _ _) (Nat.le_refl _) _
      have hE5 : X5.heap[w5.heap.size]? = some (.cells #[.pointer (some ⟨s5, 0, none⟩)] 38 (0, 0)) := by rw [hX5]; exact heap_alloc_new _ _
      have HE5 := hid_mk hE5
      have d0 : X5.cell? ⟨w5.heap.size, 0, none⟩ = some (.pointer (some ⟨s5, 0, none⟩)) := by simp [World.cell?, hE5]
      clear hok5 hst5 hh0 hus hfr hfr2 hsp5 hs5 hsum5 h305 hE5
      go_wp2_with fail
      rw [← hX5]
      clear hX5
      go_wp2_with (first | (go_at_call 22; refine (HRW.out _ HX5.out).mono ?_; clear HRW; rintro e w6 ⟨rfl, hb6⟩; have HB6 := hid_mk hb6; have HX6 : Hid (∀ A, Below w5.heap.size w5 (w6.alloc A)) := (fun A => Below.alloc (HX5.out.trans (hb6.mono HX5.out.size)) (Nat.le_trans HX5.out.size hb6.size) _); have d1 : w6.cell? ⟨w5.heap.size, 0, none⟩ = some (.pointer (some ⟨s5, 0, none⟩)) := (World.cell?_of_block (w := X5) (hb6.block _ (Array.getElem?_eq_some_iff.1 HE5.out).1)).trans d0; have dl : w5.heap.size < w6.heap.size := Nat.lt_of_lt_of_le (Array.getElem?_eq_some_iff.1 HE5.out).1 hb6.size; have dn : ¬ w6.heap.size = w5.heap.size := (fun e => by omega); clear hb6) | (go_at_call 21; refine (HSD.out _ (HX6.out _)).mono ?_; clear HSD; rintro e w7 ⟨rfl, hb7⟩; have HB7 := hid_mk hb7; clear hb7))
      go_ret
      exact ⟨rfl, (HBW.out.trans (HB5.out.mono HBW.out.size)).trans (((HX6.out _).trans (HB7.out.mono (HX6.out _).size)).mono (Nat.le_trans HBW.out.size HB5.out.size))⟩
  · have h0' : (0 : Int) < (n : Int) := by omega
    have hz' : to % 3 = 0 := hz.resolve_left h0
    rw [hz'] at HP
    clear hz hz'
    go_enter Tryd.func6, Tryd.ntmps6
    go_wp2_with (first | (go_at_call 7; refine (HP.out _).mono ?_; rintro e w3 ⟨rfl, hw3⟩; rw [hw3]; clear hw3))
    go_wp2_with (first | (go_at_call 19; refine HL.out.mono ?_; clear HL; rintro e w5 ⟨hb5, (⟨hr5, rfl⟩ | ⟨s5, rows5, l5, hr5, rfl, hs5, hsp5⟩)⟩ <;> (have HB5 := hid_mk hb5; have HR5 := hid_mk hr5; clear hb5 hr5)))
    · go_ret
      exact ⟨rfl, (HBW.out.trans (HB5.out.mono HBW.out.size)).alloc (Nat.le_trans HBW.out.size HB5.out.size) _⟩
    · obtain ⟨hok5, hst5⟩ := loadR_ok HR5.out
      have hh0 := held_none hst5
      have hsum5 := rowsL_all hok5.fits
      have h305 := hok5.rows30
      obtain ⟨us, hus⟩ : ∃ us, us = rowsL isUsed l5 := ⟨_, rfl⟩
      obtain ⟨fr, hfr⟩ : ∃ fr : Nat, fr = rows5 - us - 0 := ⟨_, rfl⟩
      have HRW : Hid (∀ W, Below w5.heap.size w5 W → Calls Tryd.prog 22 #[.agg #[.pointer (some ⟨s5, 0, none⟩)]] W fun e w' => e = .returned (.agg #[.int .i64 (us : Int), .int .i64 0, .int .i64 (fr : Int)]) ∧ Below W.heap.size W w') := fun W hW => by
        have h := prows_any s5 rows5 l5 W (hsp5.below hW) hok5
        rw [hh0, ← hus, ← hfr] at h
        exact h
      have HSD : Hid (∀ W, Below w5.heap.size w5 W → Calls Tryd.prog 21 #[.agg #[.pointer (some ⟨s5, 0, none⟩)], .int .i64 (rows5 : Int)] W fun e w' => e = .returned (.bool true) ∧ Below W.heap.size W w') := fun W hW => sound_any s5 rows5 l5 W (hsp5.below hW) hok5
      rw [hh0, ← hus] at hsum5
      have hfr2 : us + fr = rows5 := by omega
      have x1 : IntKind.i64.wrap (us : Int) = (us : Int) := by rw [IntKind.wrap_i64]; omega
      have x2 : IntKind.i64.wrap ((us : Int) + (fr : Int)) = (us : Int) + (fr : Int) := by rw [IntKind.wrap_i64]; omega
      have x3 : (us : Int) + (fr : Int) = (rows5 : Int) := by omega
      have x4 : (rows5 : Int) ≤ 1073741824 := by omega
      have x5 : (0 : Int) ≤ (rows5 : Int) := by omega
      obtain ⟨X5, hX5⟩ : ∃ X5, X5 = w5.alloc (.cells #[.pointer (some ⟨s5, 0, none⟩)] 38) := ⟨_, rfl⟩
      have HX5 : Hid (Below w5.heap.size w5 X5) := by show Below _ _ _; rw [hX5]; exact Below.alloc (Below.refl _ _) (Nat.le_refl _) _
      have hE5 : X5.heap[w5.heap.size]? = some (.cells #[.pointer (some ⟨s5, 0, none⟩)] 38 (0, 0)) := by rw [hX5]; exact heap_alloc_new _ _
      have HE5 := hid_mk hE5
      have d0 : X5.cell? ⟨w5.heap.size, 0, none⟩ = some (.pointer (some ⟨s5, 0, none⟩)) := by simp [World.cell?, hE5]
      clear hok5 hst5 hh0 hus hfr hfr2 hsp5 hs5 hsum5 h305 hE5
      go_wp2_with fail
      rw [← hX5]
      clear hX5
      go_wp2_with (first | (go_at_call 22; refine (HRW.out _ HX5.out).mono ?_; clear HRW; rintro e w6 ⟨rfl, hb6⟩; have HB6 := hid_mk hb6; have HX6 : Hid (∀ A, Below w5.heap.size w5 (w6.alloc A)) := (fun A => Below.alloc (HX5.out.trans (hb6.mono HX5.out.size)) (Nat.le_trans HX5.out.size hb6.size) _); have d1 : w6.cell? ⟨w5.heap.size, 0, none⟩ = some (.pointer (some ⟨s5, 0, none⟩)) := (World.cell?_of_block (w := X5) (hb6.block _ (Array.getElem?_eq_some_iff.1 HE5.out).1)).trans d0; have dl : w5.heap.size < w6.heap.size := Nat.lt_of_lt_of_le (Array.getElem?_eq_some_iff.1 HE5.out).1 hb6.size; have dn : ¬ w6.heap.size = w5.heap.size := (fun e => by omega); clear hb6) | (go_at_call 21; refine (HSD.out _ (HX6.out _)).mono ?_; clear HSD; rintro e w7 ⟨rfl, hb7⟩; have HB7 := hid_mk hb7; clear hb7))
      go_ret
      exact ⟨rfl, (HBW.out.trans (HB5.out.mono HBW.out.size)).trans (((HX6.out _).trans (HB7.out.mono (HX6.out _).size)).mono (Nat.le_trans HBW.out.size HB5.out.size))⟩
end Go.Proofs.YtcfmjjpbekpoeafDoor
