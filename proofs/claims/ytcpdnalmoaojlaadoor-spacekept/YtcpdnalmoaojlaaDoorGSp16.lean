import Derived.Test.YtcpdnalmoaojlaaDoorGSp15

/-
  New, Take, Rows.
-/
namespace Go.Proofs.YtcpdnalmoaojlaaDoor
open Go.ChangeShapes Go.WideShapes Go.ChangeAt Go.RowKit
set_option linter.unusedVariables false
set_option linter.unusedSimpArgs false

set_option maxRecDepth 100000 in
theorem new_any (n : Nat) (w : World) (hn : n ≤ 1073741824) : Calls Tryd.prog 20 #[.int .i64 (n : Int)] w fun e w' => e = .returned (.tuple #[.pointer (some ⟨w.heap.size, 0, none⟩), .nilIface]) ∧ w' = w.alloc (.cells (spv n 0 0 none) 87) := by
  unfold spv
  have h0 : ¬ (n : Int) < 0 := by omega
  have h1 : ¬ (1073741824 : Int) < (n : Int) := by omega
  go_enter Tryd.func20, Tryd.ntmps20
  go_wp2
  go_ret2
  exact ⟨rfl, rfl⟩
set_option maxRecDepth 100000 in
set_option maxHeartbeats 4000000 in
theorem rows_any (rows used held s : Nat) (p : Option Addr) (w : World) (hs : w.heap[s]? = some (.cells (spv rows used held p) 87 (0, 0))) (hr : rows ≤ 1073741824) (hu : used + held ≤ rows) : Calls Tryd.prog 46 #[.pointer (some ⟨s, 0, none⟩)] w fun e w' => e = .returned (.agg #[.int .i64 (used : Int), .int .i64 (held : Int), .int .i64 ((rows - used - held : Nat) : Int)]) ∧ Below w.heap.size w w' := by
  obtain ⟨c0, c1, c2, c3⟩ := sp_cells hs
  have hlt : s < w.heap.size := (Array.getElem?_eq_some_iff.1 hs).1
  have hne : ¬ w.heap.size = s := by omega
  have HR : Hid (((rows - used - held : Nat) : Int) = (rows : Int) - (used : Int) - (held : Int)) := by show _ = _; omega
  rw [HR.out]
  have HW : Hid (∀ A, Below w.heap.size w (w.alloc A)) := fun A => Below.alloc (Below.refl _ _) (Nat.le_refl _) _
  have x1 : IntKind.i64.wrap ((rows : Int) - (used : Int)) = (rows : Int) - (used : Int) := by rw [IntKind.wrap_i64]; omega
  have x2 : IntKind.i64.wrap ((rows : Int) - (used : Int) - (held : Int)) = (rows : Int) - (used : Int) - (held : Int) := by rw [IntKind.wrap_i64]; omega
  have d0 : ∀ A, (w.alloc A).cell? ⟨s, 0, none⟩ = some (.int .i64 (rows : Int)) := fun A => ((HW.out A).cell (p := ⟨s, 0, none⟩) hlt).trans c0
  have d1 : ∀ A, (w.alloc A).cell? ⟨s, 1, none⟩ = some (.int .i64 (used : Int)) := fun A => ((HW.out A).cell (p := ⟨s, 1, none⟩) hlt).trans c1
  have d2 : ∀ A, (w.alloc A).cell? ⟨s, 2, none⟩ = some (.int .i64 (held : Int)) := fun A => ((HW.out A).cell (p := ⟨s, 2, none⟩) hlt).trans c2
  clear hs
  go_enter Tryd.func46, Tryd.ntmps46
  go_wp2_with fail
  go_region_held3 (fun w' => w'.cell? ⟨s, 0, none⟩ = some (.int .i64 (rows : Int)) ∧ w'.cell? ⟨s, 1, none⟩ = some (.int .i64 (used : Int)) ∧ w'.cell? ⟨s, 2, none⟩ = some (.int .i64 (held : Int))) (exact ⟨d0 _, d1 _, d2 _⟩) (fail)
  go_wp2_with fail
  refine bodyPost_ret (v := .agg #[.int .i64 (used : Int), .int .i64 (held : Int), .int .i64 ((rows : Int) - (used : Int) - (held : Int))]) ?_ rfl ⟨rfl, Below.drew (HW.out _)⟩
  exact results_cell_row rfl _ _ w.heap.size 57 _ (0, 0) _ rfl (heap_alloc_new w _) rfl rfl rfl
theorem unfrozen {w : World} {s : Nat} {c : Array Value} {t : TypeId} (h : w.heap[s]? = some (.cells c t (0, 0))) (i : Nat) : w.frozen? ⟨s, i, none⟩ = false := by
  simp [World.frozen?, h]
/-- What Take tells. -/
def TakePost (w : World) (s rows n tag : Nat) (l : List Pc) (e : Ending) (w' : World) : Prop :=
  Only s w w' ∧ ((gapL l n 0 rows < 0 ∧ e = .returned (.tuple #[.int .i64 0, .iface 27 (.int .i64 8)]) ∧ SpAt w' s rows l) ∨
    ∃ g : Nat, gapL l n 0 rows = (g : Int) ∧ e = .returned (.tuple #[.int .i64 (g : Int), .nilIface]) ∧ SpAt w' s rows (putL l ⟨g, n, 1, tag, 0⟩))
set_option maxRecDepth 100000 in
set_option maxHeartbeats 4000000 in
theorem take_any (s rows n tag : Nat) (l : List Pc) (w : World) (hs : SpAt w s rows l) (hok : SpOk rows l) (hn : 1 ≤ n) (hn2 : n ≤ 1073741824) (ht : tag < 18446744073709551616) :
    Calls Tryd.prog 39 #[.pointer (some ⟨s, 0, none⟩), .int .i64 (n : Int), .int .u64 (tag : Int)] w (TakePost w s rows n tag l) := by
  have hlt := hs.lt
  have HS := hid_mk hs
  obtain ⟨p, hc, hk⟩ := hs
  have HC := hid_mk hc
  have HK := hid_mk hk
  obtain ⟨used, hused⟩ : ∃ used, used = rowsL isUsed l := ⟨_, rfl⟩
  obtain ⟨held, hheld⟩ : ∃ held, held = rowsL isHeld l := ⟨_, rfl⟩
  have hsum := rowsL_all hok.fits
  rw [← hused, ← hheld] at hc hsum HC
  have HU := hid_mk hused
  have HH := hid_mk hheld
  have h30 := hok.rows30
  have HOK := hid_mk hok
  obtain ⟨c0, c1, c2, c3⟩ := sp_cells hc
  have HCS : Hid (∀ W, Below w.heap.size w W → W.cell? ⟨s, 0, none⟩ = some (.int .i64 (rows : Int)) ∧ W.cell? ⟨s, 1, none⟩ = some (.int .i64 (used : Int)) ∧ W.cell? ⟨s, 2, none⟩ = some (.int .i64 (held : Int)) ∧ W.cell? ⟨s, 3, none⟩ = some (.pointer p)) := fun W hW => sp_cells (by rw [hW.block s hlt]; exact hc)
  have HG : Hid (∀ W, Below w.heap.size w W → Calls Tryd.prog 56 #[.pointer p, .int .i64 (n : Int), .int .i64 0, .int .i64 (rows : Int)] W (GapPost W (gapL l n 0 rows))) := fun W hW => by
    obtain ⟨k, hk⟩ := HK.out.below hW
    exact gap_any k p l n 0 rows W hk HOK.out.fits h30 (by omega)
  have HT : Hid (∀ W g, Below w.heap.size w W → gapL l n 0 rows = ((g : Nat) : Int) → Calls Tryd.prog 57 #[.pointer p, .agg (pcv ⟨g, n, 1, tag, 0⟩)] W (KPost W (putL l ⟨g, n, 1, tag, 0⟩))) := fun W g hW hg => by
    obtain ⟨k, hk⟩ := HK.out.below hW
    exact with_any k p l _ 0 rows W hk HOK.out.fits (sOk_take HOK.out hn ht hg).1.fits h30
  have HLO := hid_mk (gapL_lo (n := n) hok.fits)
  clear hc hk hused hheld hok
  obtain ⟨G, hG⟩ : ∃ G, G = gapL l n 0 rows := ⟨_, rfl⟩
  rw [← hG] at HG HLO
  have HGE := hid_mk hG
  unfold pcv at HT
  have hn1 : ¬ (n : Int) < 1 := by omega
  clear hG
  by_cases hneg : G < 0
  · go_enter Tryd.func39, Tryd.ntmps39
    go_wp2_with fail
    go_region_held3 (fun w' => w'.cell? ⟨s, 0, none⟩ = some (.int .i64 (rows : Int)) ∧ w'.cell? ⟨s, 1, none⟩ = some (.int .i64 (used : Int)) ∧ w'.cell? ⟨s, 2, none⟩ = some (.int .i64 (held : Int)) ∧ w'.cell? ⟨s, 3, none⟩ = some (.pointer p)) (simp [*]) (first
      | (go_at_call 56; refine (HG.out _ (Below.drew (Below.refl _ _))).mono ?_; clear HG; rintro e w3 ⟨rfl, hb3⟩; have HB3 : Hid (Below w.heap.size w w3) := (Below.drew (Below.refl _ _)).trans hb3; obtain ⟨y0, y1, y2, y3⟩ := HCS.out w3 HB3.out; clear hb3))
    go_wp2_with fail
    go_ret2
    exact ⟨Only.of_below HB3.out, .inl ⟨by rw [← HGE.out]; exact hneg, rfl, HS.out.below HB3.out⟩⟩
  · obtain ⟨g, rfl⟩ : ∃ g : Nat, G = (g : Int) := ⟨G.toNat, by omega⟩
    have HTK := hid_mk (sOk_take HOK.out hn ht HGE.out.symm)
    have hgn : g + n ≤ rows := HTK.out.2.2.2
    have hwr : IntKind.i64.wrap ((used : Int) + (n : Int)) = (used : Int) + (n : Int) := by
      rw [IntKind.wrap_i64]
      omega
    go_enter Tryd.func39, Tryd.ntmps39
    go_wp2_with fail
    go_region_held3 (fun w' => w'.cell? ⟨s, 0, none⟩ = some (.int .i64 (rows : Int)) ∧ w'.cell? ⟨s, 1, none⟩ = some (.int .i64 (used : Int)) ∧ w'.cell? ⟨s, 2, none⟩ = some (.int .i64 (held : Int)) ∧ w'.cell? ⟨s, 3, none⟩ = some (.pointer p)) (simp [*]) (first
      | (go_at_call 56; refine (HG.out _ (Below.drew (Below.refl _ _))).mono ?_; clear HG; rintro e w3 ⟨rfl, hb3⟩; have HB3 : Hid (Below w.heap.size w w3) := (Below.drew (Below.refl _ _)).trans hb3; obtain ⟨y0, y1, y2, y3⟩ := HCS.out w3 HB3.out; clear hb3))
    go_wp2_with (first | (go_at_call 57; refine (HT.out _ g HB3.out HGE.out.symm).mono ?_; clear HT; rintro e w4 ⟨t1, rfl, hk1, hb4⟩; have HB4 : Hid (Below w.heap.size w w4) := HB3.out.trans (hb4.mono HB3.out.size); have HK1 := hid_mk hk1; obtain ⟨z0, z1, z2, z3⟩ := HCS.out w4 HB4.out; have HC4 : Hid (w4.heap[s]? = some (.cells (spv rows used held p) 87 (0, 0))) := (HB4.out.block s hlt).trans HC.out; have zf := unfrozen HC4.out; clear hk1 hb4))
    go_ret2
    refine ⟨((Only.of_below HB4.out).setCell 3 _).setCell 1 _, .inr ⟨g, HGE.out.symm, rfl, t1, ?_, HK1.out.only HC4.out (((Only.refl s w4).setCell 3 _).setCell 1 _)⟩⟩
    rw [heap_put (heap_put HC4.out _) _, HTK.out.2.1, HTK.out.2.2.1, ← HU.out, ← HH.out]
    simp [spv]
end Go.Proofs.YtcpdnalmoaojlaaDoor
