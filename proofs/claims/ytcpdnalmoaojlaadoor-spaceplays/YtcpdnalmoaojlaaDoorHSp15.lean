import Derived.Test.YtcpdnalmoaojlaaDoorHSp3
import Derived.Test.YtcpdnalmoaojlaaDoorHSp14
import Derived.Test.YtcpdnalmoaojlaaDoorHLent
import Derived.Laws.Rows

/-
  A space in memory; New, Take, Rows.
-/
namespace Go.Proofs.YtcpdnalmoaojlaaDoor
open Go.ChangeShapes Go.WideShapes Go.ChangeAt Go.RowKit
set_option linter.unusedVariables false
set_option linter.unusedSimpArgs false

/-- Nothing that lay in memory is another one, but one block. -/
structure Only (s : Nat) (w w' : World) : Prop where
  os : w'.os = w.os
  tape : w'.tape = w.tape
  output : w'.output = w.output
  size : w.heap.size ≤ w'.heap.size
  block : ∀ k, k < w.heap.size → k ≠ s → w'.heap[k]? = w.heap[k]?
theorem Only.refl (s : Nat) (w : World) : Only s w w := ⟨rfl, rfl, rfl, Nat.le_refl _, fun _ _ _ => rfl⟩
theorem Only.trans {s : Nat} {a b c : World} (h : Only s a b) (k : Only s b c) : Only s a c :=
  ⟨k.os.trans h.os, k.tape.trans h.tape, k.output.trans h.output, Nat.le_trans h.size k.size, fun i hi hs => (k.block i (Nat.lt_of_lt_of_le hi h.size) hs).trans (h.block i hi hs)⟩
theorem Only.of_below {s : Nat} {w w' : World} (h : Below w.heap.size w w') : Only s w w' := ⟨h.os, h.tape, h.output, h.size, fun k hk _ => h.block k hk⟩
theorem Only.below {s B : Nat} {w w' : World} (h : Only s w w') (h1 : B ≤ s) (h2 : B ≤ w.heap.size) : Below B w w' := ⟨h.os, h.tape, h.output, h.size, fun k hk => h.block k (by omega) (by omega)⟩
theorem Only.setCell {s : Nat} {a w : World} (h : Only s a w) (i : Nat) (u : Value) : Only s a (w.setCell ⟨s, i, none⟩ u) :=
  h.trans ⟨rfl, rfl, rfl, by simp [World.setCell], fun k hk hs => Below.heap_setCell _ _ _ _ hs⟩
theorem Only.cell {s : Nat} {w w' : World} (h : Only s w w') {p : Addr} (hp : p.block < w.heap.size) (hs : p.block ≠ s) : w'.cell? p = w.cell? p := World.cell?_of_block (w := w) (h.block p.block hp hs)
def spv (rows used held : Nat) (p : Option Addr) : Array Value := #[.int .i64 (rows : Int), .int .i64 (used : Int), .int .i64 (held : Int), .pointer p]
theorem KT.only {s : Nat} {w w' : World} {p : Option Addr} {l : List Pc} {c : Array Value} (h : KT w p l) (hs : w.heap[s]? = some (.cells c 87 (0, 0))) (ho : Only s w w') : KT w' p l := by
  obtain ⟨k, h⟩ := h
  refine ⟨k, KD.keep (fun b cur e => ho.block b (Array.getElem?_eq_some_iff.1 e).1 ?_) k p l h⟩
  rintro rfl
  rw [hs] at e
  simp at e
/-- A space in memory. -/
def SpAt (w : World) (s rows : Nat) (l : List Pc) : Prop := ∃ p, w.heap[s]? = some (.cells (spv rows (rowsL isUsed l) (rowsL isHeld l) p) 87 (0, 0)) ∧ KT w p l
structure SpOk (rows : Nat) (l : List Pc) : Prop where
  fits : Fits 0 l rows
  rows30 : rows ≤ 1073741824
  ok : ∀ p ∈ l, p.Ok
theorem SpAt.lt {w : World} {s rows : Nat} {l : List Pc} (h : SpAt w s rows l) : s < w.heap.size := by
  obtain ⟨p, h, _⟩ := h
  exact (Array.getElem?_eq_some_iff.1 h).1
theorem SpAt.below {w w' : World} {s rows : Nat} {l : List Pc} (h : SpAt w s rows l) (hb : Below w.heap.size w w') : SpAt w' s rows l := by
  have hlt := h.lt
  obtain ⟨p, h, k⟩ := h
  exact ⟨p, by rw [hb.block s hlt]; exact h, k.below hb⟩
theorem sp_cells {w : World} {s rows used held : Nat} {p : Option Addr} (h : w.heap[s]? = some (.cells (spv rows used held p) 87 (0, 0))) :
    w.cell? ⟨s, 0, none⟩ = some (.int .i64 (rows : Int)) ∧ w.cell? ⟨s, 1, none⟩ = some (.int .i64 (used : Int)) ∧ w.cell? ⟨s, 2, none⟩ = some (.int .i64 (held : Int)) ∧ w.cell? ⟨s, 3, none⟩ = some (.pointer p) := by
  simp [World.cell?, h, spv]
theorem heap_put {w : World} {s i : Nat} {c : Array Value} {t : TypeId} {fr : Nat × Nat} (h : w.heap[s]? = some (.cells c t fr)) (u : Value) : (w.setCell ⟨s, i, none⟩ u).heap[s]? = some (.cells (c.setIfInBounds i u) t fr) := by
  simp only [World.setCell, Array.getElem?_modify, h]
  simp
theorem ok_put {l : List Pc} {x : Pc} {a b : Nat} (h : ∀ p ∈ l, p.Ok) (hx : x.Ok) : ∀ p ∈ putL l x, p.Ok := by
  induction l with
  | nil => intro p hp; simp [putL] at hp; exact hp ▸ hx
  | cons y l ih =>
    intro p hp
    simp only [putL] at hp
    have ih' := ih (fun q hq => h q (List.mem_cons_of_mem _ hq))
    have hy := h y List.mem_cons_self
    have hl : ∀ q ∈ l, q.Ok := fun q hq => h q (List.mem_cons_of_mem _ hq)
    split at hp
    · rcases List.mem_cons.1 hp with rfl | hp
      · exact hx
      · rcases List.mem_cons.1 hp with rfl | hp
        · exact hy
        · exact hl p hp
    · split at hp
      · rcases List.mem_cons.1 hp with rfl | hp
        · exact hy
        · exact ih' p hp
      · rcases List.mem_cons.1 hp with rfl | hp
        · exact hx
        · exact hl p hp
theorem sOk_take {rows n tag : Nat} {l : List Pc} {g : Nat} (h : SpOk rows l) (hn : 1 ≤ n) (ht : tag < 18446744073709551616) (hg : gapL l n 0 rows = (g : Int)) : SpOk rows (putL l ⟨g, n, 1, tag, 0⟩) ∧ rowsL isUsed (putL l ⟨g, n, 1, tag, 0⟩) = rowsL isUsed l + n ∧ rowsL isHeld (putL l ⟨g, n, 1, tag, 0⟩) = rowsL isHeld l ∧ g + n ≤ rows := by
  obtain ⟨m, k, g', rfl, hg', f1, f2⟩ := gapL_ok hn h.fits (by omega)
  obtain rfl : g' = g := by omega
  have e : putL (m ++ k) ⟨g', n, 1, tag, 0⟩ = m ++ ⟨g', n, 1, tag, 0⟩ :: k := putL_new (a := 0) (b := rows) f1 f2 hn
  have hok : (⟨g', n, 1, tag, 0⟩ : Pc).Ok := ⟨fun _ => Nat.le_refl _, by show 1 ≤ 65535; omega, ht, by show 0 ≤ 2; omega⟩
  refine ⟨⟨?_, h.rows30, ok_put (a := 0) (b := 0) h.ok hok⟩, ?_, ?_, f2.le⟩
  · rw [e]; exact fits_cut.2 ⟨f1, hn, f2⟩
  · rw [e, rowsL_append, rowsL_append]; simp [rowsL, isUsed]; omega
  · rw [e, rowsL_append, rowsL_append]; simp [rowsL, isHeld]
end Go.Proofs.YtcpdnalmoaojlaaDoor

/-
  New, Take, Rows.
-/
namespace Go.Proofs.YtcpdnalmoaojlaaDoor
open Go.ChangeShapes Go.WideShapes Go.ChangeAt Go.RowKit
set_option linter.unusedVariables false
set_option linter.unusedSimpArgs false

set_option maxRecDepth 100000 in
theorem new_any (n : Nat) (w : World) (hn : n ≤ 1073741824) : Calls Tryd.prog 20 #[.int .i64 (n : Int)] w fun e w' => e = .returned (.tuple #[.pointer (some ⟨w.heap.size, 0, none⟩), .nilIface]) ∧ w' = w.alloc (.cells (spv n 0 0 none) 87) := by
  unfold spv
  have h0 : ¬ (n : Int) < 0 := by omega
  have h1 : ¬ (1073741824 : Int) < (n : Int) := by omega
  go_enter Tryd.func20, Tryd.ntmps20
  go_wp2
  go_ret2
  exact ⟨rfl, rfl⟩
set_option maxRecDepth 100000 in
set_option maxHeartbeats 4000000 in
theorem rows_any (rows used held s : Nat) (p : Option Addr) (w : World) (hs : w.heap[s]? = some (.cells (spv rows used held p) 87 (0, 0))) (hr : rows ≤ 1073741824) (hu : used + held ≤ rows) : Calls Tryd.prog 46 #[.pointer (some ⟨s, 0, none⟩)] w fun e w' => e = .returned (.agg #[.int .i64 (used : Int), .int .i64 (held : Int), .int .i64 ((rows - used - held : Nat) : Int)]) ∧ Below w.heap.size w w' := by
  obtain ⟨c0, c1, c2, c3⟩ := sp_cells hs
  have hlt : s < w.heap.size := (Array.getElem?_eq_some_iff.1 hs).1
  have hne : ¬ w.heap.size = s := by omega
  have HR : Hid (((rows - used - held : Nat) : Int) = (rows : Int) - (used : Int) - (held : Int)) := by show _ = _; omega
  rw [HR.out]
  have HW : Hid (∀ A, Below w.heap.size w (w.alloc A)) := fun A => Below.alloc (Below.refl _ _) (Nat.le_refl _) _
  have x1 : IntKind.i64.wrap ((rows : Int) - (used : Int)) = (rows : Int) - (used : Int) := by rw [IntKind.wrap_i64]; omega
  have x2 : IntKind.i64.wrap ((rows : Int) - (used : Int) - (held : Int)) = (rows : Int) - (used : Int) - (held : Int) := by rw [IntKind.wrap_i64]; omega
  have d0 : ∀ A, (w.alloc A).cell? ⟨s, 0, none⟩ = some (.int .i64 (rows : Int)) := fun A => ((HW.out A).cell (p := ⟨s, 0, none⟩) hlt).trans c0
  have d1 : ∀ A, (w.alloc A).cell? ⟨s, 1, none⟩ = some (.int .i64 (used : Int)) := fun A => ((HW.out A).cell (p := ⟨s, 1, none⟩) hlt).trans c1
  have d2 : ∀ A, (w.alloc A).cell? ⟨s, 2, none⟩ = some (.int .i64 (held : Int)) := fun A => ((HW.out A).cell (p := ⟨s, 2, none⟩) hlt).trans c2
  clear hs
  go_enter Tryd.func46, Tryd.ntmps46
  go_wp2_with fail
  go_region_held3 (fun w' => w'.cell? ⟨s, 0, none⟩ = some (.int .i64 (rows : Int)) ∧ w'.cell? ⟨s, 1, none⟩ = some (.int .i64 (used : Int)) ∧ w'.cell? ⟨s, 2, none⟩ = some (.int .i64 (held : Int))) (exact ⟨d0 _, d1 _, d2 _⟩) (fail)
  go_wp2_with fail
  refine bodyPost_ret (v := .agg #[.int .i64 (used : Int), .int .i64 (held : Int), .int .i64 ((rows : Int) - (used : Int) - (held : Int))]) ?_ rfl ⟨rfl, Below.drew (HW.out _)⟩
  exact results_cell_row rfl _ _ w.heap.size 57 _ (0, 0) _ rfl (heap_alloc_new w _) rfl rfl rfl
theorem unfrozen {w : World} {s : Nat} {c : Array Value} {t : TypeId} (h : w.heap[s]? = some (.cells c t (0, 0))) (i : Nat) : w.frozen? ⟨s, i, none⟩ = false := by
  simp [World.frozen?, h]
/-- What Take tells. -/
def TakePost (w : World) (s rows n tag : Nat) (l : List Pc) (e : Ending) (w' : World) : Prop :=
  Only s w w' ∧ ((gapL l n 0 rows < 0 ∧ e = .returned (.tuple #[.int .i64 0, .iface 27 (.int .i64 8)]) ∧ SpAt w' s rows l) ∨
    ∃ g : Nat, gapL l n 0 rows = (g : Int) ∧ e = .returned (.tuple #[.int .i64 (g : Int), .nilIface]) ∧ SpAt w' s rows (putL l ⟨g, n, 1, tag, 0⟩))
set_option maxRecDepth 100000 in
set_option maxHeartbeats 4000000 in
theorem take_any (s rows n tag : Nat) (l : List Pc) (w : World) (hs : SpAt w s rows l) (hok : SpOk rows l) (hn : 1 ≤ n) (hn2 : n ≤ 9223372036854775807) (ht : tag < 18446744073709551616) :
    Calls Tryd.prog 39 #[.pointer (some ⟨s, 0, none⟩), .int .i64 (n : Int), .int .u64 (tag : Int)] w (TakePost w s rows n tag l) := by
  have hlt := hs.lt
  have HS := hid_mk hs
  obtain ⟨p, hc, hk⟩ := hs
  have HC := hid_mk hc
  have HK := hid_mk hk
  obtain ⟨used, hused⟩ : ∃ used, used = rowsL isUsed l := ⟨_, rfl⟩
  obtain ⟨held, hheld⟩ : ∃ held, held = rowsL isHeld l := ⟨_, rfl⟩
  have hsum := rowsL_all hok.fits
  rw [← hused, ← hheld] at hc hsum HC
  have HU := hid_mk hused
  have HH := hid_mk hheld
  have h30 := hok.rows30
  have HOK := hid_mk hok
  obtain ⟨c0, c1, c2, c3⟩ := sp_cells hc
  have HCS : Hid (∀ W, Below w.heap.size w W → W.cell? ⟨s, 0, none⟩ = some (.int .i64 (rows : Int)) ∧ W.cell? ⟨s, 1, none⟩ = some (.int .i64 (used : Int)) ∧ W.cell? ⟨s, 2, none⟩ = some (.int .i64 (held : Int)) ∧ W.cell? ⟨s, 3, none⟩ = some (.pointer p)) := fun W hW => sp_cells (by rw [hW.block s hlt]; exact hc)
  have HG : Hid (∀ W, Below w.heap.size w W → Calls Tryd.prog 56 #[.pointer p, .int .i64 (n : Int), .int .i64 0, .int .i64 (rows : Int)] W (GapPost W (gapL l n 0 rows))) := fun W hW => by
    obtain ⟨k, hk⟩ := HK.out.below hW
    exact gap_any k p l n 0 rows W hk HOK.out.fits h30 (by omega)
  have HT : Hid (∀ W g, Below w.heap.size w W → gapL l n 0 rows = ((g : Nat) : Int) → Calls Tryd.prog 57 #[.pointer p, .agg (pcv ⟨g, n, 1, tag, 0⟩)] W (KPost W (putL l ⟨g, n, 1, tag, 0⟩))) := fun W g hW hg => by
    obtain ⟨k, hk⟩ := HK.out.below hW
    exact with_any k p l _ 0 rows W hk HOK.out.fits (sOk_take HOK.out hn ht hg).1.fits h30
  have HLO := hid_mk (gapL_lo (n := n) hok.fits)
  clear hc hk hused hheld hok
  obtain ⟨G, hG⟩ : ∃ G, G = gapL l n 0 rows := ⟨_, rfl⟩
  rw [← hG] at HG HLO
  have HGE := hid_mk hG
  unfold pcv at HT
  have hn1 : ¬ (n : Int) < 1 := by omega
  clear hG
  by_cases hneg : G < 0
  · go_enter Tryd.func39, Tryd.ntmps39
    go_wp2_with fail
    go_region_held3 (fun w' => w'.cell? ⟨s, 0, none⟩ = some (.int .i64 (rows : Int)) ∧ w'.cell? ⟨s, 1, none⟩ = some (.int .i64 (used : Int)) ∧ w'.cell? ⟨s, 2, none⟩ = some (.int .i64 (held : Int)) ∧ w'.cell? ⟨s, 3, none⟩ = some (.pointer p)) (simp [*]) (first
      | (go_at_call 56; refine (HG.out _ (Below.drew (Below.refl _ _))).mono ?_; clear HG; rintro e w3 ⟨rfl, hb3⟩; have HB3 : Hid (Below w.heap.size w w3) := (Below.drew (Below.refl _ _)).trans hb3; obtain ⟨y0, y1, y2, y3⟩ := HCS.out w3 HB3.out; clear hb3))
    go_wp2_with fail
    go_ret2
    exact ⟨Only.of_below HB3.out, .inl ⟨by rw [← HGE.out]; exact hneg, rfl, HS.out.below HB3.out⟩⟩
  · obtain ⟨g, rfl⟩ : ∃ g : Nat, G = (g : Int) := ⟨G.toNat, by omega⟩
    have HTK := hid_mk (sOk_take HOK.out hn ht HGE.out.symm)
    have hgn : g + n ≤ rows := HTK.out.2.2.2
    have hwr : IntKind.i64.wrap ((used : Int) + (n : Int)) = (used : Int) + (n : Int) := by
      rw [IntKind.wrap_i64]
      omega
    go_enter Tryd.func39, Tryd.ntmps39
    go_wp2_with fail
    go_region_held3 (fun w' => w'.cell? ⟨s, 0, none⟩ = some (.int .i64 (rows : Int)) ∧ w'.cell? ⟨s, 1, none⟩ = some (.int .i64 (used : Int)) ∧ w'.cell? ⟨s, 2, none⟩ = some (.int .i64 (held : Int)) ∧ w'.cell? ⟨s, 3, none⟩ = some (.pointer p)) (simp [*]) (first
      | (go_at_call 56; refine (HG.out _ (Below.drew (Below.refl _ _))).mono ?_; clear HG; rintro e w3 ⟨rfl, hb3⟩; have HB3 : Hid (Below w.heap.size w w3) := (Below.drew (Below.refl _ _)).trans hb3; obtain ⟨y0, y1, y2, y3⟩ := HCS.out w3 HB3.out; clear hb3))
    go_wp2_with (first | (go_at_call 57; refine (HT.out _ g HB3.out HGE.out.symm).mono ?_; clear HT; rintro e w4 ⟨t1, rfl, hk1, hb4⟩; have HB4 : Hid (Below w.heap.size w w4) := HB3.out.trans (hb4.mono HB3.out.size); have HK1 := hid_mk hk1; obtain ⟨z0, z1, z2, z3⟩ := HCS.out w4 HB4.out; have HC4 : Hid (w4.heap[s]? = some (.cells (spv rows used held p) 87 (0, 0))) := (HB4.out.block s hlt).trans HC.out; have zf := unfrozen HC4.out; clear hk1 hb4))
    go_ret2
    refine ⟨((Only.of_below HB4.out).setCell 3 _).setCell 1 _, .inr ⟨g, HGE.out.symm, rfl, t1, ?_, HK1.out.only HC4.out (((Only.refl s w4).setCell 3 _).setCell 1 _)⟩⟩
    rw [heap_put (heap_put HC4.out _) _, HTK.out.2.1, HTK.out.2.2.1, ← HU.out, ← HH.out]
    simp [spv]
end Go.Proofs.YtcpdnalmoaojlaaDoor
