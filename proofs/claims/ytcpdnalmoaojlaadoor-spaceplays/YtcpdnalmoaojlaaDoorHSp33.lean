import Derived.Test.YtcpdnalmoaojlaaDoorHSp32
import Derived.Test.YtcpdnalmoaojlaaDoorHSp15
import Derived.Laws.ResultCell

/-
  run: the piece of a row.
-/
namespace Go.Proofs.YtcpdnalmoaojlaaDoor
open Go.ChangeShapes Go.WideShapes Go.ChangeAt Go.RowKit
set_option linter.unusedVariables false
set_option linter.unusedSimpArgs false

theorem res_cellT {fn : Func} {p u : Tmp} {ty : TypeId} (h : fn.results = #[.cell p ty, .tmp u]) (tmps : Array Value) (w : World) (g : Nat) (v : Value)
    (hp : tmps.getD p undef = .pointer (some ⟨g, 0, none⟩)) (hl : (loadVar ty ⟨g, 0, none⟩).run Tryd.prog w = .ok v w) :
    (results fn tmps).run Tryd.prog w = .ok (.tuple #[v, tmps.getD u undef]) w := by
  rw [results_cell_tmp h, hp]
  simp [asAddr, Result.andThen, hl]
set_option maxRecDepth 100000 in
theorem load_pc (w : World) (g : Nat) (p : Pc) (h : w.heap[g]? = some (.cells (pcv p) 103 (0, 0))) : (loadVar 103 ⟨g, 0, none⟩).run Tryd.prog w = .ok (.agg (pcv p)) w :=
  run_loadVar_row w g 103 103 (pcv p) (0, 0) _ h rfl rfl rfl
def pc0 : Pc := ⟨0, 0, 0, 0, 0⟩
/-- What run tells. -/
def RunPost (w : World) (l : List Pc) (at' : Int) (e : Ending) (w' : World) : Prop :=
  Below w.heap.size w w' ∧ ((∃ q ∈ l, (q.at' : Int) = at' ∧ q.st ≠ 2 ∧ e = .returned (.tuple #[.agg (pcv q), .nilIface])) ∨
    ((∀ q ∈ l, (q.at' : Int) = at' → q.st = 2) ∧ e = .returned (.tuple #[.agg (pcv pc0), .iface 27 (.int .i64 3)])))
set_option maxRecDepth 100000 in
set_option maxHeartbeats 4000000 in
theorem run_any (s rows : Nat) (l : List Pc) (at' : Int) (w : World) (hs : SpAt w s rows l) (hok : SpOk rows l) : Calls Tryd.prog 59 #[.pointer (some ⟨s, 0, none⟩), .int .i64 at'] w (RunPost w l at') := by
  have hlt := hs.lt
  obtain ⟨p, hc, hk⟩ := hs
  obtain ⟨V, hV⟩ : ∃ V, V = w.alloc (.cells #[.int .i64 0, .int .i64 0, .int .i64 0, .int .u64 0, .int .u8 0] 103) := ⟨_, rfl⟩
  have bV : Below w.heap.size w V := by rw [hV]; exact Below.alloc (Below.refl _ _) (Nat.le_refl _) _
  have eV : V.heap[w.heap.size]? = some (.cells (pcv pc0) 103 (0, 0)) := by rw [hV]; exact heap_alloc_new _ _
  have c3a : ∀ A, (w.alloc A).cell? ⟨s, 3, none⟩ = some (.pointer p) := fun A => (sp_cells ((Below.heap_alloc w A s hlt).trans hc)).2.2.2
  have c3 : V.cell? ⟨s, 3, none⟩ = some (.pointer p) := (sp_cells ((bV.block s hlt).trans hc)).2.2.2
  obtain ⟨k, hkd⟩ := hk
  obtain ⟨r, hft, hor⟩ := KD.ft at' k p l 0 rows hkd hok.fits
  have HF : Hid (Calls Tryd.prog 72 #[.pointer p, .int .i64 at'] V fun e w' => e = .returned (.pointer r) ∧ w' = V) := find_to k p r at' V (FT.below bV k _ hft)
  have HOK := hid_mk hok
  have b0 : V.cell? ⟨w.heap.size, 0, none⟩ = some (.int .i64 0) := by simp [World.cell?, eV, pcv, pc0]
  have b1 : V.cell? ⟨w.heap.size, 1, none⟩ = some (.int .i64 0) := by simp [World.cell?, eV, pcv, pc0]
  have b2 : V.cell? ⟨w.heap.size, 2, none⟩ = some (.int .i64 0) := by simp [World.cell?, eV, pcv, pc0]
  have b3 : V.cell? ⟨w.heap.size, 3, none⟩ = some (.int .u64 0) := by simp [World.cell?, eV, pcv, pc0]
  have b4 : V.cell? ⟨w.heap.size, 4, none⟩ = some (.int .u8 0) := by simp [World.cell?, eV, pcv, pc0]
  have bf := unfrozen eV
  have HB := hid_mk bV
  have HE := hid_mk eV
  have FIN : Hid (∀ x : Pc, ((((((V.setCell ⟨w.heap.size, 0, none⟩ (.int .i64 (x.at' : Int))).setCell ⟨w.heap.size, 1, none⟩ (.int .i64 (x.n : Int))).setCell ⟨w.heap.size, 2, none⟩ (.int .i64 (x.count : Int))).setCell ⟨w.heap.size, 3, none⟩ (.int .u64 (x.tag : Int))).setCell ⟨w.heap.size, 4, none⟩ (.int .u8 (x.st : Int))).heap[w.heap.size]? = some (.cells (pcv x) 103 (0, 0))) ∧ Below w.heap.size w (((((V.setCell ⟨w.heap.size, 0, none⟩ (.int .i64 (x.at' : Int))).setCell ⟨w.heap.size, 1, none⟩ (.int .i64 (x.n : Int))).setCell ⟨w.heap.size, 2, none⟩ (.int .i64 (x.count : Int))).setCell ⟨w.heap.size, 3, none⟩ (.int .u64 (x.tag : Int))).setCell ⟨w.heap.size, 4, none⟩ (.int .u8 (x.st : Int)))) := by
    intro x
    refine ⟨?_, ((((bV.setCell (p := ⟨w.heap.size, 0, none⟩) (Nat.le_refl _) _).setCell (p := ⟨w.heap.size, 1, none⟩) (Nat.le_refl _) _).setCell (p := ⟨w.heap.size, 2, none⟩) (Nat.le_refl _) _).setCell (p := ⟨w.heap.size, 3, none⟩) (Nat.le_refl _) _).setCell (p := ⟨w.heap.size, 4, none⟩) (Nat.le_refl _) _⟩
    rw [heap_put (heap_put (heap_put (heap_put (heap_put eV _) _) _) _) _]
    simp [pcv, pc0]
  have HKB : Hid (∀ b, b < w.heap.size → ∀ i, V.cell? ⟨b, i, none⟩ = w.cell? ⟨b, i, none⟩) := fun b hb i => bV.cell (p := ⟨b, i, none⟩) hb
  clear hc hkd hft hok bV eV
  rcases hor with ⟨q, hq, he, b, pl, pr, d, f, e', wd, rfl, hb⟩ | ⟨hno, rfl⟩
  · obtain ⟨k0, k1, k2, k3, k4, _⟩ := kn_cells hb
    have hbl := (Array.getElem?_eq_some_iff.1 hb).1
    have d0 := (HKB.out b hbl 0).trans k0
    have d1 := (HKB.out b hbl 1).trans k1
    have d2 := (HKB.out b hbl 2).trans k2
    have d3 := (HKB.out b hbl 3).trans k3
    have d4 := (HKB.out b hbl 4).trans k4
    have HQ := hid_mk hq
    have HEE := hid_mk he
    clear hq he hb k0 k1 k2 k3 k4
    by_cases hst : q.st = 2
    · have hst' : (q.st : Int) = 2 := by omega
      have HST := hid_mk hst
      clear hst
      go_enter Tryd.func59, Tryd.ntmps59
      go_wp2_with fail
      rw [← hV]
      clear hV
      go_wp2_with (first | (go_at_call 72; refine HF.out.mono ?_; clear HF; rintro e w2 ⟨rfl, hw2⟩; rw [hw2]; clear hw2))
      obtain ⟨h1, h2⟩ := FIN.out pc0
      refine bodyPost_ret (res_cellT rfl _ _ w.heap.size _ rfl (load_pc _ _ pc0 h1)) rfl ⟨h2, .inr ⟨fun q' hq' e2 => ?_, rfl⟩⟩
      rw [fits_inj HOK.out.fits q' hq' q HQ.out (by have := HEE.out; omega)]
      exact HST.out
    · have hst' : ¬ (q.st : Int) = 2 := by omega
      have HST := hid_mk hst
      go_enter Tryd.func59, Tryd.ntmps59
      go_wp2_with fail
      rw [← hV]
      clear hV
      go_wp2_with (first | (go_at_call 72; refine HF.out.mono ?_; clear HF; rintro e w2 ⟨rfl, hw2⟩; rw [hw2]; clear hw2))
      obtain ⟨h1, h2⟩ := FIN.out q
      exact bodyPost_ret (res_cellT rfl _ _ w.heap.size _ rfl (load_pc _ _ q h1)) rfl ⟨h2, .inl ⟨q, HQ.out, HEE.out, HST.out, rfl⟩⟩
  · have HNO := hid_mk hno
    clear hno
    go_enter Tryd.func59, Tryd.ntmps59
    go_wp2_with fail
    rw [← hV]
    clear hV
    go_wp2_with (first | (go_at_call 72; refine HF.out.mono ?_; clear HF; rintro e w2 ⟨rfl, hw2⟩; rw [hw2]; clear hw2))
    obtain ⟨h1, h2⟩ := FIN.out pc0
    exact bodyPost_ret (res_cellT rfl _ _ w.heap.size _ rfl (load_pc _ _ pc0 h1)) rfl ⟨h2, .inr ⟨fun q' hq' e2 => absurd e2 (HNO.out q' hq'), rfl⟩⟩
end Go.Proofs.YtcpdnalmoaojlaaDoor
