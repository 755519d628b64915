import Derived.Test.YtcpdnalmoaojlaaDoorHAs
import Derived.Test.YtcpdnalmoaojlaaDoorHSp19
import Derived.Test.YtcpdnalmoaojlaaDoorHSp20
import Derived.Test.YtcpdnalmoaojlaaDoorHSp22a
import Derived.Laws.ResultCell

/-
  plain's words on a space.
-/
namespace Go.Proofs.YtcpdnalmoaojlaaDoor
open Go.RowKit Go.Shelf
set_option linter.unusedVariables false
set_option linter.unusedSimpArgs false

set_option maxRecDepth 100000 in
theorem made_nil (w : World) : Calls Tryd.prog 21 #[.nilIface, .bool true] w fun e w' => e = .returned (.int .i64 0) ∧ Below w.heap.size w w' := by
  have H := hid_mk (number_nil w)
  go_enter Tryd.func21, Tryd.ntmps21
  go_wp2_with (first | (go_at_call 40; refine H.out.mono ?_; clear H; rintro e w2 ⟨rfl, hb⟩; have HB := hid_mk hb; clear hb))
  go_ret
  exact ⟨rfl, HB.out⟩
set_option maxRecDepth 100000 in
theorem made_errno (c : Int) (w : World) (hg : ErrT w) : Calls Tryd.prog 21 #[.iface 27 (.int .i64 c), .bool false] w fun e w' => e = .returned (.int .i64 c) ∧ Below w.heap.size w w' := by
  have H := hid_mk (number_errno c w hg)
  clear hg
  go_enter Tryd.func21, Tryd.ntmps21
  go_wp2_with (first | (go_at_call 40; refine H.out.mono ?_; clear H; rintro e w2 ⟨rfl, hb⟩; have HB := hid_mk hb; clear hb))
  all_goals go_ret
  all_goals exact ⟨rfl, HB.out⟩
theorem KT.keepc {w : World} {p : Option Addr} {l : List Pc} {b : Nat} {c : Array Value} {t : TypeId} {i : Nat} {u : Value} (h : KT w p l) (hb : w.heap[b]? = some (.cells c t (0, 0))) (ht : t ≠ 118 := by decide) : KT (w.setCell ⟨b, i, none⟩ u) p l := by
  obtain ⟨k, h⟩ := h
  refine ⟨k, KD.keep (fun b' cur e => Below.heap_setCell _ _ _ _ ?_) k p l h⟩
  rintro rfl
  rw [hb] at e
  simp at e
  exact ht e.2
/-- plain's value of a space. -/
def plv (s : Nat) : Value := .agg #[.pointer (some ⟨s, 0, none⟩)]
theorem res_cell1 {fn : Func} {p u : Tmp} {ty : TypeId} (h : fn.results = #[.cell p ty, .tmp u]) (tmps : Array Value) (w : World) (g : Nat) (v : Value)
    (hp : tmps.getD p undef = .pointer (some ⟨g, 0, none⟩)) (hl : (loadVar ty ⟨g, 0, none⟩).run Tryd.prog w = .ok v w) :
    (results fn tmps).run Tryd.prog w = .ok (.tuple #[v, tmps.getD u undef]) w := by
  rw [results_cell_tmp h, hp]
  simp [asAddr, Result.andThen, hl]
set_option maxRecDepth 100000 in
theorem load_pl (w : World) (g : Nat) (v : Value) (h : w.heap[g]? = some (.cells #[v] 26 (0, 0))) : (loadVar 26 ⟨g, 0, none⟩).run Tryd.prog w = .ok (.agg #[v]) w :=
  run_loadVar_row w g 26 26 #[v] (0, 0) _ h rfl rfl rfl
theorem setc_heap {w : World} {s : Nat} {v u : Value} {t : TypeId} (h : w.heap[s]? = some (.cells #[v] t (0, 0))) : (w.setCell ⟨s, 0, none⟩ u).heap[s]? = some (.cells #[u] t (0, 0)) := by
  rw [heap_put h]; simp
set_option maxRecDepth 100000 in
theorem pnew_any (n : Nat) (w : World) (hn : n ≤ 1073741824) : Calls Tryd.prog 6 #[.int .i64 (n : Int)] w fun e w' => ∃ s, e = .returned (.tuple #[plv s, .int .i64 0]) ∧ w.heap.size ≤ s ∧ SpAt w' s n [] ∧ Below w.heap.size w w' := by
  have H1 : Hid (∀ W, Calls Tryd.prog 20 #[.int .i64 (n : Int)] W fun e w' => e = .returned (.tuple #[.pointer (some ⟨W.heap.size, 0, none⟩), .nilIface]) ∧ w' = W.alloc (.cells (spv n 0 0 none) 87)) := fun W => new_any n W hn
  have H2 : Hid (∀ W, Calls Tryd.prog 21 #[.nilIface, .bool true] W fun e w' => e = .returned (.int .i64 0) ∧ Below W.heap.size W w') := fun W => made_nil W
  obtain ⟨V, hV⟩ : ∃ V, V = w.alloc (.cells #[.pointer none] 26) := ⟨_, rfl⟩
  have sV : V.heap.size = w.heap.size + 1 := by rw [hV]; simp
  have bV : Below w.heap.size w V := by rw [hV]; exact Below.alloc (Below.refl _ _) (Nat.le_refl _) _
  have eV : V.heap[w.heap.size]? = some (.cells #[.pointer none] 26 (0, 0)) := by rw [hV]; exact heap_alloc_new _ _
  obtain ⟨X, hX⟩ : ∃ X, X = V.alloc (.cells (spv n 0 0 none) 87) := ⟨_, rfl⟩
  have sX : X.heap.size = w.heap.size + 2 := by rw [hX]; simp [sV]
  have bX : Below V.heap.size V X := by rw [hX]; exact Below.alloc (Below.refl _ _) (Nat.le_refl _) _
  have eX : X.heap[w.heap.size + 1]? = some (.cells (spv n 0 0 none) 87 (0, 0)) := by rw [hX, ← sV]; exact heap_alloc_new _ _
  have HF : Hid (∀ W, Below X.heap.size X W → W.heap[w.heap.size]? = some (.cells #[.pointer none] 26 (0, 0)) ∧ SpAt W (w.heap.size + 1) n [] ∧ Below w.heap.size w W) := by
    intro W hW
    refine ⟨(hW.block _ (by omega)).trans ((bX.block _ (by omega)).trans eV), ⟨none, (hW.block _ (by omega)).trans eX, KT.nil _⟩, bV.trans ((bX.mono (by omega)).trans (hW.mono (by omega)))⟩
  have HX := hid_mk hX
  have HSV := hid_mk sV
  clear sV bV eV sX bX eX hX
  go_enter Tryd.func6, Tryd.ntmps6
  go_wp2_with fail
  rw [← hV]
  clear hV
  go_wp2_with (first | (go_at_call 20; refine (H1.out _).mono ?_; clear H1; rintro e w2 ⟨rfl, hw2⟩; rw [hw2, ← HX.out, HSV.out]; clear hw2) | (go_at_call 21; refine (H2.out _).mono ?_; clear H2; rintro e w3 ⟨rfl, hb⟩; have HB := hid_mk (HF.out _ hb); have f0 : w3.cell? ⟨w.heap.size, 0, none⟩ = some (.pointer none) := (by simp [World.cell?, HB.out.1]); have ff := unfrozen HB.out.1 0; clear hb))
  obtain ⟨h1, h2, h3⟩ := HB.out
  refine bodyPost_ret (res_cell1 rfl _ _ w.heap.size _ rfl (load_pl _ _ _ (setc_heap h1))) rfl ⟨w.heap.size + 1, rfl, by omega, ?_, h3.setCell (p := ⟨w.heap.size, 0, none⟩) (Nat.le_refl _) _⟩
  obtain ⟨p, h4, h5⟩ := h2
  exact ⟨p, (Below.heap_setCell _ _ _ _ (by simp)).trans h4, KT.keepc h5 h1⟩
end Go.Proofs.YtcpdnalmoaojlaaDoor
