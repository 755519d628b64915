import Derived.Test.YtcpdnalmoaojlaaDoorGSp4
import Derived.Test.YtcpdnalmoaojlaaDoorGSp14
import Derived.Test.YtcpdnalmoaojlaaDoorGKl
import Derived.Laws.Rows

/-
  A space in memory; New, Take, Rows.
-/
namespace Go.Proofs.YtcpdnalmoaojlaaDoor
open Go.ChangeShapes Go.WideShapes Go.ChangeAt Go.RowKit
set_option linter.unusedVariables false
set_option linter.unusedSimpArgs false

/-- Nothing that lay in memory is another one, but one block. -/
structure Only (s : Nat) (w w' : World) : Prop where
  os : w'.os = w.os
  tape : w'.tape = w.tape
  output : w'.output = w.output
  size : w.heap.size ≤ w'.heap.size
  block : ∀ k, k < w.heap.size → k ≠ s → w'.heap[k]? = w.heap[k]?
theorem Only.refl (s : Nat) (w : World) : Only s w w := ⟨rfl, rfl, rfl, Nat.le_refl _, fun _ _ _ => rfl⟩
theorem Only.trans {s : Nat} {a b c : World} (h : Only s a b) (k : Only s b c) : Only s a c :=
  ⟨k.os.trans h.os, k.tape.trans h.tape, k.output.trans h.output, Nat.le_trans h.size k.size, fun i hi hs => (k.block i (Nat.lt_of_lt_of_le hi h.size) hs).trans (h.block i hi hs)⟩
theorem Only.of_below {s : Nat} {w w' : World} (h : Below w.heap.size w w') : Only s w w' := ⟨h.os, h.tape, h.output, h.size, fun k hk _ => h.block k hk⟩
theorem Only.below {s B : Nat} {w w' : World} (h : Only s w w') (h1 : B ≤ s) (h2 : B ≤ w.heap.size) : Below B w w' := ⟨h.os, h.tape, h.output, h.size, fun k hk => h.block k (by omega) (by omega)⟩
theorem Only.setCell {s : Nat} {a w : World} (h : Only s a w) (i : Nat) (u : Value) : Only s a (w.setCell ⟨s, i, none⟩ u) :=
  h.trans ⟨rfl, rfl, rfl, by simp [World.setCell], fun k hk hs => Below.heap_setCell _ _ _ _ hs⟩
theorem Only.cell {s : Nat} {w w' : World} (h : Only s w w') {p : Addr} (hp : p.block < w.heap.size) (hs : p.block ≠ s) : w'.cell? p = w.cell? p := World.cell?_of_block (w := w) (h.block p.block hp hs)
def spv (rows used held : Nat) (p : Option Addr) : Array Value := #[.int .i64 (rows : Int), .int .i64 (used : Int), .int .i64 (held : Int), .pointer p]
theorem KT.only {s : Nat} {w w' : World} {p : Option Addr} {l : List Pc} {c : Array Value} (h : KT w p l) (hs : w.heap[s]? = some (.cells c 87 (0, 0))) (ho : Only s w w') : KT w' p l := by
  obtain ⟨k, h⟩ := h
  refine ⟨k, KD.keep (fun b cur e => ho.block b (Array.getElem?_eq_some_iff.1 e).1 ?_) k p l h⟩
  rintro rfl
  rw [hs] at e
  simp at e
/-- A space in memory. -/
def SpAt (w : World) (s rows : Nat) (l : List Pc) : Prop := ∃ p, w.heap[s]? = some (.cells (spv rows (rowsL isUsed l) (rowsL isHeld l) p) 87 (0, 0)) ∧ KT w p l
structure SpOk (rows : Nat) (l : List Pc) : Prop where
  fits : Fits 0 l rows
  rows30 : rows ≤ 1073741824
  ok : ∀ p ∈ l, p.Ok
theorem SpAt.lt {w : World} {s rows : Nat} {l : List Pc} (h : SpAt w s rows l) : s < w.heap.size := by
  obtain ⟨p, h, _⟩ := h
  exact (Array.getElem?_eq_some_iff.1 h).1
theorem SpAt.below {w w' : World} {s rows : Nat} {l : List Pc} (h : SpAt w s rows l) (hb : Below w.heap.size w w') : SpAt w' s rows l := by
  have hlt := h.lt
  obtain ⟨p, h, k⟩ := h
  exact ⟨p, by rw [hb.block s hlt]; exact h, k.below hb⟩
theorem sp_cells {w : World} {s rows used held : Nat} {p : Option Addr} (h : w.heap[s]? = some (.cells (spv rows used held p) 87 (0, 0))) :
    w.cell? ⟨s, 0, none⟩ = some (.int .i64 (rows : Int)) ∧ w.cell? ⟨s, 1, none⟩ = some (.int .i64 (used : Int)) ∧ w.cell? ⟨s, 2, none⟩ = some (.int .i64 (held : Int)) ∧ w.cell? ⟨s, 3, none⟩ = some (.pointer p) := by
  simp [World.cell?, h, spv]
theorem heap_put {w : World} {s i : Nat} {c : Array Value} {t : TypeId} {fr : Nat × Nat} (h : w.heap[s]? = some (.cells c t fr)) (u : Value) : (w.setCell ⟨s, i, none⟩ u).heap[s]? = some (.cells (c.setIfInBounds i u) t fr) := by
  simp only [World.setCell, Array.getElem?_modify, h]
  simp
theorem ok_put {l : List Pc} {x : Pc} {a b : Nat} (h : ∀ p ∈ l, p.Ok) (hx : x.Ok) : ∀ p ∈ putL l x, p.Ok := by
  induction l with
  | nil => intro p hp; simp [putL] at hp; exact hp ▸ hx
  | cons y l ih =>
    intro p hp
    simp only [putL] at hp
    have ih' := ih (fun q hq => h q (List.mem_cons_of_mem _ hq))
    have hy := h y List.mem_cons_self
    have hl : ∀ q ∈ l, q.Ok := fun q hq => h q (List.mem_cons_of_mem _ hq)
    split at hp
    · rcases List.mem_cons.1 hp with rfl | hp
      · exact hx
      · rcases List.mem_cons.1 hp with rfl | hp
        · exact hy
        · exact hl p hp
    · split at hp
      · rcases List.mem_cons.1 hp with rfl | hp
        · exact hy
        · exact ih' p hp
      · rcases List.mem_cons.1 hp with rfl | hp
        · exact hx
        · exact hl p hp
theorem sOk_take {rows n tag : Nat} {l : List Pc} {g : Nat} (h : SpOk rows l) (hn : 1 ≤ n) (ht : tag < 18446744073709551616) (hg : gapL l n 0 rows = (g : Int)) : SpOk rows (putL l ⟨g, n, 1, tag, 0⟩) ∧ rowsL isUsed (putL l ⟨g, n, 1, tag, 0⟩) = rowsL isUsed l + n ∧ rowsL isHeld (putL l ⟨g, n, 1, tag, 0⟩) = rowsL isHeld l ∧ g + n ≤ rows := by
  obtain ⟨m, k, g', rfl, hg', f1, f2⟩ := gapL_ok hn h.fits (by omega)
  obtain rfl : g' = g := by omega
  have e : putL (m ++ k) ⟨g', n, 1, tag, 0⟩ = m ++ ⟨g', n, 1, tag, 0⟩ :: k := putL_new (a := 0) (b := rows) f1 f2 hn
  have hok : (⟨g', n, 1, tag, 0⟩ : Pc).Ok := ⟨fun _ => Nat.le_refl _, by show 1 ≤ 65535; omega, ht, by show 0 ≤ 2; omega⟩
  refine ⟨⟨?_, h.rows30, ok_put (a := 0) (b := 0) h.ok hok⟩, ?_, ?_, f2.le⟩
  · rw [e]; exact fits_cut.2 ⟨f1, hn, f2⟩
  · rw [e, rowsL_append, rowsL_append]; simp [rowsL, isUsed]; omega
  · rw [e, rowsL_append, rowsL_append]; simp [rowsL, isHeld]
end Go.Proofs.YtcpdnalmoaojlaaDoor
