import Derived.Test.YtcpdnalmoaojlaaDoorGSp39
import Derived.WalkKit
import Derived.ProofKit
import Derived.OpenShut
import Derived.Deep.Slices
import Derived.Deep.Strs
import Derived.ChangeOld

/-
  Steps of a script that came in: from their reading to what lies in memory.
-/
namespace Go.Proofs.YtcpdnalmoaojlaaDoor
open Go.ChangeShapes Go.WideShapes Go.ChangeAt Go.RowKit
set_option linter.unusedVariables false

theorem cellsKStep : Tryd.prog.cellsOf 42 = 5 := by kernel_rfl
theorem bytesKStep : Tryd.prog.bytesOf 42 = 48 := by kernel_rfl
def sdCells (x : SD) : List Value := [.int .i64 x.d, .int .i64 x.a, .int .i64 x.b, .int .i64 x.c, .string x.t]

theorem trod_struct5 {H : Type} {enc : TypeId × Value → H} {P : Program} {w : World} {base : Nat} {spare : Nat → Bool} {held : Bool} {t : TypeId} {f0 f1 f2 f3 f4 : Field} {fuel : Nat} {cs : List Value} {x : DataW H × List MemPlace} (ht : P.underlying t = some (.struct #[f0, f1, f2, f3, f4])) (h : DataW.trod enc P w base spare held fuel t cs = some x) :
    ∃ y0 y1 y2 y3 y4 n, cs.length = P.cellsOf t ∧ DataW.trod enc P w base spare held n f0.type ((cs.drop f0.offset).take (P.cellsOf f0.type)) = some y0 ∧
      DataW.trod enc P w base spare held n f1.type ((cs.drop f1.offset).take (P.cellsOf f1.type)) = some y1 ∧ DataW.trod enc P w base spare held n f2.type ((cs.drop f2.offset).take (P.cellsOf f2.type)) = some y2 ∧
      DataW.trod enc P w base spare held n f3.type ((cs.drop f3.offset).take (P.cellsOf f3.type)) = some y3 ∧ DataW.trod enc P w base spare held n f4.type ((cs.drop f4.offset).take (P.cellsOf f4.type)) = some y4 := by
  obtain ⟨xs, n, _, rfl, hl, hlen, hf⟩ := DataW.trod_struct ht h
  match xs, hlen with
  | [y0, y1, y2, y3, y4], _ => exact ⟨y0, y1, y2, y3, y4, n, hl, by simpa using hf 0 f0 rfl, by simpa using hf 1 f1 rfl, by simpa using hf 2 f2 rfl, by simpa using hf 3 f3 rfl, by simpa using hf 4 f4 rfl⟩

set_option maxRecDepth 100000 in
theorem step_open {H : Type} {enc : TypeId × Value → H} {w : World} {sp : Nat → Bool} {held : Bool} {n : Nat} {cs : List Value} {y : DataW H × List MemPlace} (h : DataW.trod enc Tryd.prog w 0 sp held n 42 cs = some y) :
    ∃ x : SD, x.wf ∧ cs = sdCells x := by
  obtain ⟨y0, y1, y2, y3, y4, m, hl, h0, h1, h2, h3, h4⟩ := trod_struct5 Tryd.underlying42 h
  rw [cellsKStep] at hl
  match cs, hl with
  | [c0, c1, c2, c3, c4], _ =>
    have g0 : DataW.trod enc Tryd.prog w 0 sp held m 3 [c0] = some y0 := h0
    have g1 : DataW.trod enc Tryd.prog w 0 sp held m 3 [c1] = some y1 := h1
    have g2 : DataW.trod enc Tryd.prog w 0 sp held m 3 [c2] = some y2 := h2
    have g3 : DataW.trod enc Tryd.prog w 0 sp held m 3 [c3] = some y3 := h3
    have g4 : DataW.trod enc Tryd.prog w 0 sp held m 9 [c4] = some y4 := h4
    obtain ⟨a0, e0, _, w0⟩ := DataW.trod_int Tryd.underlying3 g0
    obtain ⟨a1, e1, _, w1⟩ := DataW.trod_int Tryd.underlying3 g1
    obtain ⟨a2, e2, _, w2⟩ := DataW.trod_int Tryd.underlying3 g2
    obtain ⟨a3, e3, _, w3⟩ := DataW.trod_int Tryd.underlying3 g3
    obtain ⟨t, e4, _, wt⟩ := DataW.trod_string Tryd.underlying9 g4
    simp at e0 e1 e2 e3 e4
    subst e0 e1 e2 e3 e4
    exact ⟨⟨a0, a1, a2, a3, t⟩, ⟨bounds_i64 w0, bounds_i64 w1, bounds_i64 w2, bounds_i64 w3⟩, rfl⟩

theorem steps_open {H : Type} {enc : TypeId × Value → H} {w : World} {fuel : Nat} {ao : Option Addr} {len cap : Nat} {x : DataW H × List MemPlace} (h : DataW.trod enc Tryd.prog w 0 (fun _ => true) true fuel 41 [.slice ao len cap] = some x) :
    ∃ ss : List SD, SSl w ao ss ∧ (∀ p ∈ ss, p.wf) ∧ ss.length = len := by
  rcases Deep.open_slice Tryd.underlying41 h with ⟨h0, _⟩ | ⟨a, l, c, m, n, D, Pl, h1, hb, hl, hm, hmm, hx, hel⟩
  · simp at h0
    obtain ⟨rfl, rfl, rfl⟩ := h0
    exact ⟨[], .inl rfl, by simp, rfl⟩
  · simp at h1
    obtain ⟨rfl, rfl, rfl⟩ := h1
    simp only [if_true] at hmm
    rw [hmm] at hel
    clear hmm
    rw [cellsKStep] at hel
    have each : ∀ i, i < len → ∃ p : SD, p.wf ∧ w.cell? (a.add (i * 5)) = some (.int .i64 p.d) ∧ w.cell? (a.add (i * 5 + 1)) = some (.int .i64 p.a) ∧ w.cell? (a.add (i * 5 + 2)) = some (.int .i64 p.b) ∧ w.cell? (a.add (i * 5 + 3)) = some (.int .i64 p.c) ∧ w.cell? (a.add (i * 5 + 4)) = some (.string p.t) := by
      intro i hi
      obtain ⟨cs, hc, ht⟩ := hel i (by omega)
      obtain ⟨p, hp, rfl⟩ := step_open ht
      obtain ⟨_, hlen, hcell⟩ := World.cells?_some hc
      have e0 := hcell 0 (by omega)
      have e1 := hcell 1 (by omega)
      have e2 := hcell 2 (by omega)
      have e3 := hcell 3 (by omega)
      have e4 := hcell 4 (by omega)
      rw [Deep.add_add] at e0 e1 e2 e3 e4
      exact ⟨p, hp, by simpa [sdCells] using e0, by simpa [sdCells] using e1, by simpa [sdCells] using e2, by simpa [sdCells] using e3, by simpa [sdCells] using e4⟩
    cases len with
    | zero => exact ⟨[], .inl rfl, by simp, rfl⟩
    | succ len =>
      obtain ⟨p0, _, hc0, _⟩ := each 0 (by omega)
      obtain ⟨b, off, spot⟩ := a
      have hspot : spot = none := by simpa [Addr.add] using World.cell?_spot hc0
      subst hspot
      have hinh : Inhabited SD := ⟨⟨0, 0, 0, 0, ByteArray.empty⟩⟩
      obtain ⟨f, hf⟩ := Deep.choose_lt each
      refine ⟨(List.range (len + 1)).map f, .inr ⟨b, off, rfl, ?_, ?_⟩, ?_, by simp⟩
      · rcases Nat.lt_or_ge b w.heap.size with hlt | hge
        · exact hlt
        · simp [World.cell?, Addr.add, Array.getElem?_eq_none hge] at hc0
      · intro i hi
        have hi' : i < len + 1 := by simpa using hi
        obtain ⟨_, q0, q1, q2, q3, q4⟩ := hf i hi'
        rw [Addr.add_lit] at q0 q1 q2 q3 q4
        simp only [List.getElem_map, List.getElem_range]
        exact ⟨q0, by rw [Nat.add_assoc]; exact q1, by rw [Nat.add_assoc]; exact q2, by rw [Nat.add_assoc]; exact q3, by rw [Nat.add_assoc]; exact q4⟩
      · intro p hp
        simp only [List.mem_map, List.mem_range] at hp
        obtain ⟨i, hi, rfl⟩ := hp
        exact (hf i hi).1
end Go.Proofs.YtcpdnalmoaojlaaDoor
