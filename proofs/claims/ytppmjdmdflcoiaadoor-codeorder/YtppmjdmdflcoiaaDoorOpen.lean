/-
  Parts that came in: from their reading to what lies in memory.
-/
import Derived.Test.YtppmjdmdflcoiaaDoorRd3
import Derived.Deep.Slices
import Derived.Deep.Strs
import Derived.ChangeOld
namespace Go.Proofs.YtppmjdmdflcoiaaDoor
open Go.ChangeShapes Go.WideShapes Go.ChangeAt Go.RowKit
set_option linter.unusedVariables false

theorem cellsPart : Tryd.prog.cellsOf 54 = 3 := by kernel_rfl
theorem cellsKind : Tryd.prog.cellsOf 51 = 1 := by kernel_rfl
theorem cellsNum : Tryd.prog.cellsOf 52 = 1 := by kernel_rfl
theorem cellsStr : Tryd.prog.cellsOf 9 = 1 := by kernel_rfl
theorem bytesPart : Tryd.prog.bytesOf 54 = 32 := by kernel_rfl

set_option maxRecDepth 100000 in
theorem part_open {H : Type} {enc : TypeId × Value → H} {w : World} {sp : Nat → Bool} {held : Bool} {n : Nat} {cs : List Value} {y : DataW H × List MemPlace} (h : DataW.trod enc Tryd.prog w 0 sp held n 54 cs = some y) :
    ∃ p : PartD, p.wf ∧ cs = partCells p := by
  obtain ⟨y0, y1, y2, m, hx, hl, h0, h1, h2⟩ := Deep.trod_struct3 Tryd.underlying54 h
  rw [cellsPart] at hl
  match cs, hl with
  | [c0, c1, c2], _ =>
    have g0 : DataW.trod enc Tryd.prog w 0 sp held m 51 [c0] = some y0 := h0
    have g1 : DataW.trod enc Tryd.prog w 0 sp held m 52 [c1] = some y1 := h1
    have g2 : DataW.trod enc Tryd.prog w 0 sp held m 9 [c2] = some y2 := h2
    obtain ⟨k, e0, _, wk⟩ := DataW.trod_int Tryd.underlying51 g0
    obtain ⟨nn, e1, _, wn⟩ := DataW.trod_int Tryd.underlying52 g1
    obtain ⟨t, e2, _, wt⟩ := DataW.trod_string Tryd.underlying9 g2
    simp at e0 e1 e2
    subst e0 e1 e2
    have bk := bounds_i64 wk
    have bn := bounds_u64 wn
    obtain ⟨N, rfl⟩ := Int.eq_ofNat_of_zero_le bn.1
    refine ⟨⟨k, N, bl t⟩, ⟨bk.1, bk.2, by simp only; omega, ?_⟩, ?_⟩
    · simp only [bl_length]
      unfold maxLen at wt; omega
    · simp [partCells, str_bl]

theorem parts_open {H : Type} {enc : TypeId × Value → H} {w : World} {fuel : Nat} {ao : Option Addr} {len cap : Nat} {x : DataW H × List MemPlace} (h : DataW.trod enc Tryd.prog w 0 (fun _ => true) true fuel 30 [.slice ao len cap] = some x) :
    ∃ ps : List PartD, PSlice w (.slice ao len cap) ps ∧ (∀ p ∈ ps, p.wf) ∧ ps.length = len ∧ (∀ b off c, Value.slice ao len cap = .slice (some ⟨b, off, none⟩) ps.length c → ps.length ≤ c) := by
  rcases Deep.open_slice Tryd.underlying30 h with ⟨h0, _⟩ | ⟨a, l, c, m, n, D, Pl, h1, hb, hl, hm, hmm, hx, hel⟩
  · simp at h0
    obtain ⟨rfl, rfl, rfl⟩ := h0
    exact ⟨[], .inr ⟨none, 0, rfl, fun _ => rfl, rfl⟩, by simp, rfl, fun b off c e => by simp⟩
  · simp at h1
    obtain ⟨rfl, rfl, rfl⟩ := h1
    simp only [if_true] at hmm
    rw [hmm] at hel
    clear hmm
    rw [cellsPart] at hel
    have each : ∀ i, i < len → ∃ p : PartD, p.wf ∧ w.cell? (a.add (i * 3)) = some (.int .i64 p.kind) ∧ w.cell? (a.add (i * 3 + 1)) = some (.int .u64 (p.num : Int)) ∧ w.cell? (a.add (i * 3 + 2)) = some (.string (str p.text)) := by
      intro i hi
      obtain ⟨cs, hc, ht⟩ := hel i (by omega)
      obtain ⟨p, hp, rfl⟩ := part_open ht
      obtain ⟨_, hlen, hcell⟩ := World.cells?_some hc
      have e0 := hcell 0 (by omega)
      have e1 := hcell 1 (by omega)
      have e2 := hcell 2 (by omega)
      rw [Deep.add_add] at e0 e1 e2
      exact ⟨p, hp, by simpa [partCells] using e0, by simpa [partCells] using e1, by simpa [partCells] using e2⟩
    cases len with
    | zero => exact ⟨[], .inr ⟨some a, cap, rfl, (fun e => by cases e), rfl⟩, by simp, rfl, fun b off c e => by simp⟩
    | succ len =>
      obtain ⟨p0, _, hc0, _⟩ := each 0 (by omega)
      obtain ⟨b, off, spot⟩ := a
      have hspot : spot = none := by simpa [Addr.add] using World.cell?_spot hc0
      subst hspot
      have hinh : Inhabited PartD := ⟨⟨0, 0, []⟩⟩
      obtain ⟨f, hf⟩ := Deep.choose_lt each
      refine ⟨(List.range (len + 1)).map f, .inl ⟨b, off, cap, by simp, ?_, ?_⟩, ?_, by simp, ?_⟩
      · rcases Nat.lt_or_ge b w.heap.size with hlt | hge
        · exact hlt
        · simp [World.cell?, Addr.add, Array.getElem?_eq_none hge] at hc0
      · intro i hi
        have hi' : i < len + 1 := by simpa using hi
        obtain ⟨_, q0, q1, q2⟩ := hf i hi'
        rw [add_at] at q0 q1 q2
        simp only [List.getElem_map, List.getElem_range]
        exact ⟨q0, by rw [Nat.add_assoc]; exact q1, by rw [Nat.add_assoc]; exact q2⟩
      · intro p hp
        simp only [List.mem_map, List.mem_range] at hp
        obtain ⟨i, hi, rfl⟩ := hp
        exact (hf i hi).1
      · intro b' off' c' e
        simp at e
        simp; omega
end Go.Proofs.YtppmjdmdflcoiaaDoor
