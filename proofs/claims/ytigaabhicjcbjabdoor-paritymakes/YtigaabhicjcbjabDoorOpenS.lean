/-
  Texts that came in: from their reading to what lies in memory.
-/
import Derived.Test.YtigaabhicjcbjabDoorL1
import Derived.Deep.Slices
import Derived.Deep.Strs
import Derived.ChangeOld
namespace Go.Proofs.YtigaabhicjcbjabDoor
open Go.ChangeShapes Go.WideShapes Go.ChangeAt Go.RowKit
set_option linter.unusedVariables false

theorem cellsStr : Tryd.prog.cellsOf 9 = 1 := by kernel_rfl
theorem bytesStr : Tryd.prog.bytesOf 9 = 16 := by kernel_rfl
theorem mem_weightsAll {H : Type} {P : Program} {e : TypeId} {l : List (DataW H)} {d : DataW H} {n : Nat} (hd : d ∈ l) (hn : n ∈ d.weights P e) : n ∈ DataW.weightsAll P e l := by
  induction l with
  | nil => cases hd
  | cons a l ih =>
    simp only [DataW.weightsAll, List.mem_append]
    rcases List.mem_cons.1 hd with rfl | h
    · exact .inl hn
    · exact .inr (ih h)
theorem weights_slice {H : Type} {P : Program} {t e : TypeId} {elems spare : List (DataW H)} (hu : P.underlying t = some (.slice e)) : DataW.weights P t (.slice elems spare) = (elems.length + spare.length) * P.bytesOf e :: (DataW.weightsAll P e elems ++ DataW.weightsAll P e spare) := by simp [DataW.weights, hu]
theorem weights_str {H : Type} {P : Program} {t : TypeId} {b : List UInt8} : DataW.weights (H := H) P t (.lit (.string b)) = [b.length] := by simp [DataW.weights]
theorem strs_open {H : Type} {enc : TypeId × Value → H} {w : World} {fuel : Nat} {ao : Option Addr} {len cap : Nat} {x : DataW H × List MemPlace} (h : DataW.trod enc Tryd.prog w 0 (fun _ => true) true fuel 32 [.slice ao len cap] = some x) (hw : ∀ n ∈ x.1.weights Tryd.prog 32, n ≤ reachBytes) :
    ∃ S : List ByteArray, Strs w (.slice ao len cap) S ∧ (∀ t ∈ S, t.size ≤ 140737488355328) ∧ S.length = len := by
  rcases Deep.open_slice Tryd.underlying32 h with ⟨h0, _⟩ | ⟨a, l, c, m, n, D, Pl, h1, hb, hl, hm, hmm, hx, hel⟩
  · simp at h0
    obtain ⟨rfl, rfl, rfl⟩ := h0
    exact ⟨[], .inr ⟨none, 0, rfl, rfl⟩, by simp, rfl⟩
  · simp at h1
    obtain ⟨rfl, rfl, rfl⟩ := h1
    simp only [if_true] at hmm
    rw [hmm] at hel
    clear hmm
    rw [cellsStr] at hel
    have each : ∀ i, i < len → ∃ t : ByteArray, t.size ≤ 140737488355328 ∧ w.cell? (a.add i) = some (.string t) := by
      intro i hi
      obtain ⟨cs, hc, ht⟩ := hel i (by omega)
      obtain ⟨t, e2, e3, wt⟩ := DataW.trod_string Tryd.underlying9 ht
      subst e2
      have hsz : t.size ≤ reachBytes := by
        refine hw _ ?_
        rw [hx]
        rw [weights_slice Tryd.underlying32]
        refine List.mem_cons.2 (.inr (List.mem_append.2 (.inl (mem_weightsAll (d := D i) (List.mem_map.2 ⟨i, List.mem_range.2 hi, rfl⟩) ?_))))
        have e4 : D i = .lit (.string t.data.toList) := congrArg Prod.fst e3
        rw [e4, weights_str]
        exact List.mem_singleton.2 rfl
      have hr := reachBytes_lt
      obtain ⟨_, hlen, hcell⟩ := World.cells?_some hc
      have e0 := hcell 0 (by omega)
      rw [Deep.add_add] at e0
      refine ⟨t, ?_, by simpa using e0⟩
      omega
    cases len with
    | zero => exact ⟨[], .inr ⟨some a, cap, rfl, rfl⟩, by simp, rfl⟩
    | succ len =>
      obtain ⟨p0, _, hc0⟩ := each 0 (by omega)
      obtain ⟨b, off, spot⟩ := a
      have hspot : spot = none := by simpa [Addr.add] using World.cell?_spot hc0
      subst hspot
      have hinh : Inhabited ByteArray := ⟨ByteArray.empty⟩
      obtain ⟨f, hf⟩ := Deep.choose_lt each
      refine ⟨(List.range (len + 1)).map f, .inl ⟨b, off, cap, by simp, ?_, ?_⟩, ?_, by simp⟩
      · rcases Nat.lt_or_ge b w.heap.size with hlt | hge
        · exact hlt
        · simp [World.cell?, Addr.add, Array.getElem?_eq_none hge] at hc0
      · intro i hi
        have hi' : i < len + 1 := by simpa using hi
        obtain ⟨_, q0⟩ := hf i hi'
        rw [add_at] at q0
        simp only [List.getElem_map, List.getElem_range]
        exact q0
      · intro t ht
        simp only [List.mem_map, List.mem_range] at ht
        obtain ⟨i, hi, rfl⟩ := ht
        exact (hf i hi).1
end Go.Proofs.YtigaabhicjcbjabDoor
