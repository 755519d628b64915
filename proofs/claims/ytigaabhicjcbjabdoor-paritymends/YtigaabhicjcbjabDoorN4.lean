/-
  Copies of pieces.
-/
import Derived.Test.YtigaabhicjcbjabDoorN3
namespace Go.Proofs.YtigaabhicjcbjabDoor
open Go.ChangeShapes Go.WideShapes Go.ChangeAt Go.RowKit
set_option linter.unusedVariables false

theorem heap_setT (w : World) (B k : Nat) (cur : Array Value) (T : TypeId) (fz : Nat × Nat) (v : Value) (h : w.heap[B]? = some (.cells cur T fz)) :
    (w.setCell ⟨B, k, none⟩ v).heap[B]? = some (.cells (cur.setIfInBounds k v) T fz) := by
  simp [World.setCell, Array.getElem?_modify, h]
theorem heap_set_other (w : World) (F k i : Nat) (v : Value) (h : k ≠ F) : (w.setCell ⟨F, i, none⟩ v).heap[k]? = w.heap[k]? := by
  simp [World.setCell, Array.getElem?_modify, Ne.symm h]
theorem SOwns.put {w : World} {base g n c : Nat} {vs : List Value} (h : SOwns w base (.slice (Option.some ⟨g, 0, Option.none⟩) n c) vs) (i : Nat) (v : Value) : SOwns (w.setCell ⟨g, i, Option.none⟩ v) base (.slice (Option.some ⟨g, 0, Option.none⟩) n c) (vs.set i v) := by
  refine ⟨by simp, ?_⟩
  rcases h.2 with ⟨e, _⟩ | ⟨g', c', cur, h3, h4, h5, h6, h7, h8, h9⟩
  · cases e
  · simp at h3
    obtain ⟨rfl, h3, rfl⟩ := h3
    refine .inr ⟨g, c, cur.setIfInBounds i v, by rw [h3, List.length_set], h4, heap_setT w g i cur _ _ v h5, by rw [List.length_set]; exact h6, h7, by simpa using h8, ?_⟩
    rw [List.length_set, Array.toList_setIfInBounds, List.take_set, h9]
theorem SOwns.cell {w : World} {base g n c : Nat} {vs : List Value} (h : SOwns w base (.slice (Option.some ⟨g, 0, Option.none⟩) n c) vs) (i : Nat) (hi : i < vs.length) : w.cell? ⟨g, i, Option.none⟩ = Option.some vs[i] ∧ w.frozen? ⟨g, i, Option.none⟩ = false := by
  obtain ⟨g', e, _, _, _, hc⟩ := h.get i hi
  cases e
  refine ⟨hc, ?_⟩
  rcases h.2 with ⟨e, _⟩ | ⟨g', c', cur, h3, h4, h5, _⟩
  · cases e
  · simp at h3
    obtain ⟨rfl, _⟩ := h3
    simp [World.frozen?, h5]
theorem Lst.put {p : Nat × Nat → Prop} {w : World} {base g n c : Nat} {M : List (List UInt8)} (h : Lst p w base (.slice (some ⟨g, 0, none⟩) n c) M) (i : Nat) (v : Value) (l : List UInt8) (hv : ElP p w base v l) : Lst p (w.setCell ⟨g, i, none⟩ v) base (.slice (some ⟨g, 0, none⟩) n c) (M.set i l) := by
  obtain ⟨vs, h1, h2, h3⟩ := h
  have keep : ∀ {u : Value} {d : List UInt8}, ElP p w base u d → ElP p (w.setCell ⟨g, i, none⟩ v) base u d := fun hu => hu.keep (fun b cur fz e _ => heap_set_other _ _ _ _ _ (fun e2 => by
    subst e2
    exact h1.ne5 e rfl))
  refine ⟨vs.set i v, h1.put i v, by simp [h2], fun k a b => ?_⟩
  rw [List.getElem_set, List.getElem_set]
  by_cases hk : i = k
  · subst hk; simp only [if_true]; exact keep hv
  · simp only [if_neg hk]
    exact keep (h3 k (by simpa using a) (by simpa using b))
theorem lst_made {w : World} {base g n : Nat} (h : w.ownsRow base 22 1 (.slice (some ⟨g, 0, none⟩) n n) n (madeCells (Value.slice none 0 0).cells (n * 1)).toList) : Own2 w base (.slice (some ⟨g, 0, none⟩) n n) (List.replicate n []) := by
  have e : (madeCells (Value.slice none 0 0).cells (n * 1)).toList = List.replicate n (.slice none 0 0) := by
    rw [Nat.mul_one]; exact toList_madeCells_one (Value.slice none 0 0) n
  rw [e] at h
  refine ⟨List.replicate n (.slice none 0 0), by unfold SOwns; rw [List.length_replicate]; exact h, by simp, fun i a b => ?_⟩
  rw [List.getElem_replicate, List.getElem_replicate]
  exact .inl ⟨rfl, rfl⟩
/-- The first k of L; the others are empty. -/
def cl (L : List (List UInt8)) (k : Nat) : List (List UInt8) := L.take k ++ List.replicate (L.length - k) []
theorem cl_zero (L : List (List UInt8)) : cl L 0 = List.replicate L.length [] := by simp [cl]
theorem cl_all (L : List (List UInt8)) : cl L L.length = L := by simp [cl]
theorem cl_len (L : List (List UInt8)) (k : Nat) (hk : k ≤ L.length) : (cl L k).length = L.length := by simp [cl]; omega
theorem cl_set (L : List (List UInt8)) (k : Nat) (hk : k < L.length) : (cl L k).set k L[k] = cl L (k + 1) := by
  unfold cl
  rw [take_snoc L k hk, show L.length - k = (L.length - (k + 1)) + 1 by omega, List.replicate_succ]
  have hl : (L.take k).length = k := by rw [List.length_take]; omega
  rw [List.set_append_right _ _ (by omega), hl, Nat.sub_self, List.set_cons_zero, List.append_assoc]
  rfl
set_option maxRecDepth 100000 in
theorem clone_any (L : List (List UInt8)) (n₀ : Nat) (v : Value) (w : World) (hl : L.length ≤ 1000000) (hp : ∀ b ∈ L, b.length ≤ 140737488355328) (hn : n₀ ≤ w.heap.size) (hv : Pcs n₀ w v L) : Calls Tryd.prog 49 #[v] w fun e w' => ∃ g, e = .returned (.slice (some ⟨g, 0, none⟩) L.length L.length) ∧ w.heap.size ≤ g ∧ Own2 w' w.heap.size (.slice (some ⟨g, 0, none⟩) L.length L.length) L ∧ Below w.heap.size w w' := by
  obtain ⟨ao, cp, rfl⟩ := hv.shape
  have HV : Hid (Pcs n₀ w (.slice ao L.length cp) L) := hv
  have HP := hid_mk hp
  clear hv hp
  obtain ⟨i0, hi, hz0, hz1, hz2⟩ := info_parts Tryd.info22'
  go_enter Tryd.func49, Tryd.ntmps49
  go_wp2_with (at_make; refine wpList_make_full _ rfl _ _ 68 rfl w.heap.size 22 i0 (.slice none 0 0) 1 Tryd.underlying68 hi hz0 hz1 _ _ _ _ L.length rfl rfl rfl rfl (by rw [hz2]; omega) (by unfold maxLen; omega) (by simp) ?_; intro w0 hown0 hgrow0)
  have HO0 := hid_mk (lst_made hown0)
  have HB0 : Hid (Below w.heap.size w w0) := (Below.refl _ _).grown hgrow0 (Nat.le_refl _) (fun k h => by cases h)
  clear hown0 hgrow0 hi hz0 hz1 hz2
  go_loopw [11] (fun i wr => ∃ k : Nat, i = .int .i64 k ∧ k ≤ L.length ∧ Own2 wr w.heap.size (.slice (some ⟨w.heap.size, 0, none⟩) L.length L.length) (cl L k) ∧ Below w.heap.size w wr) (fun i _ => L.length - (intOf i).toNat)
  case atStart => exact ⟨0, rfl, by omega, by rw [cl_zero]; exact HO0.out, HB0.out⟩
  case round =>
    obtain ⟨k, rfl, hk, ho, hb⟩ := hrel
    obtain ⟨V, hV⟩ : ∃ V, V = wr := ⟨_, rfl⟩
    subst hV
    have HO := hid_mk ho
    have HB := hid_mk hb
    clear ho hb HO0 HB0
    by_cases hlt : k < L.length
    · obtain ⟨b, off, ul, ucp, rfl, hbb, hc0, hr0⟩ := HV.out.get k hlt
      have hc : V.cell? ⟨b, off + k, none⟩ = some (.slice ul L[k].length ucp) := (HB.out.cell (p := ⟨b, off + k, none⟩) (show b < _ by omega)).trans hc0
      have hr : Rd V.heap.size V (.slice ul L[k].length ucp) L[k] := (hr0.below HB.out hn).mono (fun x (hx : x < n₀) => by have := HB.out.size; show x < _; omega)
      have HCL := hid_mk (cloneB_any L[k] _ V (HP.out _ (List.getElem_mem hlt)) hr)
      obtain ⟨m, hm⟩ : ∃ m, m = L[k].length := ⟨_, rfl⟩
      rw [← hm] at hc HCL
      have HM := hid_mk hm
      clear hr hr0 hc0 hm
      go_wp2_with fail
      refine HCL.out.mono ?_
      rintro e w1 ⟨u, rfl, hu, hb1⟩
      obtain ⟨uo, uc, rfl⟩ := hu.shape
      have HU := hid_mk hu
      have HB1 := hid_mk hb1
      have HO1 := hid_mk (HO.out.below hb1)
      obtain ⟨vs, v1, v2, v3⟩ := HO1.out
      obtain ⟨z, c1, f1⟩ : ∃ z, w1.cell? ⟨w.heap.size, k, none⟩ = some z ∧ w1.frozen? ⟨w.heap.size, k, none⟩ = false := ⟨_, v1.cell k (by rw [v2, cl_len L k hk]; exact hlt)⟩
      clear hu hb1 HCL v1 v2 v3
      go_wp2
      go_roundw
      case rel =>
        refine ⟨k + 1, by go_num, by omega, ?_, (HB.out.trans (HB1.out.mono HB.out.size)).setCell (p := ⟨w.heap.size, k, none⟩) (Nat.le_refl _) _⟩
        rw [← cl_set L k hlt]
        exact HO1.out.put k _ L[k] (HU.out.mono HB.out.size).el
      case measure => simp [intOf]; omega
    · have hkn : k = L.length := by omega
      subst hkn
      go_wp2
      go_ret
      exact ⟨w.heap.size, rfl, Nat.le_refl _, by have h := HO.out; rw [cl_all] at h; exact h, HB.out⟩
end Go.Proofs.YtigaabhicjcbjabDoor
