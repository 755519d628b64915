/-
  A list of pieces, gone through from its end.
-/
import Derived.RangeFuncNested
import Derived.RangeFuncBound
import Derived.RangeFuncCalls
import Derived.RangeFuncLeaves
import Derived.Shelf.Abstract
import Derived.Shelf.RegionOpen
import Derived.OwnWalkIn
import Derived.TacticsInMore
import Derived.LoopNIn
import Derived.LoopIn
import Derived.Test.YtigaabhicjcbjabDoorP3
namespace Go.Proofs.YtigaabhicjcbjabDoor
open Go.RowKit Go.Shelf
set_option linter.unusedVariables false
attribute [local go_sem] Oper.semAt_some

/-- What is handed on of a piece: its number, the slice, its bytes. -/
structure El (n₀ sz : Nat) (w : World) where
  i : Nat
  v : Value
  l : List UInt8
  rd : Rd n₀ w v l
  len : l.length = 0 ∨ l.length = sz
def El.none (n₀ sz : Nat) (w : World) : El n₀ sz w := ⟨0, .slice Option.none 0 0, [], .inl ⟨rfl, rfl⟩, .inl rfl⟩
/-- What has come when k rounds are over. -/
def come {α : Type} (f : Nat → α) (k : Nat) : List α := (List.range k).map f
theorem come_succ {α : Type} (f : Nat → α) (k : Nat) : come f (k + 1) = come f k ++ [f k] := by simp [come, List.range_succ]
theorem come_length {α : Type} (f : Nat → α) (k : Nat) : (come f k).length = k := by simp [come]

/-- All that lay below n₁ lies as it lay, but for the block B. -/
def KB (n₁ B : Nat) (W W' : World) : Prop := W.heap.size ≤ W'.heap.size ∧ ∀ k, k < n₁ → k < W.heap.size → k ≠ B → W'.heap[k]? = W.heap[k]?
theorem KB.refl (n₁ B : Nat) (W : World) : KB n₁ B W W := ⟨Nat.le_refl _, fun _ _ _ _ => rfl⟩
theorem KB.trans {n₁ B : Nat} {A C D : World} (h : KB n₁ B A C) (h' : KB n₁ B C D) : KB n₁ B A D := ⟨Nat.le_trans h.1 h'.1, fun k h1 h2 h3 => (h'.2 k h1 (Nat.lt_of_lt_of_le h2 h.1) h3).trans (h.2 k h1 h2 h3)⟩
theorem KB.cell {n₁ B : Nat} {W W' : World} (h : KB n₁ B W W') {b i : Nat} {v : Value} (h1 : b < n₁) (h2 : b ≠ B) (hc : W.cell? ⟨b, i, none⟩ = some v) : W'.cell? ⟨b, i, none⟩ = some v := by
  have hlt : b < W.heap.size := by
    rcases Nat.lt_or_ge b W.heap.size with h' | h'
    · exact h'
    · simp [World.cell?, Array.getElem?_eq_none h'] at hc
  exact (World.cell?_of_block (a := ⟨b, i, none⟩) (h.2 b h1 hlt h2)).trans hc
theorem KB.put {n₁ B : Nat} (W : World) (l : Nat) (o o' : Obj) (hl : n₁ ≤ l) (h1 : W.heap[l]? = some o) (h2 : o.isCells = false) (h3 : o.isWalk = false) : KB n₁ B W (W.putObj l o') := by
  have hg := grownBy_putObj' W l o'
  exact ⟨hg.size, fun k hk hs _ => hg.block k hs (fun e => by cases e; omega)⟩
theorem KB.grown {n₁ B : Nat} {W W' : World} (h : W.grownBy W' (some B)) : KB n₁ B W W' := ⟨h.size, fun k _ hs hne => h.block k hs (by simpa using hne)⟩
set_option maxRecDepth 100000 in
set_option maxHeartbeats 2000000 in
theorem back1_in (n l Bs n₀ n₁ B sz b off len cap : Nat) (w : World) (f : Nat → El n₀ sz w) (vs : Nat → Value) (hn : 1 ≤ n) (hlen : len ≤ 1000000) (hb : b < n₁) (hb' : b ≠ B) (hf : ∀ k, k < len → (f k).i = len - 1 - k ∧ (f k).v = vs (len - 1 - k)) (J Jx : List (El n₀ sz w) → World → Prop)
    (hY : ∀ pre x W, J pre W → pre.length < len → YieldAt Fence.wide (n - 1) Tryd.prog l #[.int .i64 (x.i : Int), x.v] W fun e W' =>
      (e = .returned (.bool true) ∧ J (pre ++ [x]) W' ∧ KB n₁ B W W') ∨ (e = .returned (.bool false) ∧ Jx (pre ++ [x]) W'))
    (W : World) (hBs : W.cell? ⟨Bs, 0, none⟩ = some (.slice (some ⟨b, off, none⟩) len cap)) (hBn : Bs < n₁) (hBn' : Bs ≠ B) (hc : ∀ j, j < len → W.cell? ⟨b, off + j, none⟩ = some (vs j)) (h0 : J [] W) :
    CallsIn Fence.wide n Tryd.prog 79 #[.func (.yield l) #[] #[], .pointer (some ⟨Bs, 0, none⟩)] W fun e W' => (∃ v, e = .returned v) ∧
      ((∃ ys, ys = come f len ∧ J ys W') ∨ (∃ pre, (∃ k, k ≤ len ∧ pre = come f k) ∧ Jx pre W')) := by
  refine callsIn_of_wp Tryd.func79 rfl trivial ?_ rfl
  simp only [Tryd.ntmps79, List.size_toArray, List.length_cons, List.length_nil, Nat.reduceAdd, Nat.reduceSub, Array.replicate_succ, Array.replicate_zero, List.push_toArray, List.append_toArray, List.nil_append, List.cons_append]
  gi_wp2
  gi_loopw [3] (fun i wr => ∃ k : Nat, k ≤ len ∧ i = .int .i64 ((len : Int) - 1 - (k : Int)) ∧ J (come f k) wr ∧ KB n₁ B W wr)
    (fun i _ => ((intOf i) + 1).toNat)
  case atStart => exact ⟨0, Nat.zero_le _, by simp, h0, KB.refl _ _ _⟩
  case round =>
    obtain ⟨k, hk, rfl, hJs, hnx⟩ := hrel
    by_cases hlt : k < len
    · obtain ⟨m, hm⟩ : ∃ m, m = len - 1 - k := ⟨_, rfl⟩
      have hmi : (len : Int) - 1 - (k : Int) = (m : Int) := by omega
      rw [hmi]
      have hcx : wr.cell? ⟨b, off + m, none⟩ = some (vs m) := hnx.cell hb hb' (hc m (by omega))
      have hbx : wr.cell? ⟨Bs, 0, none⟩ = some (.slice (some ⟨b, off, none⟩) len cap) := hnx.cell hBn hBn' hBs
      obtain ⟨fn, tmps, assign, body, hy, hR⟩ := hY _ (f k) wr hJs (by rw [come_length]; exact hlt)
      rw [(hf k hlt).1, (hf k hlt).2, ← hm] at hy
      have hml : (m : Int) < (len : Int) := by omega
      have HM := hid_mk hm
      have HMI := hid_mk hmi
      clear hBs hc hmi hm
      gi_wp2
      refine hR.mono ?_
      rintro e W3 (⟨rfl, hJ3, hk3⟩ | ⟨rfl, hJx3⟩)
      · gi_wp2
        go_roundw
        case rel => exact ⟨k + 1, by omega, by have := HMI.out; simp; omega, by rw [come_succ]; exact hJ3, hnx.trans hk3⟩
        case measure => simp [intOf]
      · gi_wp2
        refine bodyPost_ret (results_none rfl _ _ _) rfl ?_
        exact ⟨⟨_, rfl⟩, .inr ⟨_, ⟨k + 1, by omega, (come_succ _ _).symm⟩, hJx3⟩⟩
    · obtain rfl : k = len := by omega
      have hmi : (k : Int) - 1 - (k : Int) = -1 := by omega
      rw [hmi]
      gi_wp2
      go_end0
      exact ⟨⟨_, rfl⟩, .inl ⟨_, rfl, hJs⟩⟩
set_option maxRecDepth 100000 in
set_option maxHeartbeats 1000000 in
theorem back1_nil (n l Bs : Nat) {α : Type} (J : List α → World → Prop) (W : World) (hBs : W.cell? ⟨Bs, 0, none⟩ = some (.slice none 0 0)) (h0 : J [] W) :
    CallsIn Fence.wide n Tryd.prog 79 #[.func (.yield l) #[] #[], .pointer (some ⟨Bs, 0, none⟩)] W fun e W' => (∃ v, e = .returned v) ∧ J [] W' := by
  refine callsIn_of_wp Tryd.func79 rfl trivial ?_ rfl
  simp only [Tryd.ntmps79, List.size_toArray, List.length_cons, List.length_nil, Nat.reduceAdd, Nat.reduceSub, Array.replicate_succ, Array.replicate_zero, List.push_toArray, List.append_toArray, List.nil_append, List.cons_append]
  gi_wp2
  gi_loopw [3] (fun i wr => i = .int .i64 (-1) ∧ J [] wr) (fun _ _ => 0)
  case atStart => exact ⟨rfl, h0⟩
  case round =>
    obtain ⟨rfl, hJs⟩ := hrel
    gi_wp2
    go_end0
    exact ⟨⟨_, rfl⟩, hJs⟩
set_option maxHeartbeats 1000000 in
theorem backward_in (n : Nat) (ao : Option Addr) (len cap : Nat) (w : World) :
    CallsIn Fence.wide n Tryd.prog 75 #[.slice ao len cap] w fun e w' => e = .returned (.func (.func 79) #[] #[.pointer (some ⟨w.heap.size, 0, none⟩)]) ∧ w' = w.alloc (.cells #[.slice ao len cap] 68) := by
  refine callsIn_of_wp Tryd.func75 rfl trivial ?_ rfl
  simp only [Tryd.ntmps75, List.size_toArray, List.length_cons, List.length_nil, Nat.reduceAdd, Nat.reduceSub, Array.replicate_succ, Array.replicate_zero, List.push_toArray, List.append_toArray, List.nil_append, List.cons_append]
  gi_wp2
  go_ret
  exact ⟨rfl, rfl⟩
end Go.Proofs.YtigaabhicjcbjabDoor
