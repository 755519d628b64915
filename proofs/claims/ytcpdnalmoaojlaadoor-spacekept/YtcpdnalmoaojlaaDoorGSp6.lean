import Derived.RangeFuncNested
import Derived.RangeFuncBound
import Derived.RangeFuncCalls
import Derived.RangeFuncLeaves
import Derived.Shelf.Abstract
import Derived.Shelf.RegionOpen
import Derived.OwnWalkIn
import Derived.TacticsInMore
import Derived.LoopNIn
import Derived.LoopIn
import Derived.Test.YtcpdnalmoaojlaaDoorGSp1

/-
  each: the pieces of a list are handed on, one by one.
-/
namespace Go.Proofs.YtcpdnalmoaojlaaDoor
open Go.RowKit Go.Shelf
set_option linter.unusedVariables false
attribute [local go_sem] Oper.semAt_some

theorem roundAny {m m' : Nat} {P : Program} {l : Nat} {f : FuncId} {tmps : Array Value} {assign body : Code} {w : World} {R : Ending → World → Prop} (h : RoundIn Fence.wide m P l f tmps assign body w R) : RoundIn Fence.wide m' P l f tmps assign body w R := ⟨h.1, fun c cs _ => h.2 c cs (fun d hd => by cases hd)⟩
theorem yieldAny {m : Nat} (m' : Nat) {P : Program} {l : Nat} {args : Array Value} {W : World} {R : Ending → World → Prop} (h : YieldAt Fence.wide m P l args W R) : YieldAt Fence.wide m' P l args W R := by
  obtain ⟨fn, tmps, assign, body, hy, hR⟩ := h
  exact ⟨fn, tmps, assign, body, hy, roundAny hR⟩
set_option maxRecDepth 100000 in
set_option maxHeartbeats 4000000 in
theorem each_in (l N : Nat) (w0 : World) (G : Pc → Prop) (J Jx : List Pc → World → Prop)
    (hY : ∀ m pre x W, G x → J pre W → pre.length < N → YieldAt Fence.wide m Tryd.prog l #[.agg (pcv x)] W fun e W' =>
      (e = .returned (.bool true) ∧ J (pre ++ [x]) W' ∧ Below w0.heap.size W W') ∨ (e = .returned (.bool false) ∧ Jx (pre ++ [x]) W')) (k : Nat) :
    ∀ (n : Nat) (p : Option Addr) (ls pre : List Pc) (W : World), (∀ x ∈ ls, G x) → KD w0 k p ls → Below w0.heap.size w0 W → J pre W → pre.length + ls.length ≤ N →
      CallsIn Fence.wide n Tryd.prog 68 #[.pointer p, .func (.yield l) #[] #[]] W fun e W' =>
        (e = .returned (.bool true) ∧ J (pre ++ ls) W' ∧ Below w0.heap.size w0 W') ∨ (e = .returned (.bool false) ∧ ∃ q, q <+: ls ∧ Jx (pre ++ q) W') := by
  have none_case : ∀ (n : Nat) (pre : List Pc) (W : World), Below w0.heap.size w0 W → J pre W → CallsIn Fence.wide n Tryd.prog 68 #[.pointer none, .func (.yield l) #[] #[]] W fun e W' =>
        (e = .returned (.bool true) ∧ J (pre ++ []) W' ∧ Below w0.heap.size w0 W') ∨ (e = .returned (.bool false) ∧ ∃ q, q <+: [] ∧ Jx (pre ++ q) W') := by
    intro n pre W hb hJ
    refine callsIn_of_wp Tryd.func68 rfl trivial ?_ rfl
    simp only [Tryd.ntmps68, List.size_toArray, List.length_cons, List.length_nil, Nat.reduceAdd, Nat.reduceSub, Array.replicate_succ, Array.replicate_zero, List.push_toArray, List.append_toArray, List.nil_append, List.cons_append]
    gi_wp2
    refine ⟨trivial, ?_⟩
    gi_wp2
    all_goals try (exfalso; have hh := ‹some undef = some (Value.bool _)›; simp [undef] at hh; done)
    all_goals refine ⟨fun _ h => (by cases h), ?_⟩
    all_goals gi_wp2
    all_goals try (exfalso; have hh := ‹some undef = some (Value.bool _)›; simp [undef] at hh; done)
    all_goals refine ⟨trivial, ?_⟩
    all_goals gi_wp2
    all_goals try (exfalso; have hh := ‹some undef = some (Value.bool _)›; simp [undef] at hh; done)
    all_goals go_ret
    all_goals exact .inl ⟨rfl, by simpa using hJ, hb⟩
  induction k with
  | zero =>
    rintro n p ls pre W hG ⟨rfl, rfl⟩ hb hJ hN
    exact none_case n pre W hb hJ
  | succ k ih =>
    rintro n p ls pre W hG (⟨rfl, rfl⟩ | ⟨g, pl, pr, la, x, lr, d, wd, rfl, rfl, hg, hk, hl, hr⟩) hb hJ hN
    · exact none_case n pre W hb hJ
    · have hGx : G x := hG x (by simp)
      have hG1 : ∀ y ∈ la, G y := fun y hy => hG y (by simp [hy])
      have hG2 : ∀ y ∈ lr, G y := fun y hy => hG y (by simp [hy])
      have hgl := (Array.getElem?_eq_some_iff.1 hg).1
      have cells : ∀ V, Below w0.heap.size w0 V → V.cell? ⟨g, 0, none⟩ = some (.int .i64 (x.at' : Int)) ∧ V.cell? ⟨g, 1, none⟩ = some (.int .i64 (x.n : Int)) ∧ V.cell? ⟨g, 2, none⟩ = some (.int .i64 (x.count : Int)) ∧ V.cell? ⟨g, 3, none⟩ = some (.int .u64 (x.tag : Int)) ∧ V.cell? ⟨g, 4, none⟩ = some (.int .u8 (x.st : Int)) ∧ V.cell? ⟨g, 5, none⟩ = some (.pointer pl) ∧ V.cell? ⟨g, 6, none⟩ = some (.pointer pr) := by
        intro V hV
        obtain ⟨c0, c1, c2, c3, c4, c5, c6, _⟩ := kn_cells hg
        have key : ∀ i, V.cell? ⟨g, i, none⟩ = w0.cell? ⟨g, i, none⟩ := fun i => hV.cell (p := ⟨g, i, none⟩) hgl
        exact ⟨(key 0).trans c0, (key 1).trans c1, (key 2).trans c2, (key 3).trans c3, (key 4).trans c4, (key 5).trans c5, (key 6).trans c6⟩
      simp only [List.length_append, List.length_cons] at hN
      obtain ⟨_, _, _, _, _, c5, _⟩ := cells W hb
      have hy2 : ∀ W1, J (pre ++ la) W1 → Below w0.heap.size w0 W1 → YieldAt Fence.wide (n - 1) Tryd.prog l #[.agg (pcv x)] W1 fun e W2 =>
          (e = .returned (.bool true) ∧ J (pre ++ la ++ [x]) W2 ∧ Below w0.heap.size w0 W2 ∧ W2.cell? ⟨g, 6, none⟩ = some (.pointer pr)) ∨ (e = .returned (.bool false) ∧ Jx (pre ++ la ++ [x]) W2) := fun W1 hJ1 hb1 =>
        YieldAt.mono (hY (n - 1) _ x W1 hGx hJ1 (by simp; omega)) fun e W2 h => h.elim
          (fun ⟨he, hj, hb2⟩ => .inl ⟨he, hj, hb1.trans hb2, (cells W2 (hb1.trans hb2)).2.2.2.2.2.2⟩) .inr
      have ih1 := (ih (n - 1) pl la pre W hG1 hl hb hJ (by omega)).mono (R' := fun e W1 =>
          (e = .returned (.bool true) ∧ (W1.cell? ⟨g, 0, none⟩ = some (.int .i64 (x.at' : Int)) ∧ W1.cell? ⟨g, 1, none⟩ = some (.int .i64 (x.n : Int)) ∧ W1.cell? ⟨g, 2, none⟩ = some (.int .i64 (x.count : Int)) ∧ W1.cell? ⟨g, 3, none⟩ = some (.int .u64 (x.tag : Int)) ∧ W1.cell? ⟨g, 4, none⟩ = some (.int .u8 (x.st : Int))) ∧ YieldAt Fence.wide (n - 1) Tryd.prog l #[.agg (pcv x)] W1 fun e W2 =>
            (e = .returned (.bool true) ∧ J (pre ++ la ++ [x]) W2 ∧ Below w0.heap.size w0 W2 ∧ W2.cell? ⟨g, 6, none⟩ = some (.pointer pr)) ∨ (e = .returned (.bool false) ∧ Jx (pre ++ la ++ [x]) W2)) ∨
          (e = .returned (.bool false) ∧ ∃ q, q <+: la ∧ Jx (pre ++ q) W1))
        (fun e W1 h => h.elim (fun ⟨he, hj, hb1⟩ => .inl ⟨he, ⟨(cells W1 hb1).1, (cells W1 hb1).2.1, (cells W1 hb1).2.2.1, (cells W1 hb1).2.2.2.1, (cells W1 hb1).2.2.2.2.1⟩, hy2 W1 hj hb1⟩) .inr)
      have ih3 : ∀ W2, J (pre ++ la ++ [x]) W2 → Below w0.heap.size w0 W2 → CallsIn Fence.wide (n - 1) Tryd.prog 68 #[.pointer pr, .func (.yield l) #[] #[]] W2 fun e W' =>
        (e = .returned (.bool true) ∧ J (pre ++ la ++ [x] ++ lr) W' ∧ Below w0.heap.size w0 W') ∨ (e = .returned (.bool false) ∧ ∃ q, q <+: lr ∧ Jx (pre ++ la ++ [x] ++ q) W') := fun W2 h1 h2 => ih (n - 1) pr lr _ W2 hG2 hr h2 h1 (by simp; omega)
      clear hy2 ih cells none_case hY hl hr hg hk hG hGx hG1 hG2
      unfold pcv at ih1
      refine callsIn_of_wp Tryd.func68 rfl trivial ?_ rfl
      simp only [Tryd.ntmps68, List.size_toArray, List.length_cons, List.length_nil, Nat.reduceAdd, Nat.reduceSub, Array.replicate_succ, Array.replicate_zero, List.push_toArray, List.append_toArray, List.nil_append, List.cons_append]
      gi_wp2_with (first
        | (refine ⟨trivial, ?_⟩; (try refine ⟨fun h => (by cases h), ?_⟩); gi_at_call 68; refine ih1.mono ?_; clear ih1; rintro e W1 (⟨rfl, ⟨d0, d1, d2, d3, d4⟩, fn, tmps, assign, body, hy, hR⟩ | ⟨rfl, q, hq, hx1⟩))
        | ((try refine ⟨fun h => (by cases h), ?_⟩); refine hR.mono ?_; clear hR; rintro e W2 (⟨rfl, hJ2, hb2, c6'⟩ | ⟨rfl, hx2⟩))
        | (refine ⟨trivial, ?_⟩; (try refine ⟨fun h => (by cases h), ?_⟩); gi_at_call 68; refine (ih3 _ hJ2 hb2).mono ?_; clear ih3; rintro e W3 (⟨rfl, hJ3, hb3⟩ | ⟨rfl, q, hq, hx3⟩)))
      · go_ret
        exact .inl ⟨rfl, by simpa [List.append_assoc] using hJ3, hb3⟩
      · go_ret
        obtain ⟨r, hr'⟩ := hq
        exact .inr ⟨rfl, la ++ x :: q, ⟨r, by simp [← hr']⟩, by simpa [List.append_assoc] using hx3⟩
      · refine ⟨trivial, ?_⟩
        gi_wp2
        go_ret
        exact .inr ⟨rfl, la ++ [x], ⟨lr, by simp⟩, by simpa [List.append_assoc] using hx2⟩
      · refine ⟨fun _ h => (by cases h), ?_⟩
        gi_wp2
        refine ⟨trivial, ?_⟩
        gi_wp2
        go_ret
        exact .inr ⟨rfl, q, hq.trans (by simp), hx1⟩
end Go.Proofs.YtcpdnalmoaojlaaDoor
