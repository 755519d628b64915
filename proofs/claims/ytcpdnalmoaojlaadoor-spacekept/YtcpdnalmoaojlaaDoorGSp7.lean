import Derived.Test.YtcpdnalmoaojlaaDoorGSp6

/-
  pieces: a range over the pieces of a space.
-/
namespace Go.Proofs.YtcpdnalmoaojlaaDoor
open Go.RowKit Go.Shelf
set_option linter.unusedVariables false
attribute [local go_sem] Oper.semAt_some

set_option maxHeartbeats 1000000 in
theorem pieces1_in (n l Bt bs : Nat) (p0 : Option Addr) (ls : List Pc) (w0 : World) (G : Pc → Prop) (hG : ∀ x ∈ ls, G x) (J Jx : List Pc → World → Prop)
    (hY : ∀ pre x W, G x → J pre W → pre.length < ls.length → YieldAt Fence.wide (n - 1) Tryd.prog l #[.agg (pcv x)] W fun e W' =>
      (e = .returned (.bool true) ∧ J (pre ++ [x]) W' ∧ Below w0.heap.size W W') ∨ (e = .returned (.bool false) ∧ Jx (pre ++ [x]) W'))
    (W : World) (hBt : W.cell? ⟨Bt, 0, none⟩ = some (.pointer (some ⟨bs, 0, none⟩))) (hbs : W.cell? ⟨bs, 3, none⟩ = some (.pointer p0)) (hT : KT w0 p0 ls) (hb : Below w0.heap.size w0 W) (h0 : J [] W) :
    CallsIn Fence.wide n Tryd.prog 67 #[.func (.yield l) #[] #[], .pointer (some ⟨Bt, 0, none⟩)] W fun e W' => (∃ v, e = .returned v) ∧
      ((∃ ys, ys = ls ∧ J ys W') ∨ (∃ pre, pre <+: ls ∧ Jx pre W')) := by
  obtain ⟨k, hk⟩ := hT
  have hp := each_in l ls.length w0 G J Jx (fun m pre x W hg hj hl => yieldAny m (hY pre x W hg hj hl)) k (n - 1) p0 ls [] W hG hk hb h0 (by simp)
  clear hY hk hG
  refine callsIn_of_wp Tryd.func67 rfl trivial ?_ rfl
  simp only [Tryd.ntmps67, List.size_toArray, List.length_cons, List.length_nil, Nat.reduceAdd, Nat.reduceSub, Array.replicate_succ, Array.replicate_zero, List.push_toArray, List.append_toArray, List.nil_append, List.cons_append]
  gi_wp2_with (refine ⟨trivial, ?_⟩; (try refine ⟨fun h => (by cases h), ?_⟩); gi_at_call 68; refine hp.mono ?_; clear hp; rintro e W1 (⟨rfl, hJ1, _⟩ | ⟨rfl, q, hq, hx⟩))
  · go_end0
    exact ⟨⟨_, rfl⟩, .inl ⟨_, rfl, by simpa using hJ1⟩⟩
  · go_end0
    exact ⟨⟨_, rfl⟩, .inr ⟨q, hq, by simpa using hx⟩⟩
set_option maxHeartbeats 1000000 in
theorem pieces_in (n : Nat) (s : Option Addr) (w : World) :
    CallsIn Fence.wide n Tryd.prog 55 #[.pointer s] w fun e w' => e = .returned (.func (.func 67) #[] #[.pointer (some ⟨w.heap.size, 0, none⟩)]) ∧ w' = w.alloc (.cells #[.pointer s] 24) := by
  refine callsIn_of_wp Tryd.func55 rfl trivial ?_ rfl
  simp only [Tryd.ntmps55, List.size_toArray, List.length_cons, List.length_nil, Nat.reduceAdd, Nat.reduceSub, Array.replicate_succ, Array.replicate_zero, List.push_toArray, List.append_toArray, List.nil_append, List.cons_append]
  gi_wp2
  go_ret
  exact ⟨rfl, rfl⟩
/-- What pieces hands back, gone over: at a loop that leaves what lay ahead of it. -/
theorem pieces_stops (n Bt bs : Nat) (p0 : Option Addr) (ls : List Pc) (w0 w : World) (hBt : Bt < w.heap.size) (hbl : bs < w.heap.size) (hc : w.cell? ⟨Bt, 0, none⟩ = some (.pointer (some ⟨bs, 0, none⟩))) (hs : w.cell? ⟨bs, 3, none⟩ = some (.pointer p0)) (hT : KT w0 p0 ls) (hb : Below w0.heap.size w0 w) :
    SeqStopsK Fence.wide n Tryd.prog 67 #[.pointer (some ⟨Bt, 0, none⟩)] (fun x : Pc => #[Value.agg (pcv x)]) (Below w0.heap.size) (fun ys => ys = ls) (fun pre => pre <+: ls) ls.length w := fun l J Jx W hW _ _ hY h0 =>
  pieces1_in n l Bt bs p0 ls w0 (fun _ => True) (fun _ _ => trivial) J Jx (fun pre x W _ => hY pre x W) W ((hW.cell (p := ⟨Bt, 0, none⟩) hBt).trans hc) ((hW.cell (p := ⟨bs, 3, none⟩) hbl).trans hs) hT (hb.trans (hW.mono hb.size)) h0
end Go.Proofs.YtcpdnalmoaojlaaDoor
