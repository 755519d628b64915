/-
  Contracts on slices of parts, nil or not.
-/
import Derived.Test.YtppmjdmdflcoiaaDoorOrd
import Derived.Laws.AppendOwnNone
namespace Go.Proofs.YtppmjdmdflcoiaaDoor
open Go.ChangeShapes Go.WideShapes Go.ChangeAt Go.RowKit
set_option linter.unusedVariables false

theorem PSlice.shape {w : World} {v : Value} {ps : List PartD} (h : PSlice w v ps) : ∃ ao cp, v = .slice ao ps.length cp := by
  rcases h with ⟨b, off, cap, rfl, _⟩ | ⟨ao, cp, rfl, _, rfl⟩
  · exact ⟨_, _, rfl⟩
  · exact ⟨ao, cp, rfl⟩
theorem order_empty (x y : Option Addr) (c d : Nat) (w : World) : Calls Tryd.prog 15 #[.slice x 0 c, .slice y 0 d] w fun e w' => e = .returned (.int .i64 0) ∧ w' = w := by
  go_enter Tryd.func15, Tryd.ntmps15
  go_wp2
  refine wp_loop_rounds 1 ?_
  rw [rounds_succ]
  go_wp2
  go_ret
  exact ⟨rfl, rfl⟩
theorem order_nil_some (x y : Option Addr) (c d n : Nat) (hn : 0 < n) (w : World) : Calls Tryd.prog 15 #[.slice x 0 c, .slice y n d] w fun e w' => e = .returned (.int .i64 (-1)) ∧ w' = w := by
  have hn' : (0 : Int) < (n : Int) := by omega
  go_enter Tryd.func15, Tryd.ntmps15
  go_wp2
  refine wp_loop_rounds 1 ?_
  rw [rounds_succ]
  go_wp2
  go_ret
  exact ⟨rfl, rfl⟩
theorem order_some_nil (x y : Option Addr) (c d n : Nat) (hn : 0 < n) (w : World) : Calls Tryd.prog 15 #[.slice x n c, .slice y 0 d] w fun e w' => e = .returned (.int .i64 1) ∧ w' = w := by
  have hn' : (0 : Int) < (n : Int) := by omega
  go_enter Tryd.func15, Tryd.ntmps15
  go_wp2
  refine wp_loop_rounds 1 ?_
  rw [rounds_succ]
  go_wp2
  go_ret
  exact ⟨rfl, rfl⟩
theorem order_ps (ps qs : List PartD) (v u : Value) (w : World) (hps : ps.length ≤ 140737488355328) (hqs : qs.length ≤ 140737488355328) (h1 : PSlice w v ps) (h2 : PSlice w u qs) :
    Calls Tryd.prog 15 #[v, u] w fun e w' => ∃ r, e = .returned (.int .i64 r) ∧ OrdR ps qs r ∧ Below w.heap.size w w' := by
  rcases h1 with ⟨b, off, cap, rfl, hb, hc⟩ | ⟨ao, cp, rfl, _, rfl⟩
  · rcases h2 with ⟨b', off', cap', rfl, hb', hc'⟩ | ⟨ao', cp', rfl, _, rfl⟩
    · exact order_any ps qs _ _ b off cap b' off' cap' w rfl rfl hps hqs hb hb' hc hc'
    · by_cases h0 : 0 < ps.length
      · exact (order_some_nil _ _ _ _ _ h0 w).mono fun e w' ⟨h, hw⟩ => ⟨1, h, .inr ⟨0, rfl, .inr (.inl ⟨rfl, h0, rfl⟩)⟩, by rw [hw]; exact Below.refl _ _⟩
      · have hz : ps = [] := List.eq_nil_of_length_eq_zero (by omega)
        subst hz
        exact (order_empty _ _ _ _ w).mono fun e w' ⟨h, hw⟩ => ⟨0, h, .inr ⟨0, rfl, .inr (.inr ⟨rfl, rfl, rfl⟩)⟩, by rw [hw]; exact Below.refl _ _⟩
  · rcases h2 with ⟨b', off', cap', rfl, hb', hc'⟩ | ⟨ao', cp', rfl, _, rfl⟩
    · by_cases h0 : 0 < qs.length
      · exact (order_nil_some _ _ _ _ _ h0 w).mono fun e w' ⟨h, hw⟩ => ⟨-1, h, .inr ⟨0, rfl, .inl ⟨rfl, h0, rfl⟩⟩, by rw [hw]; exact Below.refl _ _⟩
      · have hz : qs = [] := List.eq_nil_of_length_eq_zero (by omega)
        subst hz
        exact (order_empty _ _ _ _ w).mono fun e w' ⟨h, hw⟩ => ⟨0, h, .inr ⟨0, rfl, .inr (.inr ⟨rfl, rfl, rfl⟩)⟩, by rw [hw]; exact Below.refl _ _⟩
    · exact (order_empty _ _ _ _ w).mono fun e w' ⟨h, hw⟩ => ⟨0, h, .inr ⟨0, rfl, .inr (.inr ⟨rfl, rfl, rfl⟩)⟩, by rw [hw]; exact Below.refl _ _⟩
theorem refParts_ps (ps : List PartD) (v : Value) (w : World) (hwf : ∀ p ∈ ps, p.wf) (h : PSlice w v ps) : Calls Tryd.prog 14 #[v] w fun e w' => e = .returned (.int .i64 (keyErr ps)) ∧ Below w.heap.size w w' := by
  rcases h with ⟨b, off, cap, rfl, hb, hc⟩ | ⟨ao, cp, rfl, _, rfl⟩
  · by_cases h8 : ps.length ≤ 8
    · rw [keyErr, if_neg (by omega)]
      exact refParts_some ps b off cap w h8 hwf hb hc
    · rw [keyErr, if_pos (by omega)]
      exact (refParts_many b off cap _ w (by omega)).mono fun e w' ⟨h, hw⟩ => ⟨h, by rw [hw]; exact Below.refl _ _⟩
  · exact (refParts_nil ao cp w).mono fun e w' ⟨h, hw⟩ => ⟨h, by rw [hw]; exact Below.refl _ _⟩
theorem room_ps (ps : List PartD) (v : Value) (w : World) (he : keyErr ps = 0) (h : PSlice w v ps) : Calls Tryd.prog 17 #[v] w fun e w' => e = .returned (.int .i64 ((roomOf ps : Nat) : Int)) ∧ w' = w := by
  have h8 : ps.length ≤ 8 := by
    unfold keyErr at he
    split at he
    · omega
    · omega
  rw [keyErr, if_neg (by omega)] at he
  rcases h with ⟨b, off, cap, rfl, hb, hc⟩ | ⟨ao, cp, rfl, _, rfl⟩
  · exact room_some ps b off cap w h8 he hc
  · exact room_nil ao cp w
end Go.Proofs.YtppmjdmdflcoiaaDoor
