import Derived.Test.YtcpdnalmoaojlaaDoorGSp17
import Derived.Test.YtcpdnalmoaojlaaDoorGAp
import Derived.Test.YtcpdnalmoaojlaaDoorGSp16

/-
  Runs, Bytes.
-/
namespace Go.Proofs.YtcpdnalmoaojlaaDoor
open Go.RowKit Go.Shelf
set_option linter.unusedVariables false
set_option linter.unusedSimpArgs false
attribute [local go_sem] Oper.semAt_some

set_option maxHeartbeats 1000000 in
theorem runs_in (n : Nat) (s : Option Addr) (w : World) :
    CallsIn Fence.wide n Tryd.prog 38 #[.pointer s] w fun e w' => e = .returned (.func (.func 54) #[] #[.pointer (some ⟨w.heap.size, 0, none⟩)]) ∧ w' = w.alloc (.cells #[.pointer s] 24) := by
  refine callsIn_of_wp Tryd.func38 rfl trivial ?_ rfl
  simp only [Tryd.ntmps38, List.size_toArray, List.length_cons, List.length_nil, Nat.reduceAdd, Nat.reduceSub, Array.replicate_succ, Array.replicate_zero, List.push_toArray, List.append_toArray, List.nil_append, List.cons_append]
  gi_wp2
  go_ret
  exact ⟨rfl, rfl⟩
/-- A piece whose numbers are small. -/
def Small (x : Pc) : Prop := x.at' ≤ 1073741824 ∧ x.n ≤ 1073741824 ∧ x.count ≤ 65535 ∧ x.tag < 18446744073709551616
theorem SpOk.small {rows : Nat} {l : List Pc} (h : SpOk rows l) : ∀ x ∈ l, Small x := fun x hx => by
  obtain ⟨h1, h2, h3⟩ := fits_mem h.fits x hx
  obtain ⟨_, h5, h6, _⟩ := h.ok x hx
  have h4 := h.rows30
  have e : x.stop = x.at' + x.n := rfl
  exact ⟨by omega, by omega, h5, h6⟩
/-- The box of a slice, and a run's box. -/
structure BS (B Bb b : Nat) (v : Value) (l : List UInt8) (x : Pc) (X : World) : Prop where
  box : X.heap[Bb]? = some (.cells #[v] 53 (0, 0))
  run : X.heap[b]? = some (.cells (runv x) 48 (0, 0))
  owns : Owns X B v l
  n1 : ¬ own v Bb
  n2 : ¬ own v b
  ne : Bb ≠ b
theorem bs_step {B Bb b : Nat} {v v' : Value} {l l' : List UInt8} {x : Pc} {X X1 : World} (h : BS B Bb b v l x X) (h1 : Owns X1 B v' l') (g : Grow (own v) X (own v') X1) :
    BS B Bb b v' l' x (X1.setCell ⟨Bb, 0, none⟩ v') ∧ Grow (fun k => own v k ∨ k = Bb) X (fun k => own v' k ∨ k = Bb) (X1.setCell ⟨Bb, 0, none⟩ v') := by
  have hB := (Array.getElem?_eq_some_iff.1 h.box).1
  have hb := (Array.getElem?_eq_some_iff.1 h.run).1
  have hs := g.kept.size
  have n1 : ¬ own v' Bb := fun hk => (g.sub _ hk).1.elim h.n1 (fun hk => by omega)
  have n2 : ¬ own v' b := fun hk => (g.sub _ hk).1.elim h.n2 (fun hk => by omega)
  have e1 := (g.kept.block Bb hB h.n1).trans h.box
  have e2 := (g.kept.block b hb h.n2).trans h.run
  refine ⟨⟨?_, ?_, ?_, n1, n2, h.ne⟩, ⟨⟨g.kept.os, g.kept.tape, g.kept.output, by simp [World.setCell]; exact hs, fun k hk hu => ?_⟩, ?_⟩⟩
  · rw [heap_put e1]
    simp
  · rw [Below.heap_setCell _ _ _ _ (Ne.symm h.ne)]
    exact e2
  · refine World.ownsRow.kept h1 (w' := X1.setCell ⟨Bb, 0, none⟩ v') (row := some Bb) ⟨rfl, rfl, rfl, by simp [World.setCell], fun k _ hk => Below.heap_setCell _ _ _ _ (fun e => hk (by rw [e]))⟩ (.inr n1)
  · rw [Below.heap_setCell _ _ _ _ (fun e => hu (.inr e))]
    exact g.kept.block k hk (fun h => hu (.inl h))
  · rintro k (hk | rfl)
    · obtain ⟨h3, h4⟩ := g.sub k hk
      exact ⟨h3.imp .inl id, by simp [World.setCell]; exact h4⟩
    · exact ⟨.inl (.inr rfl), by simp [World.setCell]; omega⟩
theorem BS.cells {B Bb b : Nat} {v : Value} {l : List UInt8} {x : Pc} {X : World} (h : BS B Bb b v l x X) : X.cell? ⟨Bb, 0, none⟩ = some v ∧ X.frozen? ⟨Bb, 0, none⟩ = false ∧ X.cell? ⟨b, 0, none⟩ = some (.int .i64 (x.at' : Int)) ∧ X.cell? ⟨b, 1, none⟩ = some (.int .i64 (x.n : Int)) ∧ X.cell? ⟨b, 2, none⟩ = some (.int .i64 (x.count : Int)) ∧ X.cell? ⟨b, 3, none⟩ = some (.int .u64 (x.tag : Int)) :=
  ⟨by simp [World.cell?, h.box], unfrozen h.box 0, by simp [World.cell?, h.run, runv], by simp [World.cell?, h.run, runv], by simp [World.cell?, h.run, runv], by simp [World.cell?, h.run, runv]⟩
/-- What the loop of Bytes keeps. -/
def ByI (B Bb rows : Nat) (pre : List Pc) (V : Nat → Prop) (X : World) : Prop :=
  ∃ v, X.heap[Bb]? = some (.cells #[v] 53 (0, 0)) ∧ Owns X B v (spB rows pre) ∧ ¬ own v Bb ∧ ∀ k, V k ↔ (own v k ∨ k = Bb)
theorem Owns.kept {U : Nat → Prop} {W W' : World} {B : Nat} {v : Value} {l : List UInt8} (h : Owns W B v l) (hK : Kept U W W') (hu : ∀ k, own v k → U k) : Owns W' B v l := by
  refine ⟨h.1, ?_⟩
  rcases h.2 with hn | ⟨g, c, cur, rfl, h4, h5, h6⟩
  · exact .inl hn
  · exact .inr ⟨g, c, cur, rfl, h4, (hK.block g (Array.getElem?_eq_some_iff.1 h5).1 (hu g rfl)).trans h5, h6⟩
theorem ByI.foot (B Bb rows : Nat) : Foot (ByI B Bb rows) := by
  rintro pre V W W' ⟨v, h1, h2, h3, h4⟩ hK
  exact ⟨v, (hK.block _ (Array.getElem?_eq_some_iff.1 h1).1 ((h4 _).2 (.inr rfl))).trans h1, h2.kept hK (fun k hk => (h4 k).2 (.inl hk)), h3, h4⟩
def ByAct (s rows Bb Bt b : Nat) (v0 : Value) (x : Pc) : Act :=
  { tmps := #[.pointer (some ⟨s, 0, none⟩), undef, .slice none 0 0, .pointer (some ⟨Bb, 0, none⟩), .pointer (some ⟨b, 0, none⟩), .pointer (some ⟨s, 0, none⟩), .pointer (some ⟨s, 0, none⟩), .pointer (some ⟨s, 0, none⟩), .int .i64 (rows : Int), .int .u64 (rows : Int), v0, .pointer (some ⟨s, 0, none⟩), .func (.func 54) #[] #[.pointer (some ⟨Bt, 0, none⟩)], .agg #[.int .i64 (x.at' : Int), .int .i64 (x.n : Int), .int .i64 (x.count : Int), .int .u64 (x.tag : Int)], undef, undef, undef, undef, undef, undef, undef, undef, undef, undef, undef, undef, undef, undef, undef, undef, undef, undef, undef, undef], defers := [] }
def ByA (B s rows Bb Bt : Nat) (v0 : Value) (pre : List Pc) (x : Pc) (a' : Act) (V : Nat → Prop) (X : World) : Prop :=
  ∃ v b, a' = ByAct s rows Bb Bt b v0 x ∧ BS B Bb b v (spB rows pre) x X ∧ (∀ k, V k ↔ (own v k ∨ k = Bb ∨ k = b))
theorem ByA.foot (B s rows Bb Bt : Nat) (v0 : Value) (pre : List Pc) (x : Pc) (a' : Act) : Foot1 (ByA B s rows Bb Bt v0 pre x a') := by
  rintro V W W' ⟨v, b, h1, h2, h3⟩ hK
  exact ⟨v, b, h1, ⟨(hK.block _ (Array.getElem?_eq_some_iff.1 h2.box).1 ((h3 _).2 (.inr (.inl rfl)))).trans h2.box, (hK.block _ (Array.getElem?_eq_some_iff.1 h2.run).1 ((h3 _).2 (.inr (.inr rfl)))).trans h2.run, h2.owns.kept hK (fun k hk => (h3 k).2 (.inl hk)), h2.n1, h2.n2, h2.ne⟩, h3⟩
theorem Owns.form {w : World} {B : Nat} {v : Value} {l : List UInt8} (h : Owns w B v l) : ∃ ao n cp, v = .slice ao n cp := by
  obtain ⟨ao, cp, h⟩ := h.shape
  exact ⟨ao, _, cp, h⟩
theorem spB_snoc (rows : Nat) (pre : List Pc) (x : Pc) : spB rows (pre ++ [x]) = (((spB rows pre ++ toLe x.at' 4) ++ toLe x.n 4) ++ toLe x.count 2) ++ toLe x.tag 8 := by
  simp [spB, runB]
theorem spB_length (rows : Nat) (l : List Pc) : (spB rows l).length = 4 + 18 * l.length := by
  unfold spB
  rw [List.length_append, toLe_length, flat_length]
end Go.Proofs.YtcpdnalmoaojlaaDoor
