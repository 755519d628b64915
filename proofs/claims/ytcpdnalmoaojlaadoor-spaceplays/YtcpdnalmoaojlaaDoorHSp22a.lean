import Derived.Test.YtcpdnalmoaojlaaDoorHSp21

/-
  Load, walked.
-/
namespace Go.Proofs.YtcpdnalmoaojlaaDoor
open Go.ChangeShapes Go.WideShapes Go.ChangeAt Go.RowKit
set_option linter.unusedVariables false
set_option linter.unusedSimpArgs false

theorem load_bad {w w' : World} {bs : List UInt8} (h : loadR bs = none) (hb : Below w.heap.size w w') : LoadPost w bs (.returned (.tuple #[.pointer none, .iface 27 (.int .i64 7)])) w' := ⟨hb, .inl ⟨h, rfl⟩⟩
/-- What the loop of Load keeps: k runs were read, they are pre. -/
structure LI (w : World) (bs : List UInt8) (rows K s b off cp : Nat) (x v : Value) (stop : Nat) (k : Nat) (pre : List Pc) (W : World) : Prop where
  sp : W.heap[s]? = some (.cells (spv rows (rowsL isUsed pre) 0 none) 87 (0, 0))
  sl : x = .slice (some ⟨b, off + 4 + 18 * k, none⟩) (18 * (K - k)) (cp - 4 - 18 * k) ∨ (k = K ∧ ∃ o c, x = .slice o 0 c)
  kK : k ≤ K
  own : POwns W w.heap.size v pre
  len : pre.length = k
  all : loadL K (bs.drop 4) 0 rows = (loadL (K - k) (bs.drop (4 + 18 * k)) stop rows).map (pre ++ ·)
  fits : Fits 0 pre stop
  le : stop ≤ rows
  used : ∀ p ∈ pre, p.st = 1
  below : Below w.heap.size w W
  apart : ¬ Go.Proofs.YtcpdnalmoaojlaaDoor.own v s
theorem li_step {w : World} {bs : List UInt8} {rows K s b off cp : Nat} {x v : Value} {stop k : Nat} {pre : List Pc} {W : World} (h : LI w bs rows K s b off cp x v stop k pre W) (hlt : k < K) (hlen : bs.length = 4 + 18 * K) {p : Pc} (hp : p = runP ((bs.drop (4 + 18 * k)).take 18)) (p5 : p.st = 1)
    (hg : ¬ (p.at' < stop ∨ p.n < 1 ∨ rows < p.stop ∨ p.count < 1)) {x' v' : Value} {W' : World} (hsp : W'.heap[s]? = some (.cells (spv rows (rowsL isUsed pre + p.n) 0 none) 87 (0, 0)))
    (hx : x' = .slice (some ⟨b, off + 4 + 18 * (k + 1), none⟩) (18 * (K - (k + 1))) (cp - 4 - 18 * (k + 1)) ∨ (k + 1 = K ∧ ∃ o c, x' = .slice o 0 c)) (ho : POwns W' w.heap.size v' (pre ++ [p])) (hb : Below w.heap.size w W') (ha : ¬ Go.Proofs.YtcpdnalmoaojlaaDoor.own v' s) :
    LI w bs rows K s b off cp x' v' p.stop (k + 1) (pre ++ [p]) W' := by
  refine ⟨?_, hx, by omega, ho, by rw [List.length_append, h.len]; rfl, ?_, ?_, by omega, ?_, hb, ha⟩
  · rw [rowsL_append]
    have : isUsed p = true := by simp [isUsed, p5]
    simp only [rowsL, this, if_true, Nat.add_zero]
    exact hsp
  · rw [h.all, show K - k = (K - (k + 1)) + 1 by omega]
    have hne : ¬ (bs.drop (4 + 18 * k)).length = 0 := by rw [List.length_drop]; omega
    simp only [loadL]
    rw [if_neg hne, ← hp, if_neg hg, List.drop_drop, show 4 + 18 * k + 18 = 4 + 18 * (k + 1) by omega, Option.map_map]
    congr 1
    funext l
    simp
  · refine fits_append.2 ⟨stop, h.fits, ?_⟩
    have : p.stop = p.at' + p.n := rfl
    simp only [Fits]
    omega
  · intro q hq
    rcases List.mem_append.1 hq with hq | hq
    · exact h.used q hq
    · rw [List.mem_singleton.1 hq]; exact p5
theorem li_bad {w : World} {bs : List UInt8} {rows K s b off cp : Nat} {x v : Value} {stop k : Nat} {pre : List Pc} {W : World} (h : LI w bs rows K s b off cp x v stop k pre W) (hlt : k < K) (hlen : bs.length = 4 + 18 * K) {p : Pc} (hp : p = runP ((bs.drop (4 + 18 * k)).take 18))
    (hg : p.at' < stop ∨ p.n < 1 ∨ rows < p.stop ∨ p.count < 1) : loadL K (bs.drop 4) 0 rows = none := by
  rw [h.all, show K - k = (K - (k + 1)) + 1 by omega]
  have hne : ¬ (bs.drop (4 + 18 * k)).length = 0 := by rw [List.length_drop]; omega
  simp only [loadL]
  rw [if_neg hne, ← hp, if_pos hg]
  rfl
theorem li_done {w : World} {bs : List UInt8} {rows K s b off cp : Nat} {x v : Value} {stop : Nat} {pre : List Pc} {W : World} (h : LI w bs rows K s b off cp x v stop K pre W) (hlen : bs.length = 4 + 18 * K) : loadL K (bs.drop 4) 0 rows = some pre := by
  rw [h.all, Nat.sub_self]
  simp only [loadL]
  rw [if_pos (by rw [List.length_drop]; omega)]
  simp
theorem held_none {l : List Pc} (h : ∀ p ∈ l, p.st = 1) : rowsL isHeld l = 0 := by
  induction l with
  | nil => rfl
  | cons x l ih =>
    have := h x List.mem_cons_self
    simp only [rowsL, isHeld, this]
    simpa using ih (fun p hp => h p (List.mem_cons_of_mem _ hp))
end Go.Proofs.YtcpdnalmoaojlaaDoor
