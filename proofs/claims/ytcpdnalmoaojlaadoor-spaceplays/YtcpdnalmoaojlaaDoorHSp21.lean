import Derived.Test.YtcpdnalmoaojlaaDoorHSp9
import Derived.Test.YtcpdnalmoaojlaaDoorHSp8
import Derived.Test.YtcpdnalmoaojlaaDoorHSp15
import Derived.Test.YtcpdnalmoaojlaaDoorHRg
import Derived.Deep.RegionHeld3

/-
  Load.
-/
namespace Go.Proofs.YtcpdnalmoaojlaaDoor
open Go.ChangeShapes Go.WideShapes Go.ChangeAt Go.RowKit
set_option linter.unusedVariables false
set_option linter.unusedSimpArgs false

theorem end_big (x : Pc) (w : World) (h : x.stop ≤ 1099511627776) : Calls Tryd.prog 64 #[.agg (pcv x)] w fun e w' => e = .returned (.int .i64 (x.stop : Int)) ∧ w' = w.alloc (.cells (pcv x) 103) := by
  have hs : x.stop = x.at' + x.n := rfl
  go_enter Tryd.func64, Tryd.ntmps64
  unfold pcv
  go_wp2
  go_ret
  exact ⟨ret_int (by omega), rfl⟩
theorem info_pc : (Tryd.prog.info? 103).map (fun i => (i.zero, i.size, i.bytes)) = some (some (.agg #[.int .i64 0, .int .i64 0, .int .i64 0, .int .u64 0, .int .u8 0]), 5, 40) := by kernel_rfl
/-- Pieces in a slice that a function has made. -/
def POwns (w : World) (base : Nat) (v : Value) (l : List Pc) : Prop := w.ownsRow base 103 5 v l.length (l.flatMap fun x => (pcv x).toList)
theorem POwns.form {w : World} {B : Nat} {v : Value} {l : List Pc} (h : POwns w B v l) : ∃ ao cp, v = .slice ao l.length cp := by
  rcases h.2 with ⟨rfl, hn⟩ | ⟨g, c, cur, rfl, _⟩
  · exact ⟨none, 0, by rw [hn]⟩
  · exact ⟨_, _, rfl⟩
theorem POwns.below {w w' : World} {B : Nat} {v : Value} {l : List Pc} (h : POwns w B v l) (hb : Below w.heap.size w w') : POwns w' B v l := by
  refine ⟨h.1, ?_⟩
  rcases h.2 with hn | ⟨g, c, cur, h3, h4, h5, h6⟩
  · exact .inl hn
  · exact .inr ⟨g, c, cur, h3, h4, (hb.block g (Array.getElem?_eq_some_iff.1 h5).1).trans h5, h6⟩
theorem flat_at (l : List Pc) : ∀ (i j : Nat) (h : i < l.length) (hj : j < 5), (l.flatMap fun x => (pcv x).toList)[i * 5 + j]? = (pcv l[i])[j]? := by
  induction l with
  | nil => intro i j h; simp at h
  | cons x l ih =>
    intro i j h hj
    rw [List.flatMap_cons]
    have h5 : (pcv x).toList.length = 5 := rfl
    cases i with
    | zero =>
      rw [Nat.zero_mul, Nat.zero_add, List.getElem?_append_left (by omega)]
      simp
    | succ i =>
      rw [List.getElem?_append_right (by omega), h5, show (i + 1) * 5 + j - 5 = i * 5 + j from by omega]
      have := ih i j (by simpa using h) hj
      simpa using this
theorem POwns.at {w : World} {B g cp n : Nat} {o : Nat} {l : List Pc} (h : POwns w B (.slice (some ⟨g, o, none⟩) n cp) l) : o = 0 ∧ n = l.length ∧ l.length ≤ cp ∧ g < w.heap.size ∧ PcsAt w g 0 l := by
  rcases h.2 with ⟨h2, _⟩ | ⟨g', c, cur, h3, h4, h5, h6, h7, h8, h9⟩
  · cases h2
  · simp at h3
    obtain ⟨⟨rfl, rfl⟩, rfl, rfl⟩ := h3
    refine ⟨rfl, rfl, h6, (Array.getElem?_eq_some_iff.1 h5).1, fun i hi => ?_⟩
    have key : ∀ j, j < 5 → w.cell? ⟨g, 0 + i * 5 + j, none⟩ = (pcv l[i])[j]? := fun j hj => by
      rw [Nat.zero_add, ← flat_at l i j hi hj, ← h9]
      simp only [World.cell?, h5]
      rw [List.getElem?_take_of_lt (by omega)]
      simp
    exact ⟨by simpa [pcv] using key 0 (by omega), by simpa [pcv] using key 1 (by omega), by simpa [pcv] using key 2 (by omega), by simpa [pcv] using key 3 (by omega), by simpa [pcv] using key 4 (by omega)⟩
/-- What Load reads. -/
def loadR (bs : List UInt8) : Option (Nat × List Pc) :=
  if bs.length < 4 ∨ (bs.length - 4) % 18 ≠ 0 then none else
    if 1073741824 < leN (bs.take 4) then none else (loadL ((bs.length - 4) / 18) (bs.drop 4) 0 (leN (bs.take 4))).map (fun l => (leN (bs.take 4), l))
/-- What Load tells. -/
def LoadPost (w : World) (bs : List UInt8) (e : Ending) (w' : World) : Prop :=
  Below w.heap.size w w' ∧ ((loadR bs = none ∧ e = .returned (.tuple #[.pointer none, .iface 27 (.int .i64 7)])) ∨
    ∃ s rows l, loadR bs = some (rows, l) ∧ e = .returned (.tuple #[.pointer (some ⟨s, 0, none⟩), .nilIface]) ∧ w.heap.size ≤ s ∧ SpAt w' s rows l)
end Go.Proofs.YtcpdnalmoaojlaaDoor
