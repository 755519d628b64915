import Derived.Test.YtcpdnalmoaojlaaDoorHLent
import Derived.Deep.QuietTactic
import Derived.BigQuiet
import Derived.BigRegion
import Derived.RegionTactic
import Derived.Deep.RegionWith
import Derived.Handy

/-
  A tree of pieces in memory; depth, end.
-/
namespace Go.Proofs.YtcpdnalmoaojlaaDoor
open Go.ChangeShapes Go.WideShapes Go.ChangeAt Go.RowKit
set_option linter.unusedVariables false

/-- A piece's cells. -/
theorem hid_mk {p : Prop} (h : p) : Hid p := h
def pcv (p : Pc) : Array Value := #[.int .i64 (p.at' : Int), .int .i64 (p.n : Int), .int .i64 (p.count : Int), .int .u64 (p.tag : Int), .int .u8 (p.st : Int)]
/-- A knot's cells. -/
def knv (p : Pc) (pl pr : Option Addr) (d f e : Nat) (wd : Int) : Array Value := #[.int .i64 (p.at' : Int), .int .i64 (p.n : Int), .int .i64 (p.count : Int), .int .u64 (p.tag : Int), .int .u8 (p.st : Int), .pointer pl, .pointer pr, .int .i64 (d : Int), .int .i64 (f : Int), .int .i64 (e : Int), .int .i64 wd]
/-- What a knot says of the pieces l that it has. -/
structure KnOk (l : List Pc) (d : Nat) (wd : Int) : Prop where
  d1 : 1 ≤ d
  dl : d ≤ l.length
  w0 : 0 ≤ wd
  w1 : wd ≤ 1073741824
  wide : Wide l wd
/-- A list of pieces that lies in memory as a tree, no deeper than that. -/
def KD (w : World) : Nat → Option Addr → List Pc → Prop
  | 0, p, l => p = none ∧ l = []
  | k + 1, p, l => (p = none ∧ l = []) ∨ ∃ (b : Nat) (pl pr : Option Addr) (la : List Pc) (x : Pc) (lr : List Pc) (d : Nat) (wd : Int), p = some ⟨b, 0, none⟩ ∧ l = la ++ x :: lr ∧ w.heap[b]? = some (.cells (knv x pl pr d (fstL l) (lstL l) wd) 118 (0, 0)) ∧ KnOk l d wd ∧ KD w k pl la ∧ KD w k pr lr
theorem KD.keep {w w' : World} (hk : ∀ (b : Nat) (cur : Array Value), w.heap[b]? = some (Obj.cells cur 118 (0, 0)) → w'.heap[b]? = w.heap[b]?) (k : Nat) : ∀ (p : Option Addr) (l : List Pc), KD w k p l → KD w' k p l := by
  induction k with
  | zero => intro p l h; exact h
  | succ k ih =>
    rintro p l (h | ⟨b, pl, pr, la, x, lr, d, wd, h1, h2, h3, h4, h5, h6⟩)
    · exact .inl h
    · exact .inr ⟨b, pl, pr, la, x, lr, d, wd, h1, h2, by rw [hk b _ h3]; exact h3, h4, ih _ _ h5, ih _ _ h6⟩
theorem KD.up {w : World} (k : Nat) : ∀ (p : Option Addr) (l : List Pc), KD w k p l → KD w (k + 1) p l := by
  induction k with
  | zero => intro p l h; exact .inl h
  | succ k ih =>
    rintro p l (h | ⟨b, pl, pr, la, x, lr, d, wd, h1, h2, h3, h4, h5, h6⟩)
    · exact .inl h
    · exact .inr ⟨b, pl, pr, la, x, lr, d, wd, h1, h2, h3, h4, ih _ _ h5, ih _ _ h6⟩
theorem KD.le {w : World} {j k : Nat} {p : Option Addr} {l : List Pc} (h : KD w j p l) (hjk : j ≤ k) : KD w k p l := by
  induction hjk with
  | refl => exact h
  | step _ ih => exact KD.up _ _ _ ih
/-- A list of pieces that lies in memory as a tree. -/
def KT (w : World) (p : Option Addr) (l : List Pc) : Prop := ∃ k, KD w k p l
theorem KT.below {w w' : World} {p : Option Addr} {l : List Pc} (h : KT w p l) (hb : Below w.heap.size w w') : KT w' p l := by
  obtain ⟨k, h⟩ := h
  exact ⟨k, KD.keep (fun b cur e => hb.block b (Array.getElem?_eq_some_iff.1 e).1) k p l h⟩
theorem KT.nil (w : World) : KT w none [] := ⟨0, rfl, rfl⟩
theorem KT.of_none {w : World} {l : List Pc} (h : KT w none l) : l = [] := by
  obtain ⟨k, h⟩ := h
  cases k with
  | zero => exact h.2
  | succ k =>
    rcases h with ⟨_, h⟩ | ⟨_, _, _, _, _, _, _, _, h1, _⟩
    · exact h
    · cases h1
theorem KT.of_some {w : World} {p : Addr} {l : List Pc} (h : KT w (some p) l) : ∃ (b : Nat) (pl pr : Option Addr) (la : List Pc) (x : Pc) (lr : List Pc) (d : Nat) (wd : Int), p = ⟨b, 0, none⟩ ∧ l = la ++ x :: lr ∧ w.heap[b]? = some (.cells (knv x pl pr d (fstL l) (lstL l) wd) 118 (0, 0)) ∧ KnOk l d wd ∧ KT w pl la ∧ KT w pr lr := by
  obtain ⟨k, h⟩ := h
  cases k with
  | zero => cases h.1
  | succ k =>
    rcases h with ⟨h, _⟩ | ⟨b, pl, pr, la, x, lr, d, wd, h1, h2, h3, h4, h5, h6⟩
    · cases h
    · exact ⟨b, pl, pr, la, x, lr, d, wd, Option.some.inj h1, h2, h3, h4, ⟨k, h5⟩, ⟨k, h6⟩⟩
theorem KT.node {w : World} {b : Nat} {pl pr : Option Addr} {la lr : List Pc} {x : Pc} {d : Nat} {wd : Int} (h3 : w.heap[b]? = some (.cells (knv x pl pr d (fstL (la ++ x :: lr)) (lstL (la ++ x :: lr)) wd) 118 (0, 0))) (h4 : KnOk (la ++ x :: lr) d wd) (h5 : KT w pl la) (h6 : KT w pr lr) : KT w (some ⟨b, 0, none⟩) (la ++ x :: lr) := by
  obtain ⟨i, h5⟩ := h5
  obtain ⟨j, h6⟩ := h6
  exact ⟨max i j + 1, .inr ⟨b, pl, pr, la, x, lr, d, wd, rfl, rfl, h3, h4, h5.le (by omega), h6.le (by omega)⟩⟩
/-- What a knot's cells are. -/
theorem kn_cells {w : World} {b d f e : Nat} {x : Pc} {pl pr : Option Addr} {wd : Int} (h : w.heap[b]? = some (.cells (knv x pl pr d f e wd) 118 (0, 0))) :
    w.cell? ⟨b, 0, none⟩ = some (.int .i64 (x.at' : Int)) ∧ w.cell? ⟨b, 1, none⟩ = some (.int .i64 (x.n : Int)) ∧ w.cell? ⟨b, 2, none⟩ = some (.int .i64 (x.count : Int)) ∧ w.cell? ⟨b, 3, none⟩ = some (.int .u64 (x.tag : Int)) ∧ w.cell? ⟨b, 4, none⟩ = some (.int .u8 (x.st : Int)) ∧ w.cell? ⟨b, 5, none⟩ = some (.pointer pl) ∧ w.cell? ⟨b, 6, none⟩ = some (.pointer pr) ∧ w.cell? ⟨b, 7, none⟩ = some (.int .i64 (d : Int)) ∧ w.cell? ⟨b, 8, none⟩ = some (.int .i64 (f : Int)) ∧ w.cell? ⟨b, 9, none⟩ = some (.int .i64 (e : Int)) ∧ w.cell? ⟨b, 10, none⟩ = some (.int .i64 wd) := by
  simp [World.cell?, h, knv]
/-- How deep a knot says that it is. -/
def Dep (w : World) (p : Option Addr) (d : Nat) : Prop := (p = none ∧ d = 0) ∨ ∃ b, p = some ⟨b, 0, none⟩ ∧ 1 ≤ d ∧ w.cell? ⟨b, 7, none⟩ = some (.int .i64 (d : Int)) ∧ b < w.heap.size
theorem Dep.below {w w' : World} {p : Option Addr} {d : Nat} (h : Dep w p d) (hb : Below w.heap.size w w') : Dep w' p d := by
  rcases h with h | ⟨b, h1, h2, h3, h4⟩
  · exact .inl h
  · exact .inr ⟨b, h1, h2, (hb.cell (p := ⟨b, 7, none⟩) h4).trans h3, Nat.lt_of_lt_of_le h4 hb.size⟩
theorem KT.dep {w : World} {p : Option Addr} {l : List Pc} (h : KT w p l) : ∃ d, Dep w p d ∧ d ≤ l.length := by
  cases p with
  | none => exact ⟨0, .inl ⟨rfl, rfl⟩, Nat.zero_le _⟩
  | some p =>
    obtain ⟨b, pl, pr, la, x, lr, d, wd, rfl, h2, h3, h4, _⟩ := h.of_some
    exact ⟨d, .inr ⟨b, rfl, h4.d1, (kn_cells h3).2.2.2.2.2.2.2.1, (Array.getElem?_eq_some_iff.1 h3).1⟩, h4.dl⟩
theorem depth_any (p : Option Addr) (d : Nat) (w : World) (h : Dep w p d) : Calls Tryd.prog 73 #[.pointer p] w fun e w' => e = .returned (.int .i64 (d : Int)) ∧ w' = w := by
  rcases h with ⟨rfl, rfl⟩ | ⟨b, rfl, _, c7, _⟩
  · go_enter Tryd.func73, Tryd.ntmps73
    go_wp2
    go_ret
    exact ⟨rfl, rfl⟩
  · go_enter Tryd.func73, Tryd.ntmps73
    go_wp2
    go_ret
    exact ⟨rfl, rfl⟩
theorem end_any (x : Pc) (w : World) (h : x.stop ≤ 1073741824) : Calls Tryd.prog 64 #[.agg (pcv x)] w fun e w' => e = .returned (.int .i64 (x.stop : Int)) ∧ w' = w.alloc (.cells (pcv x) 103) := by
  have hst : x.stop = x.at' + x.n := rfl
  have h1 : x.at' ≤ 1073741824 := by omega
  have h2 : x.n ≤ 1073741824 := by omega
  have e : ((x.stop : Nat) : Int) = (x.at' : Int) + (x.n : Int) := by omega
  rw [e]
  unfold pcv
  clear hst h e
  go_enter Tryd.func64, Tryd.ntmps64
  go_wp2
  go_ret
  exact ⟨rfl, rfl⟩
end Go.Proofs.YtcpdnalmoaojlaaDoor
