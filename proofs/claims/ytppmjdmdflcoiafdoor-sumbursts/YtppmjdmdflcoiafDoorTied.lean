/-
  The tables: what the row's list gives; a start that fits.
-/
import Derived.Test.YtppmjdmdflcoiafDoorRows
import Derived.Test.YtppmjdmdflcoiafDoorSum9
import Derived.WalkKit
import Derived.ProofKit
import Derived.OpenShut
import Derived.ShutString
import Derived.SizedLaws
import Derived.ChangeOld
import Derived.Deep.DeepHandedRow
import Derived.Lib.LaidTab
namespace Go.Proofs.YtppmjdmdflcoiafDoor
open Go.ChangeShapes Go.WideShapes Go.ChangeAt Go.RowKit

theorem own : ownKnob Tryd.prog.godebug = none := by kernel_rfl
theorem gLow : Tryd.prog.globalNamed "bedrock/sum.low" = some 0 := by kernel_rfl
theorem gHigh : Tryd.prog.globalNamed "bedrock/sum.high" = some 1 := by kernel_rfl
theorem gLowType : (Tryd.prog.globals[0]?).map (·.type) = some 28 := by kernel_rfl
theorem gHighType : (Tryd.prog.globals[1]?).map (·.type) = some 28 := by kernel_rfl
theorem cellsTab : Tryd.prog.cellsOf 28 = 16 := by kernel_rfl
theorem cellsU32 : Tryd.prog.cellsOf 22 = 1 := by kernel_rfl

def lowZ : List Int := Crc.lowL.map fun n : Nat => (n : Int)
def highZ : List Int := Crc.highL.map fun n : Nat => (n : Int)

theorem tab_low {W : World} (h : laidMetH Tryd.prog Rows.sumBurstsRow.laid W) : Lib.TabIs Tryd.prog W "bedrock/sum.low" .u32 lowZ :=
  Lib.tabIs_of_head (rest := [("bedrock/sum.high", Rows.laid_bedrock_sum_high)]) gLow gLowType Tryd.underlying28 Tryd.underlying22 cellsU32 cellsTab h
theorem tab_high {W : World} (h : laidMetH Tryd.prog Rows.sumBurstsRow.laid W) : Lib.TabIs Tryd.prog W "bedrock/sum.high" .u32 highZ := by
  have h' : laidMet Tryd.prog [("bedrock/sum.low", Rows.laid_bedrock_sum_low), ("bedrock/sum.high", Lib.tabData .u32 highZ)] W := h
  obtain ⟨ps, ⟨_, _, _, _, _, _, _, _, _, _, hr, _⟩, _⟩ := h'
  obtain ⟨g', t', cs, fuel, p, q, hg', ht', hvar, hd, _, _⟩ := hr
  obtain rfl := Option.some.inj (gHigh.symm.trans hg')
  obtain rfl := Option.some.inj (gHighType.symm.trans ht')
  unfold Lib.TabIs
  rw [hvar, ← Lib.cells_of_tab Tryd.underlying28 Tryd.underlying22 cellsU32 cellsTab hd]
theorem tabs_of {W : World} (h : laidMetH Tryd.prog Rows.sumBurstsRow.laid W) : Tabs W := by
  refine ⟨fun j hj => ?_, fun j hj => ?_⟩
  · have := (tab_low h).cell gLow j (by simpa [lowZ, Crc.lowL] using hj)
    rw [this, show lowZ.getD j 0 = ((Crc.lowL.getD j 0 : Nat) : Int) by simp [lowZ, List.getD]; cases Crc.lowL[j]? <;> simp]
  · have := (tab_high h).cell gHigh j (by simpa [highZ, Crc.highL] using hj)
    rw [this, show highZ.getD j 0 = ((Crc.highL.getD j 0 : Nat) : Int) by simp [highZ, List.getD]; cases Crc.highL[j]? <;> simp]
theorem two_blocks {W : World} (h : Tabs W) : 2 ≤ W.heap.size := by
  have h1 := h.2 0 (by omega)
  have : 1 < W.heap.size := by
    rcases Nat.lt_or_ge 1 W.heap.size with hl | hl
    · exact hl
    · simp [World.cell?, Array.getElem?_eq_none hl] at h1
  omega

/-- A start that fits: the settled world, the tables holding what their initialisers lay. -/
def putCells (cs : Array Value) : Obj → Obj
  | .cells _ t frozen => .cells cs t frozen
  | o => o
def laidIn (w : World) : World :=
  { w with heap := (w.heap.modify 0 (putCells (lowZ.map (Value.int .u32)).toArray)).modify 1 (putCells (highZ.map (Value.int .u32)).toArray) }
end Go.Proofs.YtppmjdmdflcoiafDoor
