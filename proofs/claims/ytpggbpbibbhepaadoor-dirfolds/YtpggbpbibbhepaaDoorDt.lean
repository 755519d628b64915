/-
  The tables of characters: what the row's list gives; a start that fits.
-/
import Derived.Test.YtpggbpbibbhepaaDoorRows
import Derived.Test.YtpggbpbibbhepaaDoorDa
import Derived.ShutString
import Derived.SizedLaws
import Derived.ChangeOld
import Derived.Deep.DeepHandedRow
import Derived.Lib.LaidTab
import Derived.Lib.LaidU8
import Derived.PinnedBridge
namespace Go.Proofs.YtpggbpbibbhepaaDoor
open Go.ChangeShapes Go.WideShapes Go.ChangeAt Go.RowKit
set_option maxRecDepth 100000

theorem own : ownKnob Tryd.prog.godebug = none := by kernel_rfl
theorem acc_eq : Rows.laid_unicode_utf8_acceptRanges = Lib.acceptData := by kernel_rfl
theorem tabs_of {W : World} (h : laidMetH Tryd.prog Rows.dirFoldsRow.laid W) : Lib.Utf8Tabs 0 1 W := by
  have h' : laidMet Tryd.prog Rows.dirFoldsRow.laid W := h
  refine utf8Tabs_of_reads (ρ := Tryd.lays260_ren) Tryd.lays260 ⟨by kernel_rfl, by kernel_rfl, by kernel_rfl, by kernel_rfl, by kernel_rfl, by kernel_rfl, by kernel_rfl⟩ ?_ ?_
  · exact Pinned.utf8First_eq ▸ Lib.laidMet.reads h' (.tail _ (.head _))
  · exact acc_eq ▸ Lib.laidMet.reads h' (.head _)

theorem tabs_size {W : World} (h : Lib.Utf8Tabs 0 1 W) : 2 ≤ W.heap.size := by
  have h1 := h.1 0 (by omega)
  have h2 := (h.2 0 (by omega)).1
  have a : 0 < W.heap.size := by
    rcases Nat.lt_or_ge 0 W.heap.size with hl | hl
    · exact hl
    · simp [World.cell?, Array.getElem?_eq_none hl] at h1
  have b : 1 < W.heap.size := by
    rcases Nat.lt_or_ge 1 W.heap.size with hl | hl
    · exact hl
    · simp [World.cell?, Array.getElem?_eq_none hl] at h2
  omega

/-- A start that fits: the settled world, the tables holding what their initialisers lay. -/
def putCells (cs : Array Value) : Obj → Obj
  | .cells _ t frozen => .cells cs t frozen
  | o => o
def firstC : Array Value := (Lib.firstTab.map (Value.int .u8)).toArray
def accC : Array Value := ((List.range 16).flatMap fun i => [Value.int .u8 (Lib.accLo i), Value.int .u8 (Lib.accHi i)]).toArray
def laidIn (w : World) : World :=
  { w with heap := (w.heap.modify 0 (putCells firstC)).modify 1 (putCells accC) }
end Go.Proofs.YtpggbpbibbhepaaDoor
