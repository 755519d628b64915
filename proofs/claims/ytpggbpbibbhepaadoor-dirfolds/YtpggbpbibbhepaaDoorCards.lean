/-
  DERIVED. GIVEN WITH THE SEED: THE CARDS: each row of YtpggbpbibbhepaaDoorRows.lean that lists a variable, with what it lists TIED to the program's text (the seventh form; the later family's looks); each row that meets fmt, with fmt's text TOLD by the authors' own Lean function (tested against real Go, not proved from fmt's source: count such statements apart). THE CARD IS WHAT COUNTS. Prove the row's statement (the work); the ties are given (YtpggbpbibbhepaaDoorTie.lean); close each card by the builder's one call (the guide's Derived/Test/ToyasCard.lean, 'card_holds'). Laid BY PROGRAM, IN A SANDBOX (cutbox-door.mjs). By AI agents, Wed Nov 11 2026. No macro, syntax, notation, axiom, sorry.
-/
import Derived.Test.YtpggbpbibbhepaaDoorRows
import GoSem.ClaimSeven
namespace Go.Proofs.YtpggbpbibbhepaaDoor
namespace Rows

/-- THE TIED CARD OF 'bedrocklaw.DirFolds'. -/
def dirFoldsCard : Claim7 := { stood := { row := dirFoldsRow, standIns := [], harness := (true, "8c449d72baf5195c86a873ee8b8c973df0fcfc08748562db15fdb28b416bc4cd"), looks := false }, kinds := [], alts := [], laidByText := true, laidKinds := [.data, .pinned], laidTests := true, laidLooks := .later }
def DirFoldsCardSaid : Prop := Claim7.holds Tryd.pinned (.plain (OpenSpec.ofChange dirFoldsSpec)) dirFoldsCard

/-- THE SECOND FORM's CARD OF 'bedrocklaw.DirFolds'. -/
def dirFoldsUptoCard : Claim7 := { stood := { row := dirFoldsUptoRow, standIns := [], harness := (true, "8c449d72baf5195c86a873ee8b8c973df0fcfc08748562db15fdb28b416bc4cd"), looks := false }, kinds := [], alts := [], laidByText := true, laidKinds := [.data, .pinned], laidTests := true, laidLooks := .later }
def DirFoldsUptoCardSaid : Prop := Claim7.holds Tryd.pinned (.plain (OpenSpec.upto dirFoldsSpec)) dirFoldsUptoCard
end Rows
end Go.Proofs.YtpggbpbibbhepaaDoor
