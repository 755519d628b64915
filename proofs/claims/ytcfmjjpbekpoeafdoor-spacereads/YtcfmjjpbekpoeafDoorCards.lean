/-
  DERIVED. GIVEN WITH THE SEED: THE CARDS: each row of YtcfmjjpbekpoeafDoorRows.lean that lists a variable, with what it lists TIED to the program's text (the seventh form; the later family's looks); each row that meets fmt, with fmt's text TOLD by the authors' own Lean function (tested against real Go, not proved from fmt's source: count such statements apart). THE CARD IS WHAT COUNTS. Prove the row's statement (the work); the ties are given (YtcfmjjpbekpoeafDoorTie.lean); close each card by the builder's one call (the guide's Derived/Test/ToyasCard.lean, 'card_holds'). Laid BY PROGRAM, IN A SANDBOX (cutbox-door.mjs). By AI agents, Wed Nov 11 2026. No macro, syntax, notation, axiom, sorry.
-/
import Derived.Test.YtcfmjjpbekpoeafDoorRows
import GoSem.ClaimSeven
namespace Go.Proofs.YtcfmjjpbekpoeafDoor
namespace Rows

/-- THE TIED CARD OF 'bedrockkeep.SumBursts'. -/
def sumBurstsCard : Claim7 := { stood := { row := sumBurstsRow, standIns := [], harness := (true, "d4165ee3107e24948d997ca119959c484897ad2e1fd0375a85248cb80076b215"), looks := true }, kinds := [], alts := [], laidByText := true, laidKinds := [.data, .data], laidTests := true, laidLooks := .later }
def SumBurstsCardSaid : Prop := Claim7.holds Tryd.pinned (.plain (OpenSpec.ofChange sumBurstsSpec)) sumBurstsCard

/-- THE TIED CARD OF 'bedrockkeep.ParityBack'. -/
def parityBackCard : Claim7 := { stood := { row := parityBackRow, standIns := [], harness := (true, "d4165ee3107e24948d997ca119959c484897ad2e1fd0375a85248cb80076b215"), looks := true }, kinds := [], alts := [], laidByText := true, laidKinds := [.handle], laidTests := true, laidLooks := .later }
def ParityBackCardSaid : Prop := Claim7.holds Tryd.pinned (.plain (OpenSpec.ofChange parityBackSpec)) parityBackCard

/-- THE TIED CARD OF 'bedrockkeep.SpaceKept'. -/
def spaceKeptCard : Claim7 := { stood := { row := spaceKeptRow, standIns := [], harness := (true, "d4165ee3107e24948d997ca119959c484897ad2e1fd0375a85248cb80076b215"), looks := true }, kinds := [], alts := [], laidByText := true, laidKinds := [.handle], laidTests := true, laidLooks := .later }
def SpaceKeptCardSaid : Prop := Claim7.holds Tryd.pinned (.plain (OpenSpec.ofChange spaceKeptSpec)) spaceKeptCard

/-- THE TIED CARD OF 'bedrockkeep.SpaceReads'. -/
def spaceReadsCard : Claim7 := { stood := { row := spaceReadsRow, standIns := [], harness := (true, "d4165ee3107e24948d997ca119959c484897ad2e1fd0375a85248cb80076b215"), looks := true }, kinds := [], alts := [], laidByText := true, laidKinds := [.handle], laidTests := true, laidLooks := .later }
def SpaceReadsCardSaid : Prop := Claim7.holds Tryd.pinned (.plain (OpenSpec.ofChange spaceReadsSpec)) spaceReadsCard

/-- THE SECOND FORM's CARD OF 'bedrockkeep.SumBursts'. -/
def sumBurstsUptoCard : Claim7 := { stood := { row := sumBurstsUptoRow, standIns := [], harness := (true, "d4165ee3107e24948d997ca119959c484897ad2e1fd0375a85248cb80076b215"), looks := true }, kinds := [], alts := [], laidByText := true, laidKinds := [.data, .data], laidTests := true, laidLooks := .later }
def SumBurstsUptoCardSaid : Prop := Claim7.holds Tryd.pinned (.plain (OpenSpec.upto sumBurstsSpec)) sumBurstsUptoCard

/-- THE SECOND FORM's CARD OF 'bedrockkeep.ParityBack'. -/
def parityBackUptoCard : Claim7 := { stood := { row := parityBackUptoRow, standIns := [], harness := (true, "d4165ee3107e24948d997ca119959c484897ad2e1fd0375a85248cb80076b215"), looks := true }, kinds := [], alts := [], laidByText := true, laidKinds := [.handle], laidTests := true, laidLooks := .later }
def ParityBackUptoCardSaid : Prop := Claim7.holds Tryd.pinned (.plain (OpenSpec.upto parityBackSpec)) parityBackUptoCard

/-- THE SECOND FORM's CARD OF 'bedrockkeep.SpaceKept'. -/
def spaceKeptUptoCard : Claim7 := { stood := { row := spaceKeptUptoRow, standIns := [], harness := (true, "d4165ee3107e24948d997ca119959c484897ad2e1fd0375a85248cb80076b215"), looks := true }, kinds := [], alts := [], laidByText := true, laidKinds := [.handle], laidTests := true, laidLooks := .later }
def SpaceKeptUptoCardSaid : Prop := Claim7.holds Tryd.pinned (.plain (OpenSpec.upto spaceKeptSpec)) spaceKeptUptoCard

/-- THE SECOND FORM's CARD OF 'bedrockkeep.SpaceReads'. -/
def spaceReadsUptoCard : Claim7 := { stood := { row := spaceReadsUptoRow, standIns := [], harness := (true, "d4165ee3107e24948d997ca119959c484897ad2e1fd0375a85248cb80076b215"), looks := true }, kinds := [], alts := [], laidByText := true, laidKinds := [.handle], laidTests := true, laidLooks := .later }
def SpaceReadsUptoCardSaid : Prop := Claim7.holds Tryd.pinned (.plain (OpenSpec.upto spaceReadsSpec)) spaceReadsUptoCard
end Rows
end Go.Proofs.YtcfmjjpbekpoeafDoor
