/-
  DERIVED. GIVEN WITH THE SEED: THE CARDS: each row of YtcpdnalmoaojlaaDoorRows.lean that lists a variable, with what it lists TIED to the program's text (the seventh form; the later family's looks); each row that meets fmt, with fmt's text TOLD by the authors' own Lean function (tested against real Go, not proved from fmt's source: count such statements apart). THE CARD IS WHAT COUNTS. Prove the row's statement (the work); the ties are given (YtcpdnalmoaojlaaDoorTie.lean); close each card by the builder's one call (the guide's Derived/Test/ToyasCard.lean, 'card_holds'). Laid BY PROGRAM, IN A SANDBOX (cutbox-door.mjs). By AI agents, Wed Nov 11 2026. No macro, syntax, notation, axiom, sorry.
-/
import Derived.Test.YtcpdnalmoaojlaaDoorRows
import GoSem.ClaimSeven
namespace Go.Proofs.YtcpdnalmoaojlaaDoor
namespace Rows

/-- THE TIED CARD OF 'bedrocklaw.SpacePlays'. -/
def spacePlaysCard : Claim7 := { stood := { row := spacePlaysRow, standIns := [], harness := (true, "a812dc5680371ff420b6fe10b91dd2aaa467ebe355512859a4f215d403128114"), looks := true }, kinds := [], alts := [], laidByText := true, laidKinds := [.handle], laidTests := true, laidLooks := .later }
def SpacePlaysCardSaid : Prop := Claim7.holds Tryd.pinned (.plain (OpenSpec.ofChange spacePlaysSpec)) spacePlaysCard

/-- THE TIED CARD OF 'bedrockkeep.SpaceKept'. -/
def spaceKeptCard : Claim7 := { stood := { row := spaceKeptRow, standIns := [], harness := (true, "a812dc5680371ff420b6fe10b91dd2aaa467ebe355512859a4f215d403128114"), looks := true }, kinds := [], alts := [], laidByText := true, laidKinds := [.handle], laidTests := true, laidLooks := .later }
def SpaceKeptCardSaid : Prop := Claim7.holds Tryd.pinned (.plain (OpenSpec.ofChange spaceKeptSpec)) spaceKeptCard

/-- THE SECOND FORM's CARD OF 'bedrocklaw.SpacePlays'. -/
def spacePlaysUptoCard : Claim7 := { stood := { row := spacePlaysUptoRow, standIns := [], harness := (true, "a812dc5680371ff420b6fe10b91dd2aaa467ebe355512859a4f215d403128114"), looks := true }, kinds := [], alts := [], laidByText := true, laidKinds := [.handle], laidTests := true, laidLooks := .later }
def SpacePlaysUptoCardSaid : Prop := Claim7.holds Tryd.pinned (.plain (OpenSpec.upto spacePlaysSpec)) spacePlaysUptoCard

/-- THE SECOND FORM's CARD OF 'bedrockkeep.SpaceKept'. -/
def spaceKeptUptoCard : Claim7 := { stood := { row := spaceKeptUptoRow, standIns := [], harness := (true, "a812dc5680371ff420b6fe10b91dd2aaa467ebe355512859a4f215d403128114"), looks := true }, kinds := [], alts := [], laidByText := true, laidKinds := [.handle], laidTests := true, laidLooks := .later }
def SpaceKeptUptoCardSaid : Prop := Claim7.holds Tryd.pinned (.plain (OpenSpec.upto spaceKeptSpec)) spaceKeptUptoCard
end Rows
end Go.Proofs.YtcpdnalmoaojlaaDoor
