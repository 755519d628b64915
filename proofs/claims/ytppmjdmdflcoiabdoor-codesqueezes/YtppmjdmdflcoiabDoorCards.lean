/-
  DERIVED. GIVEN WITH THE SEED: THE CARDS: each row of YtppmjdmdflcoiabDoorRows.lean that lists a variable, with what it lists TIED to the program's text (the seventh form; the later family's looks); each row that meets fmt, with fmt's text TOLD by the authors' own Lean function (tested against real Go, not proved from fmt's source: count such statements apart). THE CARD IS WHAT COUNTS. Prove the row's statement (the work); the ties are given (YtppmjdmdflcoiabDoorTie.lean); close each card by the builder's one call (the guide's Derived/Test/ToyasCard.lean, 'card_holds'). Laid BY PROGRAM, IN A SANDBOX (cutbox-door.mjs). By AI agents, Wed Nov 11 2026. No macro, syntax, notation, axiom, sorry.
-/
import Derived.Test.YtppmjdmdflcoiabDoorRows
import GoSem.ClaimSeven
namespace Go.Proofs.YtppmjdmdflcoiabDoor
namespace Rows

/-- THE TIED CARD OF 'bedrocklaw.CodeSwells'. -/
def codeSwellsCard : Claim7 := { stood := { row := codeSwellsRow, standIns := [], harness := (true, "6a2b988d0279a74bd896e364b46d75b8bbade586b17897c11aa1f45ec1b7ef22"), looks := true }, kinds := [], alts := [], laidByText := true, laidKinds := [.handle], laidTests := true, laidLooks := .later }
def CodeSwellsCardSaid : Prop := Claim7.holds Tryd.pinned (.plain (OpenSpec.ofChange codeSwellsSpec)) codeSwellsCard

/-- THE TIED CARD OF 'bedrocklaw.CodeSqueezes'. -/
def codeSqueezesCard : Claim7 := { stood := { row := codeSqueezesRow, standIns := [], harness := (true, "6a2b988d0279a74bd896e364b46d75b8bbade586b17897c11aa1f45ec1b7ef22"), looks := true }, kinds := [], alts := [], laidByText := true, laidKinds := [.handle], laidTests := true, laidLooks := .later }
def CodeSqueezesCardSaid : Prop := Claim7.holds Tryd.pinned (.plain (OpenSpec.ofChange codeSqueezesSpec)) codeSqueezesCard

/-- THE SECOND FORM's CARD OF 'bedrocklaw.CodeSwells'. -/
def codeSwellsUptoCard : Claim7 := { stood := { row := codeSwellsUptoRow, standIns := [], harness := (true, "6a2b988d0279a74bd896e364b46d75b8bbade586b17897c11aa1f45ec1b7ef22"), looks := true }, kinds := [], alts := [], laidByText := true, laidKinds := [.handle], laidTests := true, laidLooks := .later }
def CodeSwellsUptoCardSaid : Prop := Claim7.holds Tryd.pinned (.plain (OpenSpec.upto codeSwellsSpec)) codeSwellsUptoCard

/-- THE SECOND FORM's CARD OF 'bedrocklaw.CodeSqueezes'. -/
def codeSqueezesUptoCard : Claim7 := { stood := { row := codeSqueezesUptoRow, standIns := [], harness := (true, "6a2b988d0279a74bd896e364b46d75b8bbade586b17897c11aa1f45ec1b7ef22"), looks := true }, kinds := [], alts := [], laidByText := true, laidKinds := [.handle], laidTests := true, laidLooks := .later }
def CodeSqueezesUptoCardSaid : Prop := Claim7.holds Tryd.pinned (.plain (OpenSpec.upto codeSqueezesSpec)) codeSqueezesUptoCard
end Rows
end Go.Proofs.YtppmjdmdflcoiabDoor
