/-
  DERIVED. GIVEN WITH THE SEED: THE CARDS: each row of YtigaabhicjcbjabDoorRows.lean that lists a variable, with what it lists TIED to the program's text (the seventh form; the later family's looks); each row that meets fmt, with fmt's text TOLD by the authors' own Lean function (tested against real Go, not proved from fmt's source: count such statements apart). THE CARD IS WHAT COUNTS. Prove the row's statement (the work); the ties are given (YtigaabhicjcbjabDoorTie.lean); close each card by the builder's one call (the guide's Derived/Test/ToyasCard.lean, 'card_holds'). Laid BY PROGRAM, IN A SANDBOX (cutbox-door.mjs). By AI agents, Wed Nov 11 2026. No macro, syntax, notation, axiom, sorry.
-/
import Derived.Test.YtigaabhicjcbjabDoorRows
import GoSem.ClaimSeven
namespace Go.Proofs.YtigaabhicjcbjabDoor
namespace Rows

/-- THE TIED CARD OF 'bedrocklaw.CodeSwells'. -/
def codeSwellsCard : Claim7 := { stood := { row := codeSwellsRow, standIns := [], harness := (true, "d74191837c13844d43609cf62948ca847f613eff346457cd6205d350951bbaf8"), looks := true }, kinds := [], alts := [], laidByText := true, laidKinds := [.handle], laidTests := true, laidLooks := .later }
def CodeSwellsCardSaid : Prop := Claim7.holds Tryd.pinned (.plain (OpenSpec.ofChange codeSwellsSpec)) codeSwellsCard

/-- THE TIED CARD OF 'bedrocklaw.CodeSqueezes'. -/
def codeSqueezesCard : Claim7 := { stood := { row := codeSqueezesRow, standIns := [], harness := (true, "d74191837c13844d43609cf62948ca847f613eff346457cd6205d350951bbaf8"), looks := true }, kinds := [], alts := [], laidByText := true, laidKinds := [.handle], laidTests := true, laidLooks := .later }
def CodeSqueezesCardSaid : Prop := Claim7.holds Tryd.pinned (.plain (OpenSpec.ofChange codeSqueezesSpec)) codeSqueezesCard

/-- THE TIED CARD OF 'bedrocklaw.ParityMakes'. -/
def parityMakesCard : Claim7 := { stood := { row := parityMakesRow, standIns := [], harness := (true, "d74191837c13844d43609cf62948ca847f613eff346457cd6205d350951bbaf8"), looks := true }, kinds := [], alts := [], laidByText := true, laidKinds := [.handle], laidTests := true, laidLooks := .later }
def ParityMakesCardSaid : Prop := Claim7.holds Tryd.pinned (.plain (OpenSpec.ofChange parityMakesSpec)) parityMakesCard

/-- THE TIED CARD OF 'bedrocklaw.ParityMends'. -/
def parityMendsCard : Claim7 := { stood := { row := parityMendsRow, standIns := [], harness := (true, "d74191837c13844d43609cf62948ca847f613eff346457cd6205d350951bbaf8"), looks := true }, kinds := [], alts := [], laidByText := true, laidKinds := [.handle], laidTests := true, laidLooks := .later }
def ParityMendsCardSaid : Prop := Claim7.holds Tryd.pinned (.plain (OpenSpec.ofChange parityMendsSpec)) parityMendsCard

/-- THE TIED CARD OF 'bedrocklaw.ParityFinds'. -/
def parityFindsCard : Claim7 := { stood := { row := parityFindsRow, standIns := [], harness := (true, "d74191837c13844d43609cf62948ca847f613eff346457cd6205d350951bbaf8"), looks := true }, kinds := [], alts := [], laidByText := true, laidKinds := [.handle], laidTests := true, laidLooks := .later }
def ParityFindsCardSaid : Prop := Claim7.holds Tryd.pinned (.plain (OpenSpec.ofChange parityFindsSpec)) parityFindsCard

/-- THE SECOND FORM's CARD OF 'bedrocklaw.CodeSwells'. -/
def codeSwellsUptoCard : Claim7 := { stood := { row := codeSwellsUptoRow, standIns := [], harness := (true, "d74191837c13844d43609cf62948ca847f613eff346457cd6205d350951bbaf8"), looks := true }, kinds := [], alts := [], laidByText := true, laidKinds := [.handle], laidTests := true, laidLooks := .later }
def CodeSwellsUptoCardSaid : Prop := Claim7.holds Tryd.pinned (.plain (OpenSpec.upto codeSwellsSpec)) codeSwellsUptoCard

/-- THE SECOND FORM's CARD OF 'bedrocklaw.CodeSqueezes'. -/
def codeSqueezesUptoCard : Claim7 := { stood := { row := codeSqueezesUptoRow, standIns := [], harness := (true, "d74191837c13844d43609cf62948ca847f613eff346457cd6205d350951bbaf8"), looks := true }, kinds := [], alts := [], laidByText := true, laidKinds := [.handle], laidTests := true, laidLooks := .later }
def CodeSqueezesUptoCardSaid : Prop := Claim7.holds Tryd.pinned (.plain (OpenSpec.upto codeSqueezesSpec)) codeSqueezesUptoCard

/-- THE SECOND FORM's CARD OF 'bedrocklaw.ParityMakes'. -/
def parityMakesUptoCard : Claim7 := { stood := { row := parityMakesUptoRow, standIns := [], harness := (true, "d74191837c13844d43609cf62948ca847f613eff346457cd6205d350951bbaf8"), looks := true }, kinds := [], alts := [], laidByText := true, laidKinds := [.handle], laidTests := true, laidLooks := .later }
def ParityMakesUptoCardSaid : Prop := Claim7.holds Tryd.pinned (.plain (OpenSpec.upto parityMakesSpec)) parityMakesUptoCard

/-- THE SECOND FORM's CARD OF 'bedrocklaw.ParityMends'. -/
def parityMendsUptoCard : Claim7 := { stood := { row := parityMendsUptoRow, standIns := [], harness := (true, "d74191837c13844d43609cf62948ca847f613eff346457cd6205d350951bbaf8"), looks := true }, kinds := [], alts := [], laidByText := true, laidKinds := [.handle], laidTests := true, laidLooks := .later }
def ParityMendsUptoCardSaid : Prop := Claim7.holds Tryd.pinned (.plain (OpenSpec.upto parityMendsSpec)) parityMendsUptoCard

/-- THE SECOND FORM's CARD OF 'bedrocklaw.ParityFinds'. -/
def parityFindsUptoCard : Claim7 := { stood := { row := parityFindsUptoRow, standIns := [], harness := (true, "d74191837c13844d43609cf62948ca847f613eff346457cd6205d350951bbaf8"), looks := true }, kinds := [], alts := [], laidByText := true, laidKinds := [.handle], laidTests := true, laidLooks := .later }
def ParityFindsUptoCardSaid : Prop := Claim7.holds Tryd.pinned (.plain (OpenSpec.upto parityFindsSpec)) parityFindsUptoCard
end Rows
end Go.Proofs.YtigaabhicjcbjabDoor
