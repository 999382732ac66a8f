/-
  DERIVED. GIVEN WITH THE SEED: THE CARDS: each row of YtnnandjphlajnaaGreatDoorRows.lean that lists a variable, with what it lists TIED to the program's text (the seventh form; the later family's looks); each row that meets fmt, with fmt's text TOLD by the authors' own Lean function (tested against real Go, not proved from fmt's source: count such statements apart). THE CARD IS WHAT COUNTS. Prove the row's statement (the work); the ties are given (YtnnandjphlajnaaGreatDoorTie.lean); close each card by the builder's one call (the guide's Derived/Test/ToyasCard.lean, 'card_holds'). Laid BY PROGRAM, IN A SANDBOX (cutbox-door.mjs). By AI agents, Wed Nov 11 2026. No macro, syntax, notation, axiom, sorry.
-/
import Derived.Test.YtnnandjphlajnaaGreatDoorRows
import GoSem.ClaimSeven
namespace Go.Proofs.YtnnandjphlajnaaGreatDoor
namespace Rows

/-- THE TIED CARD OF 'laws.FnExactKeyTree'. -/
def fnExactKeyTreeCard : Claim7 := { stood := { row := fnExactKeyTreeRow, standIns := [], harness := (true, "a2ee3018bb0fdc4b3159d857e3e0ad2491f6a31a00653890bbb6600ea6081e89"), looks := true }, kinds := [], alts := [], laidByText := true, laidKinds := [.data, .data], laidTests := true, laidLooks := .later }
def FnExactKeyTreeCardSaid : Prop := Claim7.holds Tryz.pinned (.plain (OpenSpec.ofChange fnExactKeyTreeSpec)) fnExactKeyTreeCard

/-- THE TIED CARD OF 'laws.FnExactTbs'. -/
def fnExactTbsCard : Claim7 := { stood := { row := fnExactTbsRow, standIns := [], harness := (true, "a2ee3018bb0fdc4b3159d857e3e0ad2491f6a31a00653890bbb6600ea6081e89"), looks := true }, kinds := [], alts := [], laidByText := true, laidKinds := [.data, .data, .data, .data], laidTests := true, laidLooks := .later }
def FnExactTbsCardSaid : Prop := Claim7.holds Tryz.pinned (.plain (OpenSpec.ofChange fnExactTbsSpec)) fnExactTbsCard

/-- THE TIED CARD OF 'laws.FnExactWriteCert'. -/
def fnExactWriteCertCard : Claim7 := { stood := { row := fnExactWriteCertRow, standIns := [], harness := (true, "a2ee3018bb0fdc4b3159d857e3e0ad2491f6a31a00653890bbb6600ea6081e89"), looks := true }, kinds := [], alts := [], laidByText := true, laidKinds := [.data, .data, .data, .data], laidTests := true, laidLooks := .later }
def FnExactWriteCertCardSaid : Prop := Claim7.holds Tryz.pinned (.plain (OpenSpec.ofChange fnExactWriteCertSpec)) fnExactWriteCertCard

/-- THE TIED CARD OF 'laws.FnExactVerify'. -/
def fnExactVerifyCard : Claim7 := { stood := { row := fnExactVerifyRow, standIns := [], harness := (true, "a2ee3018bb0fdc4b3159d857e3e0ad2491f6a31a00653890bbb6600ea6081e89"), looks := true }, kinds := [], alts := [], laidByText := true, laidKinds := [.data, .data], laidTests := true, laidLooks := .later }
def FnExactVerifyCardSaid : Prop := Claim7.holds Tryz.pinned (.plain (OpenSpec.ofChange fnExactVerifySpec)) fnExactVerifyCard

/-- THE TIED CARD OF 'laws.FnExactSigned'. -/
def fnExactSignedCard : Claim7 := { stood := { row := fnExactSignedRow, standIns := [], harness := (true, "a2ee3018bb0fdc4b3159d857e3e0ad2491f6a31a00653890bbb6600ea6081e89"), looks := true }, kinds := [], alts := [], laidByText := true, laidKinds := [.data, .data, .data, .data], laidTests := true, laidLooks := .later }
def FnExactSignedCardSaid : Prop := Claim7.holds Tryz.pinned (.plain (OpenSpec.ofChange fnExactSignedSpec)) fnExactSignedCard

/-- THE TIED CARD OF 'laws.FnExactIssues'. -/
def fnExactIssuesCard : Claim7 := { stood := { row := fnExactIssuesRow, standIns := [], harness := (true, "a2ee3018bb0fdc4b3159d857e3e0ad2491f6a31a00653890bbb6600ea6081e89"), looks := true }, kinds := [], alts := [], laidByText := true, laidKinds := [.data, .data, .data, .data, .data, .pinned], laidTests := true, laidLooks := .later }
def FnExactIssuesCardSaid : Prop := Claim7.holds Tryz.pinned (.plain (OpenSpec.ofChange fnExactIssuesSpec)) fnExactIssuesCard

/-- THE SECOND FORM's CARD OF 'laws.FnExactKeyTree'. -/
def fnExactKeyTreeUptoCard : Claim7 := { stood := { row := fnExactKeyTreeUptoRow, standIns := [], harness := (true, "a2ee3018bb0fdc4b3159d857e3e0ad2491f6a31a00653890bbb6600ea6081e89"), looks := true }, kinds := [], alts := [], laidByText := true, laidKinds := [.data, .data], laidTests := true, laidLooks := .later }
def FnExactKeyTreeUptoCardSaid : Prop := Claim7.holds Tryz.pinned (.plain (OpenSpec.upto fnExactKeyTreeSpec)) fnExactKeyTreeUptoCard

/-- THE SECOND FORM's CARD OF 'laws.FnExactTbs'. -/
def fnExactTbsUptoCard : Claim7 := { stood := { row := fnExactTbsUptoRow, standIns := [], harness := (true, "a2ee3018bb0fdc4b3159d857e3e0ad2491f6a31a00653890bbb6600ea6081e89"), looks := true }, kinds := [], alts := [], laidByText := true, laidKinds := [.data, .data, .data, .data], laidTests := true, laidLooks := .later }
def FnExactTbsUptoCardSaid : Prop := Claim7.holds Tryz.pinned (.plain (OpenSpec.upto fnExactTbsSpec)) fnExactTbsUptoCard

/-- THE SECOND FORM's CARD OF 'laws.FnExactWriteCert'. -/
def fnExactWriteCertUptoCard : Claim7 := { stood := { row := fnExactWriteCertUptoRow, standIns := [], harness := (true, "a2ee3018bb0fdc4b3159d857e3e0ad2491f6a31a00653890bbb6600ea6081e89"), looks := true }, kinds := [], alts := [], laidByText := true, laidKinds := [.data, .data, .data, .data], laidTests := true, laidLooks := .later }
def FnExactWriteCertUptoCardSaid : Prop := Claim7.holds Tryz.pinned (.plain (OpenSpec.upto fnExactWriteCertSpec)) fnExactWriteCertUptoCard

/-- THE SECOND FORM's CARD OF 'laws.FnExactVerify'. -/
def fnExactVerifyUptoCard : Claim7 := { stood := { row := fnExactVerifyUptoRow, standIns := [], harness := (true, "a2ee3018bb0fdc4b3159d857e3e0ad2491f6a31a00653890bbb6600ea6081e89"), looks := true }, kinds := [], alts := [], laidByText := true, laidKinds := [.data, .data], laidTests := true, laidLooks := .later }
def FnExactVerifyUptoCardSaid : Prop := Claim7.holds Tryz.pinned (.plain (OpenSpec.upto fnExactVerifySpec)) fnExactVerifyUptoCard

/-- THE SECOND FORM's CARD OF 'laws.FnExactSigned'. -/
def fnExactSignedUptoCard : Claim7 := { stood := { row := fnExactSignedUptoRow, standIns := [], harness := (true, "a2ee3018bb0fdc4b3159d857e3e0ad2491f6a31a00653890bbb6600ea6081e89"), looks := true }, kinds := [], alts := [], laidByText := true, laidKinds := [.data, .data, .data, .data], laidTests := true, laidLooks := .later }
def FnExactSignedUptoCardSaid : Prop := Claim7.holds Tryz.pinned (.plain (OpenSpec.upto fnExactSignedSpec)) fnExactSignedUptoCard

/-- THE SECOND FORM's CARD OF 'laws.FnExactIssues'. -/
def fnExactIssuesUptoCard : Claim7 := { stood := { row := fnExactIssuesUptoRow, standIns := [], harness := (true, "a2ee3018bb0fdc4b3159d857e3e0ad2491f6a31a00653890bbb6600ea6081e89"), looks := true }, kinds := [], alts := [], laidByText := true, laidKinds := [.data, .data, .data, .data, .data, .pinned], laidTests := true, laidLooks := .later }
def FnExactIssuesUptoCardSaid : Prop := Claim7.holds Tryz.pinned (.plain (OpenSpec.upto fnExactIssuesSpec)) fnExactIssuesUptoCard
end Rows
end Go.Proofs.YtnnandjphlajnaaGreatDoor
