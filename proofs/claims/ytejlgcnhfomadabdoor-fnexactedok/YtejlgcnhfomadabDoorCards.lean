/-
  DERIVED. GIVEN WITH THE SEED: THE CARDS: each row of YtejlgcnhfomadabDoorRows.lean that lists a variable, with what it lists TIED to the program's text (the seventh form; the later family's looks); each row that meets fmt, with fmt's text TOLD by the authors' own Lean function (tested against real Go, not proved from fmt's source: count such statements apart). THE CARD IS WHAT COUNTS. Prove the row's statement (the work); the ties are given (YtejlgcnhfomadabDoorTie.lean); close each card by the builder's one call (the guide's Derived/Test/ToyasCard.lean, 'card_holds'). Laid BY PROGRAM, IN A SANDBOX (cutbox-door.mjs). By AI agents, Wed Nov 11 2026. No macro, syntax, notation, axiom, sorry.
-/
import Derived.Test.YtejlgcnhfomadabDoorRows
import GoSem.ClaimSeven
namespace Go.Proofs.YtejlgcnhfomadabDoor
namespace Rows

/-- THE TIED CARD OF 'laws.FnExactPointMul'. -/
def fnExactPointMulCard : Claim7 := { stood := { row := fnExactPointMulRow, standIns := [], harness := (true, "82e5eff8e65fa414120d5e59de5f0e1be5504084ac4e830b810d342b49eda6b5"), looks := true }, kinds := [], alts := [], laidByText := true, laidKinds := [.data, .data], laidTests := true, laidLooks := .later }
def FnExactPointMulCardSaid : Prop := Claim7.holds Tryd.pinned (.plain (OpenSpec.ofChange fnExactPointMulSpec)) fnExactPointMulCard

/-- THE TIED CARD OF 'laws.FnExactTwoMul'. -/
def fnExactTwoMulCard : Claim7 := { stood := { row := fnExactTwoMulRow, standIns := [], harness := (true, "82e5eff8e65fa414120d5e59de5f0e1be5504084ac4e830b810d342b49eda6b5"), looks := true }, kinds := [], alts := [], laidByText := true, laidKinds := [.data, .data], laidTests := true, laidLooks := .later }
def FnExactTwoMulCardSaid : Prop := Claim7.holds Tryd.pinned (.plain (OpenSpec.ofChange fnExactTwoMulSpec)) fnExactTwoMulCard

/-- THE TIED CARD OF 'laws.FnExactPointBytes'. -/
def fnExactPointBytesCard : Claim7 := { stood := { row := fnExactPointBytesRow, standIns := [], harness := (true, "82e5eff8e65fa414120d5e59de5f0e1be5504084ac4e830b810d342b49eda6b5"), looks := true }, kinds := [], alts := [], laidByText := true, laidKinds := [.data, .data], laidTests := true, laidLooks := .later }
def FnExactPointBytesCardSaid : Prop := Claim7.holds Tryd.pinned (.plain (OpenSpec.ofChange fnExactPointBytesSpec)) fnExactPointBytesCard

/-- THE TIED CARD OF 'laws.FnExactPointRead'. -/
def fnExactPointReadCard : Claim7 := { stood := { row := fnExactPointReadRow, standIns := [], harness := (true, "82e5eff8e65fa414120d5e59de5f0e1be5504084ac4e830b810d342b49eda6b5"), looks := true }, kinds := [], alts := [], laidByText := true, laidKinds := [.data, .data], laidTests := true, laidLooks := .later }
def FnExactPointReadCardSaid : Prop := Claim7.holds Tryd.pinned (.plain (OpenSpec.ofChange fnExactPointReadSpec)) fnExactPointReadCard

/-- THE TIED CARD OF 'laws.FnExactEdOk'. -/
def fnExactEdOkCard : Claim7 := { stood := { row := fnExactEdOkRow, standIns := [], harness := (true, "82e5eff8e65fa414120d5e59de5f0e1be5504084ac4e830b810d342b49eda6b5"), looks := true }, kinds := [], alts := [], laidByText := true, laidKinds := [.data, .data], laidTests := true, laidLooks := .later }
def FnExactEdOkCardSaid : Prop := Claim7.holds Tryd.pinned (.plain (OpenSpec.ofChange fnExactEdOkSpec)) fnExactEdOkCard

/-- THE TIED CARD OF 'laws.FnExactPairOk'. -/
def fnExactPairOkCard : Claim7 := { stood := { row := fnExactPairOkRow, standIns := [], harness := (true, "82e5eff8e65fa414120d5e59de5f0e1be5504084ac4e830b810d342b49eda6b5"), looks := true }, kinds := [], alts := [], laidByText := true, laidKinds := [.data, .data], laidTests := true, laidLooks := .later }
def FnExactPairOkCardSaid : Prop := Claim7.holds Tryd.pinned (.plain (OpenSpec.ofChange fnExactPairOkSpec)) fnExactPairOkCard

/-- THE SECOND FORM's CARD OF 'laws.FnExactPointMul'. -/
def fnExactPointMulUptoCard : Claim7 := { stood := { row := fnExactPointMulUptoRow, standIns := [], harness := (true, "82e5eff8e65fa414120d5e59de5f0e1be5504084ac4e830b810d342b49eda6b5"), looks := true }, kinds := [], alts := [], laidByText := true, laidKinds := [.data, .data], laidTests := true, laidLooks := .later }
def FnExactPointMulUptoCardSaid : Prop := Claim7.holds Tryd.pinned (.plain (OpenSpec.upto fnExactPointMulSpec)) fnExactPointMulUptoCard

/-- THE SECOND FORM's CARD OF 'laws.FnExactTwoMul'. -/
def fnExactTwoMulUptoCard : Claim7 := { stood := { row := fnExactTwoMulUptoRow, standIns := [], harness := (true, "82e5eff8e65fa414120d5e59de5f0e1be5504084ac4e830b810d342b49eda6b5"), looks := true }, kinds := [], alts := [], laidByText := true, laidKinds := [.data, .data], laidTests := true, laidLooks := .later }
def FnExactTwoMulUptoCardSaid : Prop := Claim7.holds Tryd.pinned (.plain (OpenSpec.upto fnExactTwoMulSpec)) fnExactTwoMulUptoCard

/-- THE SECOND FORM's CARD OF 'laws.FnExactPointBytes'. -/
def fnExactPointBytesUptoCard : Claim7 := { stood := { row := fnExactPointBytesUptoRow, standIns := [], harness := (true, "82e5eff8e65fa414120d5e59de5f0e1be5504084ac4e830b810d342b49eda6b5"), looks := true }, kinds := [], alts := [], laidByText := true, laidKinds := [.data, .data], laidTests := true, laidLooks := .later }
def FnExactPointBytesUptoCardSaid : Prop := Claim7.holds Tryd.pinned (.plain (OpenSpec.upto fnExactPointBytesSpec)) fnExactPointBytesUptoCard

/-- THE SECOND FORM's CARD OF 'laws.FnExactPointRead'. -/
def fnExactPointReadUptoCard : Claim7 := { stood := { row := fnExactPointReadUptoRow, standIns := [], harness := (true, "82e5eff8e65fa414120d5e59de5f0e1be5504084ac4e830b810d342b49eda6b5"), looks := true }, kinds := [], alts := [], laidByText := true, laidKinds := [.data, .data], laidTests := true, laidLooks := .later }
def FnExactPointReadUptoCardSaid : Prop := Claim7.holds Tryd.pinned (.plain (OpenSpec.upto fnExactPointReadSpec)) fnExactPointReadUptoCard

/-- THE SECOND FORM's CARD OF 'laws.FnExactEdOk'. -/
def fnExactEdOkUptoCard : Claim7 := { stood := { row := fnExactEdOkUptoRow, standIns := [], harness := (true, "82e5eff8e65fa414120d5e59de5f0e1be5504084ac4e830b810d342b49eda6b5"), looks := true }, kinds := [], alts := [], laidByText := true, laidKinds := [.data, .data], laidTests := true, laidLooks := .later }
def FnExactEdOkUptoCardSaid : Prop := Claim7.holds Tryd.pinned (.plain (OpenSpec.upto fnExactEdOkSpec)) fnExactEdOkUptoCard

/-- THE SECOND FORM's CARD OF 'laws.FnExactPairOk'. -/
def fnExactPairOkUptoCard : Claim7 := { stood := { row := fnExactPairOkUptoRow, standIns := [], harness := (true, "82e5eff8e65fa414120d5e59de5f0e1be5504084ac4e830b810d342b49eda6b5"), looks := true }, kinds := [], alts := [], laidByText := true, laidKinds := [.data, .data], laidTests := true, laidLooks := .later }
def FnExactPairOkUptoCardSaid : Prop := Claim7.holds Tryd.pinned (.plain (OpenSpec.upto fnExactPairOkSpec)) fnExactPairOkUptoCard
end Rows
end Go.Proofs.YtejlgcnhfomadabDoor
