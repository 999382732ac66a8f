/-
  DERIVED. GIVEN WITH THE SEED: THE CARDS: each row of YtdaneanloknkpacGreatDoorRows.lean that lists a variable, with what it lists TIED to the program's text (the seventh form; the later family's looks); each row that meets fmt, with fmt's text TOLD by the authors' own Lean function (tested against real Go, not proved from fmt's source: count such statements apart). THE CARD IS WHAT COUNTS. Prove the row's statement (the work); the ties are given (YtdaneanloknkpacGreatDoorTie.lean); close each card by the builder's one call (the guide's Derived/Test/ToyasCard.lean, 'card_holds'). Laid BY PROGRAM, IN A SANDBOX (cutbox-door.mjs). By AI agents, Wed Nov 11 2026. No macro, syntax, notation, axiom, sorry.
-/
import Derived.Test.YtdaneanloknkpacGreatDoorRows
import GoSem.ClaimSeven
namespace Go.Proofs.YtdaneanloknkpacGreatDoor
namespace Rows

/-- THE TIED CARD OF 'laws.FnExactSigSize'. -/
def fnExactSigSizeCard : Claim7 := { stood := { row := fnExactSigSizeRow, standIns := [], harness := (true, "b0ca1d3ad52c4321aa2783e5d452170a08f4e31f73aaf4c9d53e8fb8fa6898c0"), looks := true }, kinds := [], alts := [], laidByText := true, laidKinds := [.data, .data], laidTests := true, laidLooks := .later }
def FnExactSigSizeCardSaid : Prop := Claim7.holds Tryz.pinned (.plain (OpenSpec.ofChange fnExactSigSizeSpec)) fnExactSigSizeCard

/-- THE TIED CARD OF 'laws.FnExactVerify'. -/
def fnExactVerifyCard : Claim7 := { stood := { row := fnExactVerifyRow, standIns := [], harness := (true, "b0ca1d3ad52c4321aa2783e5d452170a08f4e31f73aaf4c9d53e8fb8fa6898c0"), looks := true }, kinds := [], alts := [], laidByText := true, laidKinds := [.data, .data], laidTests := true, laidLooks := .later }
def FnExactVerifyCardSaid : Prop := Claim7.holds Tryz.pinned (.plain (OpenSpec.ofChange fnExactVerifySpec)) fnExactVerifyCard

/-- THE TIED CARD OF 'laws.FnVerified'. -/
def fnVerifiedCard : Claim7 := { stood := { row := fnVerifiedRow, standIns := [], harness := (true, "b0ca1d3ad52c4321aa2783e5d452170a08f4e31f73aaf4c9d53e8fb8fa6898c0"), looks := true }, kinds := [], alts := [], laidByText := true, laidKinds := [.data, .data], laidTests := true, laidLooks := .later }
def FnVerifiedCardSaid : Prop := Claim7.holds Tryz.pinned (.plain (OpenSpec.ofChange fnVerifiedSpec)) fnVerifiedCard

/-- THE TIED CARD OF 'laws.FnExactSigned'. -/
def fnExactSignedCard : Claim7 := { stood := { row := fnExactSignedRow, standIns := [], harness := (true, "b0ca1d3ad52c4321aa2783e5d452170a08f4e31f73aaf4c9d53e8fb8fa6898c0"), looks := true }, kinds := [], alts := [], laidByText := true, laidKinds := [.data, .data, .data, .data], laidTests := true, laidLooks := .later }
def FnExactSignedCardSaid : Prop := Claim7.holds Tryz.pinned (.plain (OpenSpec.ofChange fnExactSignedSpec)) fnExactSignedCard

/-- THE TIED CARD OF 'laws.FnExactKeyTree'. -/
def fnExactKeyTreeCard : Claim7 := { stood := { row := fnExactKeyTreeRow, standIns := [], harness := (true, "b0ca1d3ad52c4321aa2783e5d452170a08f4e31f73aaf4c9d53e8fb8fa6898c0"), looks := true }, kinds := [], alts := [], laidByText := true, laidKinds := [.data, .data], laidTests := true, laidLooks := .later }
def FnExactKeyTreeCardSaid : Prop := Claim7.holds Tryz.pinned (.plain (OpenSpec.ofChange fnExactKeyTreeSpec)) fnExactKeyTreeCard

/-- THE SECOND FORM's CARD OF 'laws.FnExactSigSize'. -/
def fnExactSigSizeUptoCard : Claim7 := { stood := { row := fnExactSigSizeUptoRow, standIns := [], harness := (true, "b0ca1d3ad52c4321aa2783e5d452170a08f4e31f73aaf4c9d53e8fb8fa6898c0"), looks := true }, kinds := [], alts := [], laidByText := true, laidKinds := [.data, .data], laidTests := true, laidLooks := .later }
def FnExactSigSizeUptoCardSaid : Prop := Claim7.holds Tryz.pinned (.plain (OpenSpec.upto fnExactSigSizeSpec)) fnExactSigSizeUptoCard

/-- THE SECOND FORM's CARD OF 'laws.FnExactVerify'. -/
def fnExactVerifyUptoCard : Claim7 := { stood := { row := fnExactVerifyUptoRow, standIns := [], harness := (true, "b0ca1d3ad52c4321aa2783e5d452170a08f4e31f73aaf4c9d53e8fb8fa6898c0"), looks := true }, kinds := [], alts := [], laidByText := true, laidKinds := [.data, .data], laidTests := true, laidLooks := .later }
def FnExactVerifyUptoCardSaid : Prop := Claim7.holds Tryz.pinned (.plain (OpenSpec.upto fnExactVerifySpec)) fnExactVerifyUptoCard

/-- THE SECOND FORM's CARD OF 'laws.FnVerified'. -/
def fnVerifiedUptoCard : Claim7 := { stood := { row := fnVerifiedUptoRow, standIns := [], harness := (true, "b0ca1d3ad52c4321aa2783e5d452170a08f4e31f73aaf4c9d53e8fb8fa6898c0"), looks := true }, kinds := [], alts := [], laidByText := true, laidKinds := [.data, .data], laidTests := true, laidLooks := .later }
def FnVerifiedUptoCardSaid : Prop := Claim7.holds Tryz.pinned (.plain (OpenSpec.upto fnVerifiedSpec)) fnVerifiedUptoCard

/-- THE SECOND FORM's CARD OF 'laws.FnExactSigned'. -/
def fnExactSignedUptoCard : Claim7 := { stood := { row := fnExactSignedUptoRow, standIns := [], harness := (true, "b0ca1d3ad52c4321aa2783e5d452170a08f4e31f73aaf4c9d53e8fb8fa6898c0"), looks := true }, kinds := [], alts := [], laidByText := true, laidKinds := [.data, .data, .data, .data], laidTests := true, laidLooks := .later }
def FnExactSignedUptoCardSaid : Prop := Claim7.holds Tryz.pinned (.plain (OpenSpec.upto fnExactSignedSpec)) fnExactSignedUptoCard

/-- THE SECOND FORM's CARD OF 'laws.FnExactKeyTree'. -/
def fnExactKeyTreeUptoCard : Claim7 := { stood := { row := fnExactKeyTreeUptoRow, standIns := [], harness := (true, "b0ca1d3ad52c4321aa2783e5d452170a08f4e31f73aaf4c9d53e8fb8fa6898c0"), looks := true }, kinds := [], alts := [], laidByText := true, laidKinds := [.data, .data], laidTests := true, laidLooks := .later }
def FnExactKeyTreeUptoCardSaid : Prop := Claim7.holds Tryz.pinned (.plain (OpenSpec.upto fnExactKeyTreeSpec)) fnExactKeyTreeUptoCard
end Rows
end Go.Proofs.YtdaneanloknkpacGreatDoor
