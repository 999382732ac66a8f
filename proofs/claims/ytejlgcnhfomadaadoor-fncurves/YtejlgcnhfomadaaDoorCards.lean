/-
  DERIVED. GIVEN WITH THE SEED: THE CARDS: each row of YtejlgcnhfomadaaDoorRows.lean that lists a variable, with what it lists TIED to the program's text (the seventh form; the later family's looks); each row that meets fmt, with fmt's text TOLD by the authors' own Lean function (tested against real Go, not proved from fmt's source: count such statements apart). THE CARD IS WHAT COUNTS. Prove the row's statement (the work); the ties are given (YtejlgcnhfomadaaDoorTie.lean); close each card by the builder's one call (the guide's Derived/Test/ToyasCard.lean, 'card_holds'). Laid BY PROGRAM, IN A SANDBOX (cutbox-door.mjs). By AI agents, Wed Nov 11 2026. No macro, syntax, notation, axiom, sorry.
-/
import Derived.Test.YtejlgcnhfomadaaDoorRows
import GoSem.ClaimSeven
namespace Go.Proofs.YtejlgcnhfomadaaDoor
namespace Rows

/-- THE TIED CARD OF 'laws.FnCurves'. -/
def fnCurvesCard : Claim7 := { stood := { row := fnCurvesRow, standIns := [], harness := (true, "29d657ea4ee94af07f63ab37ad0f550ba03de8a2ff74a5331e75d96d09c57f90"), looks := true }, kinds := [], alts := [], laidByText := true, laidKinds := [.data, .data], laidTests := true, laidLooks := .later }
def FnCurvesCardSaid : Prop := Claim7.holds Tryd.pinned (.plain (OpenSpec.ofChange fnCurvesSpec)) fnCurvesCard

/-- THE TIED CARD OF 'laws.FnPointsBack'. -/
def fnPointsBackCard : Claim7 := { stood := { row := fnPointsBackRow, standIns := [], harness := (true, "29d657ea4ee94af07f63ab37ad0f550ba03de8a2ff74a5331e75d96d09c57f90"), looks := true }, kinds := [], alts := [], laidByText := true, laidKinds := [.data, .data], laidTests := true, laidLooks := .later }
def FnPointsBackCardSaid : Prop := Claim7.holds Tryd.pinned (.plain (OpenSpec.ofChange fnPointsBackSpec)) fnPointsBackCard

/-- THE TIED CARD OF 'laws.FnTwisted'. -/
def fnTwistedCard : Claim7 := { stood := { row := fnTwistedRow, standIns := [], harness := (true, "29d657ea4ee94af07f63ab37ad0f550ba03de8a2ff74a5331e75d96d09c57f90"), looks := true }, kinds := [], alts := [], laidByText := true, laidKinds := [.data, .data], laidTests := true, laidLooks := .later }
def FnTwistedCardSaid : Prop := Claim7.holds Tryd.pinned (.plain (OpenSpec.ofChange fnTwistedSpec)) fnTwistedCard

/-- THE TIED CARD OF 'laws.FnExactCurveOk'. -/
def fnExactCurveOkCard : Claim7 := { stood := { row := fnExactCurveOkRow, standIns := [], harness := (true, "29d657ea4ee94af07f63ab37ad0f550ba03de8a2ff74a5331e75d96d09c57f90"), looks := true }, kinds := [], alts := [], laidByText := true, laidKinds := [.data, .data], laidTests := true, laidLooks := .later }
def FnExactCurveOkCardSaid : Prop := Claim7.holds Tryd.pinned (.plain (OpenSpec.ofChange fnExactCurveOkSpec)) fnExactCurveOkCard

/-- THE TIED CARD OF 'laws.FnExactPointOk'. -/
def fnExactPointOkCard : Claim7 := { stood := { row := fnExactPointOkRow, standIns := [], harness := (true, "29d657ea4ee94af07f63ab37ad0f550ba03de8a2ff74a5331e75d96d09c57f90"), looks := true }, kinds := [], alts := [], laidByText := true, laidKinds := [.data, .data], laidTests := true, laidLooks := .later }
def FnExactPointOkCardSaid : Prop := Claim7.holds Tryd.pinned (.plain (OpenSpec.ofChange fnExactPointOkSpec)) fnExactPointOkCard

/-- THE TIED CARD OF 'laws.FnExactPointAdd'. -/
def fnExactPointAddCard : Claim7 := { stood := { row := fnExactPointAddRow, standIns := [], harness := (true, "29d657ea4ee94af07f63ab37ad0f550ba03de8a2ff74a5331e75d96d09c57f90"), looks := true }, kinds := [], alts := [], laidByText := true, laidKinds := [.data, .data], laidTests := true, laidLooks := .later }
def FnExactPointAddCardSaid : Prop := Claim7.holds Tryd.pinned (.plain (OpenSpec.ofChange fnExactPointAddSpec)) fnExactPointAddCard

/-- THE SECOND FORM's CARD OF 'laws.FnCurves'. -/
def fnCurvesUptoCard : Claim7 := { stood := { row := fnCurvesUptoRow, standIns := [], harness := (true, "29d657ea4ee94af07f63ab37ad0f550ba03de8a2ff74a5331e75d96d09c57f90"), looks := true }, kinds := [], alts := [], laidByText := true, laidKinds := [.data, .data], laidTests := true, laidLooks := .later }
def FnCurvesUptoCardSaid : Prop := Claim7.holds Tryd.pinned (.plain (OpenSpec.upto fnCurvesSpec)) fnCurvesUptoCard

/-- THE SECOND FORM's CARD OF 'laws.FnPointsBack'. -/
def fnPointsBackUptoCard : Claim7 := { stood := { row := fnPointsBackUptoRow, standIns := [], harness := (true, "29d657ea4ee94af07f63ab37ad0f550ba03de8a2ff74a5331e75d96d09c57f90"), looks := true }, kinds := [], alts := [], laidByText := true, laidKinds := [.data, .data], laidTests := true, laidLooks := .later }
def FnPointsBackUptoCardSaid : Prop := Claim7.holds Tryd.pinned (.plain (OpenSpec.upto fnPointsBackSpec)) fnPointsBackUptoCard

/-- THE SECOND FORM's CARD OF 'laws.FnTwisted'. -/
def fnTwistedUptoCard : Claim7 := { stood := { row := fnTwistedUptoRow, standIns := [], harness := (true, "29d657ea4ee94af07f63ab37ad0f550ba03de8a2ff74a5331e75d96d09c57f90"), looks := true }, kinds := [], alts := [], laidByText := true, laidKinds := [.data, .data], laidTests := true, laidLooks := .later }
def FnTwistedUptoCardSaid : Prop := Claim7.holds Tryd.pinned (.plain (OpenSpec.upto fnTwistedSpec)) fnTwistedUptoCard

/-- THE SECOND FORM's CARD OF 'laws.FnExactCurveOk'. -/
def fnExactCurveOkUptoCard : Claim7 := { stood := { row := fnExactCurveOkUptoRow, standIns := [], harness := (true, "29d657ea4ee94af07f63ab37ad0f550ba03de8a2ff74a5331e75d96d09c57f90"), looks := true }, kinds := [], alts := [], laidByText := true, laidKinds := [.data, .data], laidTests := true, laidLooks := .later }
def FnExactCurveOkUptoCardSaid : Prop := Claim7.holds Tryd.pinned (.plain (OpenSpec.upto fnExactCurveOkSpec)) fnExactCurveOkUptoCard

/-- THE SECOND FORM's CARD OF 'laws.FnExactPointOk'. -/
def fnExactPointOkUptoCard : Claim7 := { stood := { row := fnExactPointOkUptoRow, standIns := [], harness := (true, "29d657ea4ee94af07f63ab37ad0f550ba03de8a2ff74a5331e75d96d09c57f90"), looks := true }, kinds := [], alts := [], laidByText := true, laidKinds := [.data, .data], laidTests := true, laidLooks := .later }
def FnExactPointOkUptoCardSaid : Prop := Claim7.holds Tryd.pinned (.plain (OpenSpec.upto fnExactPointOkSpec)) fnExactPointOkUptoCard

/-- THE SECOND FORM's CARD OF 'laws.FnExactPointAdd'. -/
def fnExactPointAddUptoCard : Claim7 := { stood := { row := fnExactPointAddUptoRow, standIns := [], harness := (true, "29d657ea4ee94af07f63ab37ad0f550ba03de8a2ff74a5331e75d96d09c57f90"), looks := true }, kinds := [], alts := [], laidByText := true, laidKinds := [.data, .data], laidTests := true, laidLooks := .later }
def FnExactPointAddUptoCardSaid : Prop := Claim7.holds Tryd.pinned (.plain (OpenSpec.upto fnExactPointAddSpec)) fnExactPointAddUptoCard
end Rows
end Go.Proofs.YtejlgcnhfomadaaDoor
