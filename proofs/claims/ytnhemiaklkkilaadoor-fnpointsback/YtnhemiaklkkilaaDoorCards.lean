/-
  DERIVED. GIVEN WITH THE SEED: THE CARDS: each row of YtnhemiaklkkilaaDoorRows.lean that lists a variable, with what it lists TIED to the program's text (the seventh form; the later family's looks); each row that meets fmt, with fmt's text TOLD by the authors' own Lean function (tested against real Go, not proved from fmt's source: count such statements apart). THE CARD IS WHAT COUNTS. Prove the row's statement (the work); the ties are given (YtnhemiaklkkilaaDoorTie.lean); close each card by the builder's one call (the guide's Derived/Test/ToyasCard.lean, 'card_holds'). Laid BY PROGRAM, IN A SANDBOX (cutbox-door.mjs). By AI agents, Wed Nov 11 2026. No macro, syntax, notation, axiom, sorry.
-/
import Derived.Test.YtnhemiaklkkilaaDoorRows
import GoSem.ClaimSeven
namespace Go.Proofs.YtnhemiaklkkilaaDoor
namespace Rows

/-- THE TIED CARD OF 'laws.FnCurves'. -/
def fnCurvesCard : Claim7 := { stood := { row := fnCurvesRow, standIns := [], harness := (true, "fc3e4535277ddfe34559599c47910891b3080ed15d1d406b2946ddc0feed5a8c"), looks := false }, kinds := [], alts := [], laidByText := true, laidKinds := [.data, .data], laidTests := true, laidLooks := .later }
def FnCurvesCardSaid : Prop := Claim7.holds Tryd.pinned (.plain (OpenSpec.ofChange fnCurvesSpec)) fnCurvesCard

/-- THE TIED CARD OF 'laws.FnPointsBack'. -/
def fnPointsBackCard : Claim7 := { stood := { row := fnPointsBackRow, standIns := [], harness := (true, "fc3e4535277ddfe34559599c47910891b3080ed15d1d406b2946ddc0feed5a8c"), looks := false }, kinds := [], alts := [], laidByText := true, laidKinds := [.data, .data], laidTests := true, laidLooks := .later }
def FnPointsBackCardSaid : Prop := Claim7.holds Tryd.pinned (.plain (OpenSpec.ofChange fnPointsBackSpec)) fnPointsBackCard

/-- THE TIED CARD OF 'laws.FnExactCurveOk'. -/
def fnExactCurveOkCard : Claim7 := { stood := { row := fnExactCurveOkRow, standIns := [], harness := (true, "fc3e4535277ddfe34559599c47910891b3080ed15d1d406b2946ddc0feed5a8c"), looks := false }, kinds := [], alts := [], laidByText := true, laidKinds := [.data, .data], laidTests := true, laidLooks := .later }
def FnExactCurveOkCardSaid : Prop := Claim7.holds Tryd.pinned (.plain (OpenSpec.ofChange fnExactCurveOkSpec)) fnExactCurveOkCard

/-- THE TIED CARD OF 'laws.FnExactPointOk'. -/
def fnExactPointOkCard : Claim7 := { stood := { row := fnExactPointOkRow, standIns := [], harness := (true, "fc3e4535277ddfe34559599c47910891b3080ed15d1d406b2946ddc0feed5a8c"), looks := false }, kinds := [], alts := [], laidByText := true, laidKinds := [.data, .data], laidTests := true, laidLooks := .later }
def FnExactPointOkCardSaid : Prop := Claim7.holds Tryd.pinned (.plain (OpenSpec.ofChange fnExactPointOkSpec)) fnExactPointOkCard

/-- THE TIED CARD OF 'laws.FnExactPointAdd'. -/
def fnExactPointAddCard : Claim7 := { stood := { row := fnExactPointAddRow, standIns := [], harness := (true, "fc3e4535277ddfe34559599c47910891b3080ed15d1d406b2946ddc0feed5a8c"), looks := false }, kinds := [], alts := [], laidByText := true, laidKinds := [.data, .data], laidTests := true, laidLooks := .later }
def FnExactPointAddCardSaid : Prop := Claim7.holds Tryd.pinned (.plain (OpenSpec.ofChange fnExactPointAddSpec)) fnExactPointAddCard

/-- THE TIED CARD OF 'laws.FnExactPointMul'. -/
def fnExactPointMulCard : Claim7 := { stood := { row := fnExactPointMulRow, standIns := [], harness := (true, "fc3e4535277ddfe34559599c47910891b3080ed15d1d406b2946ddc0feed5a8c"), looks := false }, kinds := [], alts := [], laidByText := true, laidKinds := [.data, .data], laidTests := true, laidLooks := .later }
def FnExactPointMulCardSaid : Prop := Claim7.holds Tryd.pinned (.plain (OpenSpec.ofChange fnExactPointMulSpec)) fnExactPointMulCard

/-- THE SECOND FORM's CARD OF 'laws.FnCurves'. -/
def fnCurvesUptoCard : Claim7 := { stood := { row := fnCurvesUptoRow, standIns := [], harness := (true, "fc3e4535277ddfe34559599c47910891b3080ed15d1d406b2946ddc0feed5a8c"), looks := false }, kinds := [], alts := [], laidByText := true, laidKinds := [.data, .data], laidTests := true, laidLooks := .later }
def FnCurvesUptoCardSaid : Prop := Claim7.holds Tryd.pinned (.plain (OpenSpec.upto fnCurvesSpec)) fnCurvesUptoCard

/-- THE SECOND FORM's CARD OF 'laws.FnPointsBack'. -/
def fnPointsBackUptoCard : Claim7 := { stood := { row := fnPointsBackUptoRow, standIns := [], harness := (true, "fc3e4535277ddfe34559599c47910891b3080ed15d1d406b2946ddc0feed5a8c"), looks := false }, kinds := [], alts := [], laidByText := true, laidKinds := [.data, .data], laidTests := true, laidLooks := .later }
def FnPointsBackUptoCardSaid : Prop := Claim7.holds Tryd.pinned (.plain (OpenSpec.upto fnPointsBackSpec)) fnPointsBackUptoCard

/-- THE SECOND FORM's CARD OF 'laws.FnExactCurveOk'. -/
def fnExactCurveOkUptoCard : Claim7 := { stood := { row := fnExactCurveOkUptoRow, standIns := [], harness := (true, "fc3e4535277ddfe34559599c47910891b3080ed15d1d406b2946ddc0feed5a8c"), looks := false }, kinds := [], alts := [], laidByText := true, laidKinds := [.data, .data], laidTests := true, laidLooks := .later }
def FnExactCurveOkUptoCardSaid : Prop := Claim7.holds Tryd.pinned (.plain (OpenSpec.upto fnExactCurveOkSpec)) fnExactCurveOkUptoCard

/-- THE SECOND FORM's CARD OF 'laws.FnExactPointOk'. -/
def fnExactPointOkUptoCard : Claim7 := { stood := { row := fnExactPointOkUptoRow, standIns := [], harness := (true, "fc3e4535277ddfe34559599c47910891b3080ed15d1d406b2946ddc0feed5a8c"), looks := false }, kinds := [], alts := [], laidByText := true, laidKinds := [.data, .data], laidTests := true, laidLooks := .later }
def FnExactPointOkUptoCardSaid : Prop := Claim7.holds Tryd.pinned (.plain (OpenSpec.upto fnExactPointOkSpec)) fnExactPointOkUptoCard

/-- THE SECOND FORM's CARD OF 'laws.FnExactPointAdd'. -/
def fnExactPointAddUptoCard : Claim7 := { stood := { row := fnExactPointAddUptoRow, standIns := [], harness := (true, "fc3e4535277ddfe34559599c47910891b3080ed15d1d406b2946ddc0feed5a8c"), looks := false }, kinds := [], alts := [], laidByText := true, laidKinds := [.data, .data], laidTests := true, laidLooks := .later }
def FnExactPointAddUptoCardSaid : Prop := Claim7.holds Tryd.pinned (.plain (OpenSpec.upto fnExactPointAddSpec)) fnExactPointAddUptoCard

/-- THE SECOND FORM's CARD OF 'laws.FnExactPointMul'. -/
def fnExactPointMulUptoCard : Claim7 := { stood := { row := fnExactPointMulUptoRow, standIns := [], harness := (true, "fc3e4535277ddfe34559599c47910891b3080ed15d1d406b2946ddc0feed5a8c"), looks := false }, kinds := [], alts := [], laidByText := true, laidKinds := [.data, .data], laidTests := true, laidLooks := .later }
def FnExactPointMulUptoCardSaid : Prop := Claim7.holds Tryd.pinned (.plain (OpenSpec.upto fnExactPointMulSpec)) fnExactPointMulUptoCard
end Rows
end Go.Proofs.YtnhemiaklkkilaaDoor
