/-
  DERIVED. GIVEN WITH THE SEED: THE CARDS: each row of YtcfpmillbdkpcaaDoorRows.lean that lists a variable, with what it lists TIED to the program's text (the seventh form; the later family's looks); each row that meets fmt, with fmt's text TOLD by the authors' own Lean function (tested against real Go, not proved from fmt's source: count such statements apart). THE CARD IS WHAT COUNTS. Prove the row's statement (the work); the ties are given (YtcfpmillbdkpcaaDoorTie.lean); close each card by the builder's one call (the guide's Derived/Test/ToyasCard.lean, 'card_holds'). Laid BY PROGRAM, IN A SANDBOX (cutbox-door.mjs). By AI agents, Wed Nov 11 2026. No macro, syntax, notation, axiom, sorry.
-/
import Derived.Test.YtcfpmillbdkpcaaDoorRows
import GoSem.ClaimSeven
namespace Go.Proofs.YtcfpmillbdkpcaaDoor
namespace Rows

/-- THE TIED CARD OF 'laws.FnPointsBack'. -/
def fnPointsBackCard : Claim7 := { stood := { row := fnPointsBackRow, standIns := [], harness := (true, "25a62ed51089c22e423a4319e082d636c49192e0c4575145cc2ac4d339ffa0b5"), looks := true }, kinds := [], alts := [], laidByText := true, laidKinds := [.data, .data], laidTests := true, laidLooks := .later }
def FnPointsBackCardSaid : Prop := Claim7.holds Tryd.pinned (.plain (OpenSpec.ofChange fnPointsBackSpec)) fnPointsBackCard

/-- THE TIED CARD OF 'laws.FnTwisted'. -/
def fnTwistedCard : Claim7 := { stood := { row := fnTwistedRow, standIns := [], harness := (true, "25a62ed51089c22e423a4319e082d636c49192e0c4575145cc2ac4d339ffa0b5"), looks := true }, kinds := [], alts := [], laidByText := true, laidKinds := [.data, .data], laidTests := true, laidLooks := .later }
def FnTwistedCardSaid : Prop := Claim7.holds Tryd.pinned (.plain (OpenSpec.ofChange fnTwistedSpec)) fnTwistedCard

/-- THE TIED CARD OF 'laws.FnExactPointBytes'. -/
def fnExactPointBytesCard : Claim7 := { stood := { row := fnExactPointBytesRow, standIns := [], harness := (true, "25a62ed51089c22e423a4319e082d636c49192e0c4575145cc2ac4d339ffa0b5"), looks := true }, kinds := [], alts := [], laidByText := true, laidKinds := [.data, .data], laidTests := true, laidLooks := .later }
def FnExactPointBytesCardSaid : Prop := Claim7.holds Tryd.pinned (.plain (OpenSpec.ofChange fnExactPointBytesSpec)) fnExactPointBytesCard

/-- THE TIED CARD OF 'laws.FnExactPointRead'. -/
def fnExactPointReadCard : Claim7 := { stood := { row := fnExactPointReadRow, standIns := [], harness := (true, "25a62ed51089c22e423a4319e082d636c49192e0c4575145cc2ac4d339ffa0b5"), looks := true }, kinds := [], alts := [], laidByText := true, laidKinds := [.data, .data], laidTests := true, laidLooks := .later }
def FnExactPointReadCardSaid : Prop := Claim7.holds Tryd.pinned (.plain (OpenSpec.ofChange fnExactPointReadSpec)) fnExactPointReadCard

/-- THE TIED CARD OF 'laws.FnExactEdBytes'. -/
def fnExactEdBytesCard : Claim7 := { stood := { row := fnExactEdBytesRow, standIns := [], harness := (true, "25a62ed51089c22e423a4319e082d636c49192e0c4575145cc2ac4d339ffa0b5"), looks := true }, kinds := [], alts := [], laidByText := true, laidKinds := [.data, .data], laidTests := true, laidLooks := .later }
def FnExactEdBytesCardSaid : Prop := Claim7.holds Tryd.pinned (.plain (OpenSpec.ofChange fnExactEdBytesSpec)) fnExactEdBytesCard

/-- THE TIED CARD OF 'laws.FnExactEdRead'. -/
def fnExactEdReadCard : Claim7 := { stood := { row := fnExactEdReadRow, standIns := [], harness := (true, "25a62ed51089c22e423a4319e082d636c49192e0c4575145cc2ac4d339ffa0b5"), looks := true }, kinds := [], alts := [], laidByText := true, laidKinds := [.data, .data], laidTests := true, laidLooks := .later }
def FnExactEdReadCardSaid : Prop := Claim7.holds Tryd.pinned (.plain (OpenSpec.ofChange fnExactEdReadSpec)) fnExactEdReadCard

/-- THE SECOND FORM's CARD OF 'laws.FnPointsBack'. -/
def fnPointsBackUptoCard : Claim7 := { stood := { row := fnPointsBackUptoRow, standIns := [], harness := (true, "25a62ed51089c22e423a4319e082d636c49192e0c4575145cc2ac4d339ffa0b5"), looks := true }, kinds := [], alts := [], laidByText := true, laidKinds := [.data, .data], laidTests := true, laidLooks := .later }
def FnPointsBackUptoCardSaid : Prop := Claim7.holds Tryd.pinned (.plain (OpenSpec.upto fnPointsBackSpec)) fnPointsBackUptoCard

/-- THE SECOND FORM's CARD OF 'laws.FnTwisted'. -/
def fnTwistedUptoCard : Claim7 := { stood := { row := fnTwistedUptoRow, standIns := [], harness := (true, "25a62ed51089c22e423a4319e082d636c49192e0c4575145cc2ac4d339ffa0b5"), looks := true }, kinds := [], alts := [], laidByText := true, laidKinds := [.data, .data], laidTests := true, laidLooks := .later }
def FnTwistedUptoCardSaid : Prop := Claim7.holds Tryd.pinned (.plain (OpenSpec.upto fnTwistedSpec)) fnTwistedUptoCard

/-- THE SECOND FORM's CARD OF 'laws.FnExactPointBytes'. -/
def fnExactPointBytesUptoCard : Claim7 := { stood := { row := fnExactPointBytesUptoRow, standIns := [], harness := (true, "25a62ed51089c22e423a4319e082d636c49192e0c4575145cc2ac4d339ffa0b5"), looks := true }, kinds := [], alts := [], laidByText := true, laidKinds := [.data, .data], laidTests := true, laidLooks := .later }
def FnExactPointBytesUptoCardSaid : Prop := Claim7.holds Tryd.pinned (.plain (OpenSpec.upto fnExactPointBytesSpec)) fnExactPointBytesUptoCard

/-- THE SECOND FORM's CARD OF 'laws.FnExactPointRead'. -/
def fnExactPointReadUptoCard : Claim7 := { stood := { row := fnExactPointReadUptoRow, standIns := [], harness := (true, "25a62ed51089c22e423a4319e082d636c49192e0c4575145cc2ac4d339ffa0b5"), looks := true }, kinds := [], alts := [], laidByText := true, laidKinds := [.data, .data], laidTests := true, laidLooks := .later }
def FnExactPointReadUptoCardSaid : Prop := Claim7.holds Tryd.pinned (.plain (OpenSpec.upto fnExactPointReadSpec)) fnExactPointReadUptoCard

/-- THE SECOND FORM's CARD OF 'laws.FnExactEdBytes'. -/
def fnExactEdBytesUptoCard : Claim7 := { stood := { row := fnExactEdBytesUptoRow, standIns := [], harness := (true, "25a62ed51089c22e423a4319e082d636c49192e0c4575145cc2ac4d339ffa0b5"), looks := true }, kinds := [], alts := [], laidByText := true, laidKinds := [.data, .data], laidTests := true, laidLooks := .later }
def FnExactEdBytesUptoCardSaid : Prop := Claim7.holds Tryd.pinned (.plain (OpenSpec.upto fnExactEdBytesSpec)) fnExactEdBytesUptoCard

/-- THE SECOND FORM's CARD OF 'laws.FnExactEdRead'. -/
def fnExactEdReadUptoCard : Claim7 := { stood := { row := fnExactEdReadUptoRow, standIns := [], harness := (true, "25a62ed51089c22e423a4319e082d636c49192e0c4575145cc2ac4d339ffa0b5"), looks := true }, kinds := [], alts := [], laidByText := true, laidKinds := [.data, .data], laidTests := true, laidLooks := .later }
def FnExactEdReadUptoCardSaid : Prop := Claim7.holds Tryd.pinned (.plain (OpenSpec.upto fnExactEdReadSpec)) fnExactEdReadUptoCard
end Rows
end Go.Proofs.YtcfpmillbdkpcaaDoor
