/-
  DERIVED. GIVEN WITH THE SEED: THE CARDS: each row of YtgdjaapjdmancaaGreatDoorRows.lean that lists a variable, with what it lists TIED to the program's text (the seventh form; the later family's looks); each row that meets fmt, with fmt's text TOLD by the authors' own Lean function (tested against real Go, not proved from fmt's source: count such statements apart). THE CARD IS WHAT COUNTS. Prove the row's statement (the work); the ties are given (YtgdjaapjdmancaaGreatDoorTie.lean); close each card by the builder's one call (the guide's Derived/Test/ToyasCard.lean, 'card_holds'). Laid BY PROGRAM, IN A SANDBOX (cutbox-door.mjs). By AI agents, Wed Nov 11 2026. No macro, syntax, notation, axiom, sorry.
-/
import Derived.Test.YtgdjaapjdmancaaGreatDoorRows
import GoSem.ClaimSeven
namespace Go.Proofs.YtgdjaapjdmancaaGreatDoor
namespace Rows

/-- THE TIED CARD OF 'laws.FnExactCrlTbs'. -/
def fnExactCrlTbsCard : Claim7 := { stood := { row := fnExactCrlTbsRow, standIns := [], harness := (true, "b9d124550ebec8c4faa545ee492299819513d2e3fef919fa0c23659506f553b7"), looks := false }, kinds := [], alts := [], laidByText := true, laidKinds := [.data, .data, .data, .data], laidTests := true, laidLooks := .later }
def FnExactCrlTbsCardSaid : Prop := Claim7.holds Tryz.pinned (.plain (OpenSpec.ofChange fnExactCrlTbsSpec)) fnExactCrlTbsCard

/-- THE TIED CARD OF 'laws.FnExactWriteCrl'. -/
def fnExactWriteCrlCard : Claim7 := { stood := { row := fnExactWriteCrlRow, standIns := [], harness := (true, "b9d124550ebec8c4faa545ee492299819513d2e3fef919fa0c23659506f553b7"), looks := false }, kinds := [], alts := [], laidByText := true, laidKinds := [.data, .data, .data, .data], laidTests := true, laidLooks := .later }
def FnExactWriteCrlCardSaid : Prop := Claim7.holds Tryz.pinned (.plain (OpenSpec.ofChange fnExactWriteCrlSpec)) fnExactWriteCrlCard

/-- THE SECOND FORM's CARD OF 'laws.FnExactCrlTbs'. -/
def fnExactCrlTbsUptoCard : Claim7 := { stood := { row := fnExactCrlTbsUptoRow, standIns := [], harness := (true, "b9d124550ebec8c4faa545ee492299819513d2e3fef919fa0c23659506f553b7"), looks := false }, kinds := [], alts := [], laidByText := true, laidKinds := [.data, .data, .data, .data], laidTests := true, laidLooks := .later }
def FnExactCrlTbsUptoCardSaid : Prop := Claim7.holds Tryz.pinned (.plain (OpenSpec.upto fnExactCrlTbsSpec)) fnExactCrlTbsUptoCard

/-- THE SECOND FORM's CARD OF 'laws.FnExactWriteCrl'. -/
def fnExactWriteCrlUptoCard : Claim7 := { stood := { row := fnExactWriteCrlUptoRow, standIns := [], harness := (true, "b9d124550ebec8c4faa545ee492299819513d2e3fef919fa0c23659506f553b7"), looks := false }, kinds := [], alts := [], laidByText := true, laidKinds := [.data, .data, .data, .data], laidTests := true, laidLooks := .later }
def FnExactWriteCrlUptoCardSaid : Prop := Claim7.holds Tryz.pinned (.plain (OpenSpec.upto fnExactWriteCrlSpec)) fnExactWriteCrlUptoCard
end Rows
end Go.Proofs.YtgdjaapjdmancaaGreatDoor
