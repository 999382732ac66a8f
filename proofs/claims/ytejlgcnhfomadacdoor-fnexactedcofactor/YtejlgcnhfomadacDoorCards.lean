/-
  DERIVED. GIVEN WITH THE SEED: THE CARDS: each row of YtejlgcnhfomadacDoorRows.lean that lists a variable, with what it lists TIED to the program's text (the seventh form; the later family's looks); each row that meets fmt, with fmt's text TOLD by the authors' own Lean function (tested against real Go, not proved from fmt's source: count such statements apart). THE CARD IS WHAT COUNTS. Prove the row's statement (the work); the ties are given (YtejlgcnhfomadacDoorTie.lean); close each card by the builder's one call (the guide's Derived/Test/ToyasCard.lean, 'card_holds'). Laid BY PROGRAM, IN A SANDBOX (cutbox-door.mjs). By AI agents, Wed Nov 11 2026. No macro, syntax, notation, axiom, sorry.
-/
import Derived.Test.YtejlgcnhfomadacDoorRows
import GoSem.ClaimSeven
namespace Go.Proofs.YtejlgcnhfomadacDoor
namespace Rows

/-- THE TIED CARD OF 'laws.FnExactEdAdd'. -/
def fnExactEdAddCard : Claim7 := { stood := { row := fnExactEdAddRow, standIns := [], harness := (true, "ec9be43eb6384791867215f836a78e1da4fb5300f95a50e961800ed2b0b7d5a9"), looks := true }, kinds := [], alts := [], laidByText := true, laidKinds := [.data, .data], laidTests := true, laidLooks := .later }
def FnExactEdAddCardSaid : Prop := Claim7.holds Tryd.pinned (.plain (OpenSpec.ofChange fnExactEdAddSpec)) fnExactEdAddCard

/-- THE TIED CARD OF 'laws.FnExactEdMul'. -/
def fnExactEdMulCard : Claim7 := { stood := { row := fnExactEdMulRow, standIns := [], harness := (true, "ec9be43eb6384791867215f836a78e1da4fb5300f95a50e961800ed2b0b7d5a9"), looks := true }, kinds := [], alts := [], laidByText := true, laidKinds := [.data, .data], laidTests := true, laidLooks := .later }
def FnExactEdMulCardSaid : Prop := Claim7.holds Tryd.pinned (.plain (OpenSpec.ofChange fnExactEdMulSpec)) fnExactEdMulCard

/-- THE TIED CARD OF 'laws.FnExactEdBytes'. -/
def fnExactEdBytesCard : Claim7 := { stood := { row := fnExactEdBytesRow, standIns := [], harness := (true, "ec9be43eb6384791867215f836a78e1da4fb5300f95a50e961800ed2b0b7d5a9"), looks := true }, kinds := [], alts := [], laidByText := true, laidKinds := [.data, .data], laidTests := true, laidLooks := .later }
def FnExactEdBytesCardSaid : Prop := Claim7.holds Tryd.pinned (.plain (OpenSpec.ofChange fnExactEdBytesSpec)) fnExactEdBytesCard

/-- THE TIED CARD OF 'laws.FnExactEdRead'. -/
def fnExactEdReadCard : Claim7 := { stood := { row := fnExactEdReadRow, standIns := [], harness := (true, "ec9be43eb6384791867215f836a78e1da4fb5300f95a50e961800ed2b0b7d5a9"), looks := true }, kinds := [], alts := [], laidByText := true, laidKinds := [.data, .data], laidTests := true, laidLooks := .later }
def FnExactEdReadCardSaid : Prop := Claim7.holds Tryd.pinned (.plain (OpenSpec.ofChange fnExactEdReadSpec)) fnExactEdReadCard

/-- THE TIED CARD OF 'laws.FnExactEdCofactor'. -/
def fnExactEdCofactorCard : Claim7 := { stood := { row := fnExactEdCofactorRow, standIns := [], harness := (true, "ec9be43eb6384791867215f836a78e1da4fb5300f95a50e961800ed2b0b7d5a9"), looks := true }, kinds := [], alts := [], laidByText := true, laidKinds := [.data, .data], laidTests := true, laidLooks := .later }
def FnExactEdCofactorCardSaid : Prop := Claim7.holds Tryd.pinned (.plain (OpenSpec.ofChange fnExactEdCofactorSpec)) fnExactEdCofactorCard

/-- THE SECOND FORM's CARD OF 'laws.FnExactEdAdd'. -/
def fnExactEdAddUptoCard : Claim7 := { stood := { row := fnExactEdAddUptoRow, standIns := [], harness := (true, "ec9be43eb6384791867215f836a78e1da4fb5300f95a50e961800ed2b0b7d5a9"), looks := true }, kinds := [], alts := [], laidByText := true, laidKinds := [.data, .data], laidTests := true, laidLooks := .later }
def FnExactEdAddUptoCardSaid : Prop := Claim7.holds Tryd.pinned (.plain (OpenSpec.upto fnExactEdAddSpec)) fnExactEdAddUptoCard

/-- THE SECOND FORM's CARD OF 'laws.FnExactEdMul'. -/
def fnExactEdMulUptoCard : Claim7 := { stood := { row := fnExactEdMulUptoRow, standIns := [], harness := (true, "ec9be43eb6384791867215f836a78e1da4fb5300f95a50e961800ed2b0b7d5a9"), looks := true }, kinds := [], alts := [], laidByText := true, laidKinds := [.data, .data], laidTests := true, laidLooks := .later }
def FnExactEdMulUptoCardSaid : Prop := Claim7.holds Tryd.pinned (.plain (OpenSpec.upto fnExactEdMulSpec)) fnExactEdMulUptoCard

/-- THE SECOND FORM's CARD OF 'laws.FnExactEdBytes'. -/
def fnExactEdBytesUptoCard : Claim7 := { stood := { row := fnExactEdBytesUptoRow, standIns := [], harness := (true, "ec9be43eb6384791867215f836a78e1da4fb5300f95a50e961800ed2b0b7d5a9"), looks := true }, kinds := [], alts := [], laidByText := true, laidKinds := [.data, .data], laidTests := true, laidLooks := .later }
def FnExactEdBytesUptoCardSaid : Prop := Claim7.holds Tryd.pinned (.plain (OpenSpec.upto fnExactEdBytesSpec)) fnExactEdBytesUptoCard

/-- THE SECOND FORM's CARD OF 'laws.FnExactEdRead'. -/
def fnExactEdReadUptoCard : Claim7 := { stood := { row := fnExactEdReadUptoRow, standIns := [], harness := (true, "ec9be43eb6384791867215f836a78e1da4fb5300f95a50e961800ed2b0b7d5a9"), looks := true }, kinds := [], alts := [], laidByText := true, laidKinds := [.data, .data], laidTests := true, laidLooks := .later }
def FnExactEdReadUptoCardSaid : Prop := Claim7.holds Tryd.pinned (.plain (OpenSpec.upto fnExactEdReadSpec)) fnExactEdReadUptoCard

/-- THE SECOND FORM's CARD OF 'laws.FnExactEdCofactor'. -/
def fnExactEdCofactorUptoCard : Claim7 := { stood := { row := fnExactEdCofactorUptoRow, standIns := [], harness := (true, "ec9be43eb6384791867215f836a78e1da4fb5300f95a50e961800ed2b0b7d5a9"), looks := true }, kinds := [], alts := [], laidByText := true, laidKinds := [.data, .data], laidTests := true, laidLooks := .later }
def FnExactEdCofactorUptoCardSaid : Prop := Claim7.holds Tryd.pinned (.plain (OpenSpec.upto fnExactEdCofactorSpec)) fnExactEdCofactorUptoCard
end Rows
end Go.Proofs.YtejlgcnhfomadacDoor
