/-
  DERIVED. GIVEN WITH THE SEED: THE CARDS: each row of YtnhemiaklkkilabDoorRows.lean that lists a variable, with what it lists TIED to the program's text (the seventh form; the later family's looks); each row that meets fmt, with fmt's text TOLD by the authors' own Lean function (tested against real Go, not proved from fmt's source: count such statements apart). THE CARD IS WHAT COUNTS. Prove the row's statement (the work); the ties are given (YtnhemiaklkkilabDoorTie.lean); close each card by the builder's one call (the guide's Derived/Test/ToyasCard.lean, 'card_holds'). Laid BY PROGRAM, IN A SANDBOX (cutbox-door.mjs). By AI agents, Wed Nov 11 2026. No macro, syntax, notation, axiom, sorry.
-/
import Derived.Test.YtnhemiaklkkilabDoorRows
import GoSem.ClaimSeven
namespace Go.Proofs.YtnhemiaklkkilabDoor
namespace Rows

/-- THE TIED CARD OF 'laws.FnExactTwoMul'. -/
def fnExactTwoMulCard : Claim7 := { stood := { row := fnExactTwoMulRow, standIns := [], harness := (true, "b308ca5794c343464827487b3776e92e1193fd8acffcff4b7a035206e5c69844"), looks := false }, kinds := [], alts := [], laidByText := true, laidKinds := [.data, .data], laidTests := true, laidLooks := .later }
def FnExactTwoMulCardSaid : Prop := Claim7.holds Tryd.pinned (.plain (OpenSpec.ofChange fnExactTwoMulSpec)) fnExactTwoMulCard

/-- THE TIED CARD OF 'laws.FnExactPointBytes'. -/
def fnExactPointBytesCard : Claim7 := { stood := { row := fnExactPointBytesRow, standIns := [], harness := (true, "b308ca5794c343464827487b3776e92e1193fd8acffcff4b7a035206e5c69844"), looks := false }, kinds := [], alts := [], laidByText := true, laidKinds := [.data, .data], laidTests := true, laidLooks := .later }
def FnExactPointBytesCardSaid : Prop := Claim7.holds Tryd.pinned (.plain (OpenSpec.ofChange fnExactPointBytesSpec)) fnExactPointBytesCard

/-- THE TIED CARD OF 'laws.FnExactPointRead'. -/
def fnExactPointReadCard : Claim7 := { stood := { row := fnExactPointReadRow, standIns := [], harness := (true, "b308ca5794c343464827487b3776e92e1193fd8acffcff4b7a035206e5c69844"), looks := false }, kinds := [], alts := [], laidByText := true, laidKinds := [.data, .data], laidTests := true, laidLooks := .later }
def FnExactPointReadCardSaid : Prop := Claim7.holds Tryd.pinned (.plain (OpenSpec.ofChange fnExactPointReadSpec)) fnExactPointReadCard

/-- THE SECOND FORM's CARD OF 'laws.FnExactTwoMul'. -/
def fnExactTwoMulUptoCard : Claim7 := { stood := { row := fnExactTwoMulUptoRow, standIns := [], harness := (true, "b308ca5794c343464827487b3776e92e1193fd8acffcff4b7a035206e5c69844"), looks := false }, kinds := [], alts := [], laidByText := true, laidKinds := [.data, .data], laidTests := true, laidLooks := .later }
def FnExactTwoMulUptoCardSaid : Prop := Claim7.holds Tryd.pinned (.plain (OpenSpec.upto fnExactTwoMulSpec)) fnExactTwoMulUptoCard

/-- THE SECOND FORM's CARD OF 'laws.FnExactPointBytes'. -/
def fnExactPointBytesUptoCard : Claim7 := { stood := { row := fnExactPointBytesUptoRow, standIns := [], harness := (true, "b308ca5794c343464827487b3776e92e1193fd8acffcff4b7a035206e5c69844"), looks := false }, kinds := [], alts := [], laidByText := true, laidKinds := [.data, .data], laidTests := true, laidLooks := .later }
def FnExactPointBytesUptoCardSaid : Prop := Claim7.holds Tryd.pinned (.plain (OpenSpec.upto fnExactPointBytesSpec)) fnExactPointBytesUptoCard

/-- THE SECOND FORM's CARD OF 'laws.FnExactPointRead'. -/
def fnExactPointReadUptoCard : Claim7 := { stood := { row := fnExactPointReadUptoRow, standIns := [], harness := (true, "b308ca5794c343464827487b3776e92e1193fd8acffcff4b7a035206e5c69844"), looks := false }, kinds := [], alts := [], laidByText := true, laidKinds := [.data, .data], laidTests := true, laidLooks := .later }
def FnExactPointReadUptoCardSaid : Prop := Claim7.holds Tryd.pinned (.plain (OpenSpec.upto fnExactPointReadSpec)) fnExactPointReadUptoCard
end Rows
end Go.Proofs.YtnhemiaklkkilabDoor
