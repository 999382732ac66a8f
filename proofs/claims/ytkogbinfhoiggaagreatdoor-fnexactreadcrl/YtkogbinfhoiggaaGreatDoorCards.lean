/-
  DERIVED. GIVEN WITH THE SEED: THE CARDS: each row of YtkogbinfhoiggaaGreatDoorRows.lean that lists a variable, with what it lists TIED to the program's text (the seventh form; the later family's looks); each row that meets fmt, with fmt's text TOLD by the authors' own Lean function (tested against real Go, not proved from fmt's source: count such statements apart). THE CARD IS WHAT COUNTS. Prove the row's statement (the work); the ties are given (YtkogbinfhoiggaaGreatDoorTie.lean); close each card by the builder's one call (the guide's Derived/Test/ToyasCard.lean, 'card_holds'). Laid BY PROGRAM, IN A SANDBOX (cutbox-door.mjs). By AI agents, Wed Nov 11 2026. No macro, syntax, notation, axiom, sorry.
-/
import Derived.Test.YtkogbinfhoiggaaGreatDoorRows
import GoSem.ClaimSeven
namespace Go.Proofs.YtkogbinfhoiggaaGreatDoor
namespace Rows

/-- THE TIED CARD OF 'laws.FnExactReadCrl'. -/
def fnExactReadCrlCard : Claim7 := { stood := { row := fnExactReadCrlRow, standIns := [], harness := (true, "92aa879443ba11b21ea1baa4b88165cded1d3e17ab94f96dd07dda83b4807224"), looks := true }, kinds := [], alts := [], laidByText := true, laidKinds := [.data, .data, .data, .handle, .sentinel, .sentinel, .data], laidTests := true, laidLooks := .later }
def FnExactReadCrlCardSaid : Prop := Claim7.holds Tryz.pinned (.plain (OpenSpec.ofChange fnExactReadCrlSpec)) fnExactReadCrlCard

/-- THE SECOND FORM's CARD OF 'laws.FnExactReadCrl'. -/
def fnExactReadCrlUptoCard : Claim7 := { stood := { row := fnExactReadCrlUptoRow, standIns := [], harness := (true, "92aa879443ba11b21ea1baa4b88165cded1d3e17ab94f96dd07dda83b4807224"), looks := true }, kinds := [], alts := [], laidByText := true, laidKinds := [.data, .data, .data, .handle, .sentinel, .sentinel, .data], laidTests := true, laidLooks := .later }
def FnExactReadCrlUptoCardSaid : Prop := Claim7.holds Tryz.pinned (.plain (OpenSpec.upto fnExactReadCrlSpec)) fnExactReadCrlUptoCard
end Rows
end Go.Proofs.YtkogbinfhoiggaaGreatDoor
