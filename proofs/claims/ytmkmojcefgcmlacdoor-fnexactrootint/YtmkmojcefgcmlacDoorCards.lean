/-
  DERIVED. GIVEN WITH THE SEED: THE CARDS: each row of YtmkmojcefgcmlacDoorRows.lean that lists a variable, with what it lists TIED to the program's text (the seventh form; the later family's looks); each row that meets fmt, with fmt's text TOLD by the authors' own Lean function (tested against real Go, not proved from fmt's source: count such statements apart). THE CARD IS WHAT COUNTS. Prove the row's statement (the work); the ties are given (YtmkmojcefgcmlacDoorTie.lean); close each card by the builder's one call (the guide's Derived/Test/ToyasCard.lean, 'card_holds'). Laid BY PROGRAM, IN A SANDBOX (cutbox-door.mjs). By AI agents, Wed Nov 11 2026. No macro, syntax, notation, axiom, sorry.
-/
import Derived.Test.YtmkmojcefgcmlacDoorRows
import GoSem.ClaimSeven
namespace Go.Proofs.YtmkmojcefgcmlacDoor
namespace Rows

/-- THE TIED CARD OF 'laws.FnExactRootInt'. -/
def fnExactRootIntCard : Claim7 := { stood := { row := fnExactRootIntRow, standIns := [], harness := (true, "a2ce66af513e66a17e89badc552db0fd4f6d374d9a7de45ddf75a2f088888ced"), looks := false }, kinds := [], alts := [], laidByText := true, laidKinds := [.data, .data], laidTests := true, laidLooks := .later }
def FnExactRootIntCardSaid : Prop := Claim7.holds Tryd.pinned (.plain (OpenSpec.ofChange fnExactRootIntSpec)) fnExactRootIntCard

/-- THE SECOND FORM's CARD OF 'laws.FnExactRootInt'. -/
def fnExactRootIntUptoCard : Claim7 := { stood := { row := fnExactRootIntUptoRow, standIns := [], harness := (true, "a2ce66af513e66a17e89badc552db0fd4f6d374d9a7de45ddf75a2f088888ced"), looks := false }, kinds := [], alts := [], laidByText := true, laidKinds := [.data, .data], laidTests := true, laidLooks := .later }
def FnExactRootIntUptoCardSaid : Prop := Claim7.holds Tryd.pinned (.plain (OpenSpec.upto fnExactRootIntSpec)) fnExactRootIntUptoCard
end Rows
end Go.Proofs.YtmkmojcefgcmlacDoor
