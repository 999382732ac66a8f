/-
  DERIVED. GIVEN WITH THE SEED: THE CARDS: each row of YtmkmojcefgcmlaaDoorRows.lean that lists a variable, with what it lists TIED to the program's text (the seventh form; the later family's looks); each row that meets fmt, with fmt's text TOLD by the authors' own Lean function (tested against real Go, not proved from fmt's source: count such statements apart). THE CARD IS WHAT COUNTS. Prove the row's statement (the work); the ties are given (YtmkmojcefgcmlaaDoorTie.lean); close each card by the builder's one call (the guide's Derived/Test/ToyasCard.lean, 'card_holds'). Laid BY PROGRAM, IN A SANDBOX (cutbox-door.mjs). By AI agents, Wed Nov 11 2026. No macro, syntax, notation, axiom, sorry.
-/
import Derived.Test.YtmkmojcefgcmlaaDoorRows
import GoSem.ClaimSeven
namespace Go.Proofs.YtmkmojcefgcmlaaDoor
namespace Rows

/-- THE TIED CARD OF 'laws.FnSmallMod'. -/
def fnSmallModCard : Claim7 := { stood := { row := fnSmallModRow, standIns := [], harness := (true, "62dc21082881c1d9a394d673b2b5be125ea1639f3acedf28d9d4a3d3e97d010d"), looks := false }, kinds := [], alts := [], laidByText := true, laidKinds := [.data, .data], laidTests := true, laidLooks := .later }
def FnSmallModCardSaid : Prop := Claim7.holds Tryd.pinned (.plain (OpenSpec.ofChange fnSmallModSpec)) fnSmallModCard

/-- THE SECOND FORM's CARD OF 'laws.FnSmallMod'. -/
def fnSmallModUptoCard : Claim7 := { stood := { row := fnSmallModUptoRow, standIns := [], harness := (true, "62dc21082881c1d9a394d673b2b5be125ea1639f3acedf28d9d4a3d3e97d010d"), looks := false }, kinds := [], alts := [], laidByText := true, laidKinds := [.data, .data], laidTests := true, laidLooks := .later }
def FnSmallModUptoCardSaid : Prop := Claim7.holds Tryd.pinned (.plain (OpenSpec.upto fnSmallModSpec)) fnSmallModUptoCard
end Rows
end Go.Proofs.YtmkmojcefgcmlaaDoor
