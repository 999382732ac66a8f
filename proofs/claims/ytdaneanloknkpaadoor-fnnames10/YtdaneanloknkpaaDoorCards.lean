/-
  DERIVED. GIVEN WITH THE SEED: THE CARDS: each row of YtdaneanloknkpaaDoorRows.lean that lists a variable, with what it lists TIED to the program's text (the seventh form; the later family's looks); each row that meets fmt, with fmt's text TOLD by the authors' own Lean function (tested against real Go, not proved from fmt's source: count such statements apart). THE CARD IS WHAT COUNTS. Prove the row's statement (the work); the ties are given (YtdaneanloknkpaaDoorTie.lean); close each card by the builder's one call (the guide's Derived/Test/ToyasCard.lean, 'card_holds'). Laid BY PROGRAM, IN A SANDBOX (cutbox-door.mjs). By AI agents, Wed Nov 11 2026. No macro, syntax, notation, axiom, sorry.
-/
import Derived.Test.YtdaneanloknkpaaDoorRows
import GoSem.ClaimSeven
namespace Go.Proofs.YtdaneanloknkpaaDoor
namespace Rows

/-- THE TIED CARD OF 'laws.FnExactNameSame'. -/
def fnExactNameSameCard : Claim7 := { stood := { row := fnExactNameSameRow, standIns := [], harness := (true, "1891d41a29f8b411366dbc81614ff1b038ad9dd8eeb0ef119238d012921fd055"), looks := false }, kinds := [], alts := [], laidByText := true, laidKinds := [.data, .pinned], laidTests := true, laidLooks := .later }
def FnExactNameSameCardSaid : Prop := Claim7.holds Tryd.pinned (.plain (OpenSpec.ofChange fnExactNameSameSpec)) fnExactNameSameCard

/-- THE TIED CARD OF 'laws.FnNames10'. -/
def fnNames10Card : Claim7 := { stood := { row := fnNames10Row, standIns := [], harness := (true, "1891d41a29f8b411366dbc81614ff1b038ad9dd8eeb0ef119238d012921fd055"), looks := false }, kinds := [], alts := [], laidByText := true, laidKinds := [.data, .pinned], laidTests := true, laidLooks := .later }
def FnNames10CardSaid : Prop := Claim7.holds Tryd.pinned (.plain (OpenSpec.ofChange fnNames10Spec)) fnNames10Card

/-- THE SECOND FORM's CARD OF 'laws.FnExactNameSame'. -/
def fnExactNameSameUptoCard : Claim7 := { stood := { row := fnExactNameSameUptoRow, standIns := [], harness := (true, "1891d41a29f8b411366dbc81614ff1b038ad9dd8eeb0ef119238d012921fd055"), looks := false }, kinds := [], alts := [], laidByText := true, laidKinds := [.data, .pinned], laidTests := true, laidLooks := .later }
def FnExactNameSameUptoCardSaid : Prop := Claim7.holds Tryd.pinned (.plain (OpenSpec.upto fnExactNameSameSpec)) fnExactNameSameUptoCard

/-- THE SECOND FORM's CARD OF 'laws.FnNames10'. -/
def fnNames10UptoCard : Claim7 := { stood := { row := fnNames10UptoRow, standIns := [], harness := (true, "1891d41a29f8b411366dbc81614ff1b038ad9dd8eeb0ef119238d012921fd055"), looks := false }, kinds := [], alts := [], laidByText := true, laidKinds := [.data, .pinned], laidTests := true, laidLooks := .later }
def FnNames10UptoCardSaid : Prop := Claim7.holds Tryd.pinned (.plain (OpenSpec.upto fnNames10Spec)) fnNames10UptoCard
end Rows
end Go.Proofs.YtdaneanloknkpaaDoor
