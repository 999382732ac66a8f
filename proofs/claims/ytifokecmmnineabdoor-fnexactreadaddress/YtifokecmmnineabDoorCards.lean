/-
  DERIVED. GIVEN WITH THE SEED: THE CARDS: each row of YtifokecmmnineabDoorRows.lean that lists a variable, with what it lists TIED to the program's text (the seventh form; the later family's looks); each row that meets fmt, with fmt's text TOLD by the authors' own Lean function (tested against real Go, not proved from fmt's source: count such statements apart). THE CARD IS WHAT COUNTS. Prove the row's statement (the work); the ties are given (YtifokecmmnineabDoorTie.lean); close each card by the builder's one call (the guide's Derived/Test/ToyasCard.lean, 'card_holds'). Laid BY PROGRAM, IN A SANDBOX (cutbox-door.mjs). By AI agents, Wed Nov 11 2026. No macro, syntax, notation, axiom, sorry.
-/
import Derived.Test.YtifokecmmnineabDoorRows
import GoSem.ClaimSeven
namespace Go.Proofs.YtifokecmmnineabDoor
namespace Rows

/-- THE TIED CARD OF 'laws.FnExactWriteAddress'. -/
def fnExactWriteAddressCard : Claim7 := { stood := { row := fnExactWriteAddressRow, standIns := [], harness := (true, "cbefc2b5bcb320aa57bbc42bb81674202301b6d1e4ae865bf3a93c7632540531"), looks := true }, kinds := [], alts := [], laidByText := true, laidKinds := [.data, .data, .data], laidTests := true, laidLooks := .later }
def FnExactWriteAddressCardSaid : Prop := Claim7.holds Tryd.pinned (.plain (OpenSpec.ofChange fnExactWriteAddressSpec)) fnExactWriteAddressCard

/-- THE TIED CARD OF 'laws.FnExactReadAddress'. -/
def fnExactReadAddressCard : Claim7 := { stood := { row := fnExactReadAddressRow, standIns := [], harness := (true, "cbefc2b5bcb320aa57bbc42bb81674202301b6d1e4ae865bf3a93c7632540531"), looks := true }, kinds := [], alts := [], laidByText := true, laidKinds := [.data, .data, .data, .sentinel, .sentinel], laidTests := true, laidLooks := .later }
def FnExactReadAddressCardSaid : Prop := Claim7.holds Tryd.pinned (.plain (OpenSpec.ofChange fnExactReadAddressSpec)) fnExactReadAddressCard

/-- THE TIED CARD OF 'laws.FnAddresses'. -/
def fnAddressesCard : Claim7 := { stood := { row := fnAddressesRow, standIns := [], harness := (true, "cbefc2b5bcb320aa57bbc42bb81674202301b6d1e4ae865bf3a93c7632540531"), looks := true }, kinds := [], alts := [], laidByText := true, laidKinds := [.data, .data, .data, .sentinel, .sentinel], laidTests := true, laidLooks := .later }
def FnAddressesCardSaid : Prop := Claim7.holds Tryd.pinned (.plain (OpenSpec.ofChange fnAddressesSpec)) fnAddressesCard

/-- THE SECOND FORM's CARD OF 'laws.FnExactWriteAddress'. -/
def fnExactWriteAddressUptoCard : Claim7 := { stood := { row := fnExactWriteAddressUptoRow, standIns := [], harness := (true, "cbefc2b5bcb320aa57bbc42bb81674202301b6d1e4ae865bf3a93c7632540531"), looks := true }, kinds := [], alts := [], laidByText := true, laidKinds := [.data, .data, .data], laidTests := true, laidLooks := .later }
def FnExactWriteAddressUptoCardSaid : Prop := Claim7.holds Tryd.pinned (.plain (OpenSpec.upto fnExactWriteAddressSpec)) fnExactWriteAddressUptoCard

/-- THE SECOND FORM's CARD OF 'laws.FnExactReadAddress'. -/
def fnExactReadAddressUptoCard : Claim7 := { stood := { row := fnExactReadAddressUptoRow, standIns := [], harness := (true, "cbefc2b5bcb320aa57bbc42bb81674202301b6d1e4ae865bf3a93c7632540531"), looks := true }, kinds := [], alts := [], laidByText := true, laidKinds := [.data, .data, .data, .sentinel, .sentinel], laidTests := true, laidLooks := .later }
def FnExactReadAddressUptoCardSaid : Prop := Claim7.holds Tryd.pinned (.plain (OpenSpec.upto fnExactReadAddressSpec)) fnExactReadAddressUptoCard

/-- THE SECOND FORM's CARD OF 'laws.FnAddresses'. -/
def fnAddressesUptoCard : Claim7 := { stood := { row := fnAddressesUptoRow, standIns := [], harness := (true, "cbefc2b5bcb320aa57bbc42bb81674202301b6d1e4ae865bf3a93c7632540531"), looks := true }, kinds := [], alts := [], laidByText := true, laidKinds := [.data, .data, .data, .sentinel, .sentinel], laidTests := true, laidLooks := .later }
def FnAddressesUptoCardSaid : Prop := Claim7.holds Tryd.pinned (.plain (OpenSpec.upto fnAddressesSpec)) fnAddressesUptoCard
end Rows
end Go.Proofs.YtifokecmmnineabDoor
