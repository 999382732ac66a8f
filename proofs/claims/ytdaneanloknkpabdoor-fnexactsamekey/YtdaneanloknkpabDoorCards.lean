/-
  DERIVED. GIVEN WITH THE SEED: THE CARDS: each row of YtdaneanloknkpabDoorRows.lean that lists a variable, with what it lists TIED to the program's text (the seventh form; the later family's looks); each row that meets fmt, with fmt's text TOLD by the authors' own Lean function (tested against real Go, not proved from fmt's source: count such statements apart). THE CARD IS WHAT COUNTS. Prove the row's statement (the work); the ties are given (YtdaneanloknkpabDoorTie.lean); close each card by the builder's one call (the guide's Derived/Test/ToyasCard.lean, 'card_holds'). Laid BY PROGRAM, IN A SANDBOX (cutbox-door.mjs). By AI agents, Wed Nov 11 2026. No macro, syntax, notation, axiom, sorry.
-/
import Derived.Test.YtdaneanloknkpabDoorRows
import GoSem.ClaimSeven
namespace Go.Proofs.YtdaneanloknkpabDoor
namespace Rows

/-- THE TIED CARD OF 'laws.FnExactKeyOk'. -/
def fnExactKeyOkCard : Claim7 := { stood := { row := fnExactKeyOkRow, standIns := [], harness := (true, "16c2dc7b83d47f68b7c82cc2ba06db4e6e5328767c30a66e95626f393934ea01"), looks := true }, kinds := [], alts := [], laidByText := true, laidKinds := [.data, .data], laidTests := true, laidLooks := .later }
def FnExactKeyOkCardSaid : Prop := Claim7.holds Tryd.pinned (.plain (OpenSpec.ofChange fnExactKeyOkSpec)) fnExactKeyOkCard

/-- THE TIED CARD OF 'laws.FnExactSameKey'. -/
def fnExactSameKeyCard : Claim7 := { stood := { row := fnExactSameKeyRow, standIns := [], harness := (true, "16c2dc7b83d47f68b7c82cc2ba06db4e6e5328767c30a66e95626f393934ea01"), looks := true }, kinds := [], alts := [], laidByText := true, laidKinds := [.data, .data], laidTests := true, laidLooks := .later }
def FnExactSameKeyCardSaid : Prop := Claim7.holds Tryd.pinned (.plain (OpenSpec.ofChange fnExactSameKeySpec)) fnExactSameKeyCard

/-- THE TIED CARD OF 'laws.FnExactReadDer'. -/
def fnExactReadDerCard : Claim7 := { stood := { row := fnExactReadDerRow, standIns := [], harness := (true, "16c2dc7b83d47f68b7c82cc2ba06db4e6e5328767c30a66e95626f393934ea01"), looks := true }, kinds := [], alts := [], laidByText := true, laidKinds := [.handle], laidTests := true, laidLooks := .later }
def FnExactReadDerCardSaid : Prop := Claim7.holds Tryd.pinned (.plain (OpenSpec.ofChange fnExactReadDerSpec)) fnExactReadDerCard

/-- THE TIED CARD OF 'laws.FnTrees'. -/
def fnTreesCard : Claim7 := { stood := { row := fnTreesRow, standIns := [], harness := (true, "16c2dc7b83d47f68b7c82cc2ba06db4e6e5328767c30a66e95626f393934ea01"), looks := true }, kinds := [], alts := [], laidByText := true, laidKinds := [.handle], laidTests := true, laidLooks := .later }
def FnTreesCardSaid : Prop := Claim7.holds Tryd.pinned (.plain (OpenSpec.ofChange fnTreesSpec)) fnTreesCard

/-- THE TIED CARD OF 'laws.FnStrict'. -/
def fnStrictCard : Claim7 := { stood := { row := fnStrictRow, standIns := [], harness := (true, "16c2dc7b83d47f68b7c82cc2ba06db4e6e5328767c30a66e95626f393934ea01"), looks := true }, kinds := [], alts := [], laidByText := true, laidKinds := [.handle], laidTests := true, laidLooks := .later }
def FnStrictCardSaid : Prop := Claim7.holds Tryd.pinned (.plain (OpenSpec.ofChange fnStrictSpec)) fnStrictCard

/-- THE SECOND FORM's CARD OF 'laws.FnExactKeyOk'. -/
def fnExactKeyOkUptoCard : Claim7 := { stood := { row := fnExactKeyOkUptoRow, standIns := [], harness := (true, "16c2dc7b83d47f68b7c82cc2ba06db4e6e5328767c30a66e95626f393934ea01"), looks := true }, kinds := [], alts := [], laidByText := true, laidKinds := [.data, .data], laidTests := true, laidLooks := .later }
def FnExactKeyOkUptoCardSaid : Prop := Claim7.holds Tryd.pinned (.plain (OpenSpec.upto fnExactKeyOkSpec)) fnExactKeyOkUptoCard

/-- THE SECOND FORM's CARD OF 'laws.FnExactSameKey'. -/
def fnExactSameKeyUptoCard : Claim7 := { stood := { row := fnExactSameKeyUptoRow, standIns := [], harness := (true, "16c2dc7b83d47f68b7c82cc2ba06db4e6e5328767c30a66e95626f393934ea01"), looks := true }, kinds := [], alts := [], laidByText := true, laidKinds := [.data, .data], laidTests := true, laidLooks := .later }
def FnExactSameKeyUptoCardSaid : Prop := Claim7.holds Tryd.pinned (.plain (OpenSpec.upto fnExactSameKeySpec)) fnExactSameKeyUptoCard

/-- THE SECOND FORM's CARD OF 'laws.FnExactReadDer'. -/
def fnExactReadDerUptoCard : Claim7 := { stood := { row := fnExactReadDerUptoRow, standIns := [], harness := (true, "16c2dc7b83d47f68b7c82cc2ba06db4e6e5328767c30a66e95626f393934ea01"), looks := true }, kinds := [], alts := [], laidByText := true, laidKinds := [.handle], laidTests := true, laidLooks := .later }
def FnExactReadDerUptoCardSaid : Prop := Claim7.holds Tryd.pinned (.plain (OpenSpec.upto fnExactReadDerSpec)) fnExactReadDerUptoCard

/-- THE SECOND FORM's CARD OF 'laws.FnTrees'. -/
def fnTreesUptoCard : Claim7 := { stood := { row := fnTreesUptoRow, standIns := [], harness := (true, "16c2dc7b83d47f68b7c82cc2ba06db4e6e5328767c30a66e95626f393934ea01"), looks := true }, kinds := [], alts := [], laidByText := true, laidKinds := [.handle], laidTests := true, laidLooks := .later }
def FnTreesUptoCardSaid : Prop := Claim7.holds Tryd.pinned (.plain (OpenSpec.upto fnTreesSpec)) fnTreesUptoCard

/-- THE SECOND FORM's CARD OF 'laws.FnStrict'. -/
def fnStrictUptoCard : Claim7 := { stood := { row := fnStrictUptoRow, standIns := [], harness := (true, "16c2dc7b83d47f68b7c82cc2ba06db4e6e5328767c30a66e95626f393934ea01"), looks := true }, kinds := [], alts := [], laidByText := true, laidKinds := [.handle], laidTests := true, laidLooks := .later }
def FnStrictUptoCardSaid : Prop := Claim7.holds Tryd.pinned (.plain (OpenSpec.upto fnStrictSpec)) fnStrictUptoCard
end Rows
end Go.Proofs.YtdaneanloknkpabDoor
