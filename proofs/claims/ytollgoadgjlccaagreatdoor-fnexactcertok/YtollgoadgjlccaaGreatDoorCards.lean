/-
  DERIVED. GIVEN WITH THE SEED: THE CARDS: each row of YtollgoadgjlccaaGreatDoorRows.lean that lists a variable, with what it lists TIED to the program's text (the seventh form; the later family's looks); each row that meets fmt, with fmt's text TOLD by the authors' own Lean function (tested against real Go, not proved from fmt's source: count such statements apart). THE CARD IS WHAT COUNTS. Prove the row's statement (the work); the ties are given (YtollgoadgjlccaaGreatDoorTie.lean); close each card by the builder's one call (the guide's Derived/Test/ToyasCard.lean, 'card_holds'). Laid BY PROGRAM, IN A SANDBOX (cutbox-door.mjs). By AI agents, Wed Nov 11 2026. No macro, syntax, notation, axiom, sorry.
-/
import Derived.Test.YtollgoadgjlccaaGreatDoorRows
import GoSem.ClaimSeven
namespace Go.Proofs.YtollgoadgjlccaaGreatDoor
namespace Rows

/-- THE TIED CARD OF 'laws.FnExactCertOk'. -/
def fnExactCertOkCard : Claim7 := { stood := { row := fnExactCertOkRow, standIns := [], harness := (true, "9ef7f3fb86b454ea4838bbcbc77f751f4edf00f23960422ff50b2802a257ab27"), looks := true }, kinds := [], alts := [], laidByText := true, laidKinds := [.data, .data], laidTests := true, laidLooks := .later }
def FnExactCertOkCardSaid : Prop := Claim7.holds Tryz.pinned (.plain (OpenSpec.ofChange fnExactCertOkSpec)) fnExactCertOkCard

/-- THE TIED CARD OF 'laws.FnExactTbs'. -/
def fnExactTbsCard : Claim7 := { stood := { row := fnExactTbsRow, standIns := [], harness := (true, "9ef7f3fb86b454ea4838bbcbc77f751f4edf00f23960422ff50b2802a257ab27"), looks := true }, kinds := [], alts := [], laidByText := true, laidKinds := [.data, .data, .data, .data], laidTests := true, laidLooks := .later }
def FnExactTbsCardSaid : Prop := Claim7.holds Tryz.pinned (.plain (OpenSpec.ofChange fnExactTbsSpec)) fnExactTbsCard

/-- THE TIED CARD OF 'laws.FnExactWriteCert'. -/
def fnExactWriteCertCard : Claim7 := { stood := { row := fnExactWriteCertRow, standIns := [], harness := (true, "9ef7f3fb86b454ea4838bbcbc77f751f4edf00f23960422ff50b2802a257ab27"), looks := true }, kinds := [], alts := [], laidByText := true, laidKinds := [.data, .data, .data, .data], laidTests := true, laidLooks := .later }
def FnExactWriteCertCardSaid : Prop := Claim7.holds Tryz.pinned (.plain (OpenSpec.ofChange fnExactWriteCertSpec)) fnExactWriteCertCard

/-- THE TIED CARD OF 'laws.FnExactOwnIssuer'. -/
def fnExactOwnIssuerCard : Claim7 := { stood := { row := fnExactOwnIssuerRow, standIns := [], harness := (true, "9ef7f3fb86b454ea4838bbcbc77f751f4edf00f23960422ff50b2802a257ab27"), looks := true }, kinds := [], alts := [], laidByText := true, laidKinds := [.data, .data, .data, .pinned], laidTests := true, laidLooks := .later }
def FnExactOwnIssuerCardSaid : Prop := Claim7.holds Tryz.pinned (.plain (OpenSpec.ofChange fnExactOwnIssuerSpec)) fnExactOwnIssuerCard

/-- THE TIED CARD OF 'laws.FnExactDepth'. -/
def fnExactDepthCard : Claim7 := { stood := { row := fnExactDepthRow, standIns := [], harness := (true, "9ef7f3fb86b454ea4838bbcbc77f751f4edf00f23960422ff50b2802a257ab27"), looks := true }, kinds := [], alts := [], laidByText := true, laidKinds := [.data, .data, .data, .pinned], laidTests := true, laidLooks := .later }
def FnExactDepthCardSaid : Prop := Claim7.holds Tryz.pinned (.plain (OpenSpec.ofChange fnExactDepthSpec)) fnExactDepthCard

/-- THE SECOND FORM's CARD OF 'laws.FnExactCertOk'. -/
def fnExactCertOkUptoCard : Claim7 := { stood := { row := fnExactCertOkUptoRow, standIns := [], harness := (true, "9ef7f3fb86b454ea4838bbcbc77f751f4edf00f23960422ff50b2802a257ab27"), looks := true }, kinds := [], alts := [], laidByText := true, laidKinds := [.data, .data], laidTests := true, laidLooks := .later }
def FnExactCertOkUptoCardSaid : Prop := Claim7.holds Tryz.pinned (.plain (OpenSpec.upto fnExactCertOkSpec)) fnExactCertOkUptoCard

/-- THE SECOND FORM's CARD OF 'laws.FnExactTbs'. -/
def fnExactTbsUptoCard : Claim7 := { stood := { row := fnExactTbsUptoRow, standIns := [], harness := (true, "9ef7f3fb86b454ea4838bbcbc77f751f4edf00f23960422ff50b2802a257ab27"), looks := true }, kinds := [], alts := [], laidByText := true, laidKinds := [.data, .data, .data, .data], laidTests := true, laidLooks := .later }
def FnExactTbsUptoCardSaid : Prop := Claim7.holds Tryz.pinned (.plain (OpenSpec.upto fnExactTbsSpec)) fnExactTbsUptoCard

/-- THE SECOND FORM's CARD OF 'laws.FnExactWriteCert'. -/
def fnExactWriteCertUptoCard : Claim7 := { stood := { row := fnExactWriteCertUptoRow, standIns := [], harness := (true, "9ef7f3fb86b454ea4838bbcbc77f751f4edf00f23960422ff50b2802a257ab27"), looks := true }, kinds := [], alts := [], laidByText := true, laidKinds := [.data, .data, .data, .data], laidTests := true, laidLooks := .later }
def FnExactWriteCertUptoCardSaid : Prop := Claim7.holds Tryz.pinned (.plain (OpenSpec.upto fnExactWriteCertSpec)) fnExactWriteCertUptoCard

/-- THE SECOND FORM's CARD OF 'laws.FnExactOwnIssuer'. -/
def fnExactOwnIssuerUptoCard : Claim7 := { stood := { row := fnExactOwnIssuerUptoRow, standIns := [], harness := (true, "9ef7f3fb86b454ea4838bbcbc77f751f4edf00f23960422ff50b2802a257ab27"), looks := true }, kinds := [], alts := [], laidByText := true, laidKinds := [.data, .data, .data, .pinned], laidTests := true, laidLooks := .later }
def FnExactOwnIssuerUptoCardSaid : Prop := Claim7.holds Tryz.pinned (.plain (OpenSpec.upto fnExactOwnIssuerSpec)) fnExactOwnIssuerUptoCard

/-- THE SECOND FORM's CARD OF 'laws.FnExactDepth'. -/
def fnExactDepthUptoCard : Claim7 := { stood := { row := fnExactDepthUptoRow, standIns := [], harness := (true, "9ef7f3fb86b454ea4838bbcbc77f751f4edf00f23960422ff50b2802a257ab27"), looks := true }, kinds := [], alts := [], laidByText := true, laidKinds := [.data, .data, .data, .pinned], laidTests := true, laidLooks := .later }
def FnExactDepthUptoCardSaid : Prop := Claim7.holds Tryz.pinned (.plain (OpenSpec.upto fnExactDepthSpec)) fnExactDepthUptoCard
end Rows
end Go.Proofs.YtollgoadgjlccaaGreatDoor
