/-
  DERIVED. GIVEN WITH THE SEED: THE CARDS: each row of YtjidlahgfkdipaaDoorRows.lean that lists a variable, with what it lists TIED to the program's text (the seventh form; the later family's looks); each row that meets fmt, with fmt's text TOLD by the authors' own Lean function (tested against real Go, not proved from fmt's source: count such statements apart). THE CARD IS WHAT COUNTS. Prove the row's statement (the work); the ties are given (YtjidlahgfkdipaaDoorTie.lean); close each card by the builder's one call (the guide's Derived/Test/ToyasCard.lean, 'card_holds'). Laid BY PROGRAM, IN A SANDBOX (cutbox-door.mjs). By AI agents, Wed Nov 11 2026. No macro, syntax, notation, axiom, sorry.
-/
import Derived.Test.YtjidlahgfkdipaaDoorRows
import GoSem.ClaimSeven
namespace Go.Proofs.YtjidlahgfkdipaaDoor
namespace Rows

/-- THE TIED CARD OF 'laws.FnExactTimeOf'. -/
def fnExactTimeOfCard : Claim7 := { stood := { row := fnExactTimeOfRow, standIns := [], harness := (true, "23252f1812f9579c57309dbfdb9390aa1bdcc65a3cc3ef6b60fb8ffd3475eaab"), looks := true }, kinds := [], alts := [], laidByText := true, laidKinds := [.data], laidTests := true, laidLooks := .later }
def FnExactTimeOfCardSaid : Prop := Claim7.holds Tryd.pinned (.plain (OpenSpec.ofChange fnExactTimeOfSpec)) fnExactTimeOfCard

/-- THE TIED CARD OF 'laws.FnExactDayOf'. -/
def fnExactDayOfCard : Claim7 := { stood := { row := fnExactDayOfRow, standIns := [], harness := (true, "23252f1812f9579c57309dbfdb9390aa1bdcc65a3cc3ef6b60fb8ffd3475eaab"), looks := true }, kinds := [], alts := [], laidByText := true, laidKinds := [.data], laidTests := true, laidLooks := .later }
def FnExactDayOfCardSaid : Prop := Claim7.holds Tryd.pinned (.plain (OpenSpec.ofChange fnExactDayOfSpec)) fnExactDayOfCard

/-- THE TIED CARD OF 'laws.FnExactShortTime'. -/
def fnExactShortTimeCard : Claim7 := { stood := { row := fnExactShortTimeRow, standIns := [], harness := (true, "23252f1812f9579c57309dbfdb9390aa1bdcc65a3cc3ef6b60fb8ffd3475eaab"), looks := true }, kinds := [], alts := [], laidByText := true, laidKinds := [.data, .data, .data, .data], laidTests := true, laidLooks := .later }
def FnExactShortTimeCardSaid : Prop := Claim7.holds Tryd.pinned (.plain (OpenSpec.ofChange fnExactShortTimeSpec)) fnExactShortTimeCard

/-- THE TIED CARD OF 'laws.FnExactLongTime'. -/
def fnExactLongTimeCard : Claim7 := { stood := { row := fnExactLongTimeRow, standIns := [], harness := (true, "23252f1812f9579c57309dbfdb9390aa1bdcc65a3cc3ef6b60fb8ffd3475eaab"), looks := true }, kinds := [], alts := [], laidByText := true, laidKinds := [.data, .data, .data, .data], laidTests := true, laidLooks := .later }
def FnExactLongTimeCardSaid : Prop := Claim7.holds Tryd.pinned (.plain (OpenSpec.ofChange fnExactLongTimeSpec)) fnExactLongTimeCard

/-- THE TIED CARD OF 'laws.FnExactReadTime'. -/
def fnExactReadTimeCard : Claim7 := { stood := { row := fnExactReadTimeRow, standIns := [], harness := (true, "23252f1812f9579c57309dbfdb9390aa1bdcc65a3cc3ef6b60fb8ffd3475eaab"), looks := true }, kinds := [], alts := [], laidByText := true, laidKinds := [.data, .data, .data, .sentinel, .sentinel, .data], laidTests := true, laidLooks := .later }
def FnExactReadTimeCardSaid : Prop := Claim7.holds Tryd.pinned (.plain (OpenSpec.ofChange fnExactReadTimeSpec)) fnExactReadTimeCard

/-- THE TIED CARD OF 'laws.FnTimes'. -/
def fnTimesCard : Claim7 := { stood := { row := fnTimesRow, standIns := [], harness := (true, "23252f1812f9579c57309dbfdb9390aa1bdcc65a3cc3ef6b60fb8ffd3475eaab"), looks := true }, kinds := [], alts := [], laidByText := true, laidKinds := [.data, .data, .data, .sentinel, .sentinel, .data], laidTests := true, laidLooks := .later }
def FnTimesCardSaid : Prop := Claim7.holds Tryd.pinned (.plain (OpenSpec.ofChange fnTimesSpec)) fnTimesCard

/-- THE SECOND FORM's CARD OF 'laws.FnExactTimeOf'. -/
def fnExactTimeOfUptoCard : Claim7 := { stood := { row := fnExactTimeOfUptoRow, standIns := [], harness := (true, "23252f1812f9579c57309dbfdb9390aa1bdcc65a3cc3ef6b60fb8ffd3475eaab"), looks := true }, kinds := [], alts := [], laidByText := true, laidKinds := [.data], laidTests := true, laidLooks := .later }
def FnExactTimeOfUptoCardSaid : Prop := Claim7.holds Tryd.pinned (.plain (OpenSpec.upto fnExactTimeOfSpec)) fnExactTimeOfUptoCard

/-- THE SECOND FORM's CARD OF 'laws.FnExactDayOf'. -/
def fnExactDayOfUptoCard : Claim7 := { stood := { row := fnExactDayOfUptoRow, standIns := [], harness := (true, "23252f1812f9579c57309dbfdb9390aa1bdcc65a3cc3ef6b60fb8ffd3475eaab"), looks := true }, kinds := [], alts := [], laidByText := true, laidKinds := [.data], laidTests := true, laidLooks := .later }
def FnExactDayOfUptoCardSaid : Prop := Claim7.holds Tryd.pinned (.plain (OpenSpec.upto fnExactDayOfSpec)) fnExactDayOfUptoCard

/-- THE SECOND FORM's CARD OF 'laws.FnExactShortTime'. -/
def fnExactShortTimeUptoCard : Claim7 := { stood := { row := fnExactShortTimeUptoRow, standIns := [], harness := (true, "23252f1812f9579c57309dbfdb9390aa1bdcc65a3cc3ef6b60fb8ffd3475eaab"), looks := true }, kinds := [], alts := [], laidByText := true, laidKinds := [.data, .data, .data, .data], laidTests := true, laidLooks := .later }
def FnExactShortTimeUptoCardSaid : Prop := Claim7.holds Tryd.pinned (.plain (OpenSpec.upto fnExactShortTimeSpec)) fnExactShortTimeUptoCard

/-- THE SECOND FORM's CARD OF 'laws.FnExactLongTime'. -/
def fnExactLongTimeUptoCard : Claim7 := { stood := { row := fnExactLongTimeUptoRow, standIns := [], harness := (true, "23252f1812f9579c57309dbfdb9390aa1bdcc65a3cc3ef6b60fb8ffd3475eaab"), looks := true }, kinds := [], alts := [], laidByText := true, laidKinds := [.data, .data, .data, .data], laidTests := true, laidLooks := .later }
def FnExactLongTimeUptoCardSaid : Prop := Claim7.holds Tryd.pinned (.plain (OpenSpec.upto fnExactLongTimeSpec)) fnExactLongTimeUptoCard

/-- THE SECOND FORM's CARD OF 'laws.FnExactReadTime'. -/
def fnExactReadTimeUptoCard : Claim7 := { stood := { row := fnExactReadTimeUptoRow, standIns := [], harness := (true, "23252f1812f9579c57309dbfdb9390aa1bdcc65a3cc3ef6b60fb8ffd3475eaab"), looks := true }, kinds := [], alts := [], laidByText := true, laidKinds := [.data, .data, .data, .sentinel, .sentinel, .data], laidTests := true, laidLooks := .later }
def FnExactReadTimeUptoCardSaid : Prop := Claim7.holds Tryd.pinned (.plain (OpenSpec.upto fnExactReadTimeSpec)) fnExactReadTimeUptoCard

/-- THE SECOND FORM's CARD OF 'laws.FnTimes'. -/
def fnTimesUptoCard : Claim7 := { stood := { row := fnTimesUptoRow, standIns := [], harness := (true, "23252f1812f9579c57309dbfdb9390aa1bdcc65a3cc3ef6b60fb8ffd3475eaab"), looks := true }, kinds := [], alts := [], laidByText := true, laidKinds := [.data, .data, .data, .sentinel, .sentinel, .data], laidTests := true, laidLooks := .later }
def FnTimesUptoCardSaid : Prop := Claim7.holds Tryd.pinned (.plain (OpenSpec.upto fnTimesSpec)) fnTimesUptoCard
end Rows
end Go.Proofs.YtjidlahgfkdipaaDoor
