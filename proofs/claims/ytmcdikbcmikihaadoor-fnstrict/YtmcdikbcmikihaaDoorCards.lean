/-
  DERIVED. GIVEN WITH THE SEED: THE CARDS: each row of YtmcdikbcmikihaaDoorRows.lean that lists a variable, with what it lists TIED to the program's text (the seventh form; the later family's looks); each row that meets fmt, with fmt's text TOLD by the authors' own Lean function (tested against real Go, not proved from fmt's source: count such statements apart). THE CARD IS WHAT COUNTS. Prove the row's statement (the work); the ties are given (YtmcdikbcmikihaaDoorTie.lean); close each card by the builder's one call (the guide's Derived/Test/ToyasCard.lean, 'card_holds'). Laid BY PROGRAM, IN A SANDBOX (cutbox-door.mjs). By AI agents, Wed Nov 11 2026. No macro, syntax, notation, axiom, sorry.
-/
import Derived.Test.YtmcdikbcmikihaaDoorRows
import GoSem.ClaimSeven
namespace Go.Proofs.YtmcdikbcmikihaaDoor
namespace Rows

/-- THE TIED CARD OF 'laws.FnExactReadDer'. -/
def fnExactReadDerCard : Claim7 := { stood := { row := fnExactReadDerRow, standIns := [], harness := (true, "d0f90618f79cfcc7675838b2419fa9631dec271050c69de9994883a730e26704"), looks := true }, kinds := [], alts := [], laidByText := true, laidKinds := [.handle], laidTests := true, laidLooks := .later }
def FnExactReadDerCardSaid : Prop := Claim7.holds Tryd.pinned (.plain (OpenSpec.ofChange fnExactReadDerSpec)) fnExactReadDerCard

/-- THE TIED CARD OF 'laws.FnTrees'. -/
def fnTreesCard : Claim7 := { stood := { row := fnTreesRow, standIns := [], harness := (true, "d0f90618f79cfcc7675838b2419fa9631dec271050c69de9994883a730e26704"), looks := true }, kinds := [], alts := [], laidByText := true, laidKinds := [.handle], laidTests := true, laidLooks := .later }
def FnTreesCardSaid : Prop := Claim7.holds Tryd.pinned (.plain (OpenSpec.ofChange fnTreesSpec)) fnTreesCard

/-- THE TIED CARD OF 'laws.FnStrict'. -/
def fnStrictCard : Claim7 := { stood := { row := fnStrictRow, standIns := [], harness := (true, "d0f90618f79cfcc7675838b2419fa9631dec271050c69de9994883a730e26704"), looks := true }, kinds := [], alts := [], laidByText := true, laidKinds := [.handle], laidTests := true, laidLooks := .later }
def FnStrictCardSaid : Prop := Claim7.holds Tryd.pinned (.plain (OpenSpec.ofChange fnStrictSpec)) fnStrictCard

/-- THE SECOND FORM's CARD OF 'laws.FnExactReadDer'. -/
def fnExactReadDerUptoCard : Claim7 := { stood := { row := fnExactReadDerUptoRow, standIns := [], harness := (true, "d0f90618f79cfcc7675838b2419fa9631dec271050c69de9994883a730e26704"), looks := true }, kinds := [], alts := [], laidByText := true, laidKinds := [.handle], laidTests := true, laidLooks := .later }
def FnExactReadDerUptoCardSaid : Prop := Claim7.holds Tryd.pinned (.plain (OpenSpec.upto fnExactReadDerSpec)) fnExactReadDerUptoCard

/-- THE SECOND FORM's CARD OF 'laws.FnTrees'. -/
def fnTreesUptoCard : Claim7 := { stood := { row := fnTreesUptoRow, standIns := [], harness := (true, "d0f90618f79cfcc7675838b2419fa9631dec271050c69de9994883a730e26704"), looks := true }, kinds := [], alts := [], laidByText := true, laidKinds := [.handle], laidTests := true, laidLooks := .later }
def FnTreesUptoCardSaid : Prop := Claim7.holds Tryd.pinned (.plain (OpenSpec.upto fnTreesSpec)) fnTreesUptoCard

/-- THE SECOND FORM's CARD OF 'laws.FnStrict'. -/
def fnStrictUptoCard : Claim7 := { stood := { row := fnStrictUptoRow, standIns := [], harness := (true, "d0f90618f79cfcc7675838b2419fa9631dec271050c69de9994883a730e26704"), looks := true }, kinds := [], alts := [], laidByText := true, laidKinds := [.handle], laidTests := true, laidLooks := .later }
def FnStrictUptoCardSaid : Prop := Claim7.holds Tryd.pinned (.plain (OpenSpec.upto fnStrictSpec)) fnStrictUptoCard
end Rows
end Go.Proofs.YtmcdikbcmikihaaDoor
