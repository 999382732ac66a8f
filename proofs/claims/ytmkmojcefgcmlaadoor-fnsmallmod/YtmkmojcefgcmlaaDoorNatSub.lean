/- Walks: NatSub, the model's and the program's. -/
import Derived.Test.YtmkmojcefgcmlaaDoorDDiff
import Derived.Test.YtmkmojcefgcmlaaDoorCmp
namespace Go.Proofs.YtmkmojcefgcmlaaDoor
set_option linter.unusedVariables false
open Go.RowKit

/-- NatSub's answer. -/
def subQ (n : Nat) (f : Nat → Int) (n2 : Nat) (g : Nat → Int) : Option Int := if natOk n f && natOk n2 g && !decide (val f n < val g n2) then some (val f n - val g n2) else none

end Go.Proofs.YtmkmojcefgcmlaaDoor
