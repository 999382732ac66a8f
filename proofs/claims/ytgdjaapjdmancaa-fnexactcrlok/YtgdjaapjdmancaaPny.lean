/- Walks: what Puny of both is made of: thresholds, digits' bytes, bias, words, near bytes, the least number. -/
import Derived.Test.YtgdjaapjdmancaaPnN
import Derived.Test.YtgdjaapjdmancaaNatOk
import Derived.Test.YtgdjaapjdmancaaBCat
import Derived.Test.YtgdjaapjdmancaaEqB
import Derived.Maps.AppendAt
namespace Go.Proofs.Ytgdjaapjdmancaa
set_option linter.unusedVariables false
set_option linter.unusedSimpArgs false
open Go.RowKit

theorem pbias_eq (d m : Int) (b : Bool) {x : Int} (hx : x = (if b then d / 700 else d / 2) + (if b then d / 700 else d / 2) / m) : pbias d m b = blP x.toNat x 0 := by
  subst hx
  rfl

end Go.Proofs.Ytgdjaapjdmancaa
