/- Walks: what Puny of both is made of: thresholds, digits' bytes, bias, words, near bytes, the least number. -/
import Derived.Test.YtdaneanloknkpaaDoorPnN
import Derived.Test.YtdaneanloknkpaaDoorNatOk
import Derived.Test.YtdaneanloknkpaaDoorBCat
import Derived.Test.YtdaneanloknkpaaDoorEqB
import Derived.Maps.AppendAt
namespace Go.Proofs.YtdaneanloknkpaaDoor
set_option linter.unusedVariables false
set_option linter.unusedSimpArgs false
open Go.RowKit

theorem pbias_eq (d m : Int) (b : Bool) {x : Int} (hx : x = (if b then d / 700 else d / 2) + (if b then d / 700 else d / 2) / m) : pbias d m b = bl x.toNat x 0 := by
  subst hx
  rfl

end Go.Proofs.YtdaneanloknkpaaDoor
