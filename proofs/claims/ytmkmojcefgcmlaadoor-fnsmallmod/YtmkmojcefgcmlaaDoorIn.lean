/- Walk: the model's l1In: whether a number lies between two. -/
import Derived.Test.YtmkmojcefgcmlaaDoorChecked
import Derived.Test.YtmkmojcefgcmlaaDoorBase
namespace Go.Proofs.YtmkmojcefgcmlaaDoor
set_option linter.unusedVariables false
open Go.RowKit

theorem ret_ib2 {a b : Int} {p q : Bool} (h : a = b) (h2 : p = q) : Ending.returned (.tuple #[.int .i64 a, .bool p]) = .returned (.tuple #[.int .i64 b, .bool q]) := by rw [h, h2]

end Go.Proofs.YtmkmojcefgcmlaaDoor
