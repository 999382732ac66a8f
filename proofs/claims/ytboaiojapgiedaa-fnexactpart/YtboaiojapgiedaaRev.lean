/- Walk: slices.Reverse over bytes of one's own. -/
import Derived.Test.YtboaiojapgiedaaChecked
import Derived.Test.YtboaiojapgiedaaBBase
namespace Go.Proofs.Ytboaiojapgiedaa
set_option linter.unusedVariables false
set_option linter.unusedSimpArgs false
open Go.RowKit

/-- Turned about up to place i from each end. -/
def revF (f : Nat → Int) (n i : Nat) (k : Nat) : Int := if k < i ∨ n - i ≤ k then f (n - 1 - k) else f k

end Go.Proofs.Ytboaiojapgiedaa
