/- Walk: the model's l1Bits. -/
import Derived.Test.YtmkmojcefgcmlaaDoorNatOk
import Derived.Test.YtmkmojcefgcmlaaDoorBitLen
namespace Go.Proofs.YtmkmojcefgcmlaaDoor
set_option linter.unusedVariables false
open Go.RowKit

theorem ok_top {n : Nat} {f : Nat → Int} (h : natOk n f = true) : n = 0 ∨ (0 ≤ f (n - 1) ∧ f (n - 1) ≤ 65535) := by
  by_cases h0 : n = 0
  · exact .inl h0
  · exact .inr (((natOk_iff n f).1 h).1 _ (by omega))

end Go.Proofs.YtmkmojcefgcmlaaDoor
