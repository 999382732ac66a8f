/- Walks: the face of the program: want, what recovers, answered. -/
import Derived.Test.YtdaneanloknkpabDoorIn
import Derived.Defers
import Derived.Recover
import Derived.WalkLawsBesides
namespace Go.Proofs.YtdaneanloknkpabDoor
set_option linter.unusedVariables false
open Go.RowKit

/-- What is panicked with. -/
def nrE : PanicEntry := { v := .iface 177 (.agg #[]), recovered := false }

theorem want_yes (w : World) : Calls Tryd.prog 117 #[.bool true] w fun e w' => e = .returned (.tuple #[]) ∧ w' = w := by
  have hnot : ∀ (x : Bool) (w : World), (Op.unary .not (.bool x)).run Tryd.prog w = .ok (.bool (!x)) w := fun _ _ => rfl
  go_enter Tryd.func117, Tryd.ntmps117
  go_wp2
  go_end0
  exact ⟨rfl, rfl⟩

theorem want_no (w : World) : Calls Tryd.prog 117 #[.bool false] w fun e w' => e = .panicked [nrE] ∧ w' = w := by
  go_enter Tryd.func117, Tryd.ntmps117
  go_wp2
  exact ⟨rfl, rfl, rfl⟩

end Go.Proofs.YtdaneanloknkpabDoor
