/- Walks: the face of the program: want, what recovers, answered. -/
import Derived.Test.YtdaneanloknkpacGreatDoorNumAll
import Derived.Defers
import Derived.Recover
import Derived.WalkLawsBesides
namespace Go.Proofs.YtdaneanloknkpacGreatDoor
set_option linter.unusedVariables false
open Go.RowKit

/-- What is panicked with. -/
def nrE : PanicEntry := { v := .iface 141 (.agg #[]), recovered := false }

theorem want_yes (w : World) : Calls Tryz.prog 54 #[.bool true] w fun e w' => e = .returned (.tuple #[]) ∧ w' = w := by
  have hnot : ∀ (x : Bool) (w : World), (Op.unary .not (.bool x)).run Tryz.prog w = .ok (.bool (!x)) w := fun _ _ => rfl
  go_enter Tryz.func54, Tryz.ntmps54
  go_wp2
  go_end0
  exact ⟨rfl, rfl⟩

theorem want_no (w : World) : Calls Tryz.prog 54 #[.bool false] w fun e w' => e = .panicked [nrE] ∧ w' = w := by
  go_enter Tryz.func54, Tryz.ntmps54
  go_wp2
  exact ⟨rfl, rfl, rfl⟩

end Go.Proofs.YtdaneanloknkpacGreatDoor
