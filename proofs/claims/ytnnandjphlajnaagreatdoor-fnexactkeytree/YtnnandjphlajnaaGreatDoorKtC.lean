/- The closed facts of FnExactKeyTree's row: a reckoning over the translation alone, limb by limb. -/
import Derived.Test.YtnnandjphlajnaaGreatDoorRows
import Derived.Test.YtnnandjphlajnaaGreatDoorCards
import Derived.Test.YtnnandjphlajnaaGreatDoorTie
import Derived.WalkKit
import Derived.ProofKit
import Derived.OpenShut
import Derived.ShutString
import Derived.ChangeOld
import Derived.Below
import Derived.LaidLaws
import Derived.Lib.LaidTab
import Derived.Stop.LaidErr
import Derived.LaidMore
import Derived.Stop.Joined
import Derived.SevenTiedAt
import Derived.OpenVars
import Derived.ChangeVars
import Derived.Lay
namespace Go.Proofs.YtnnandjphlajnaaGreatDoor.fnExactKeyTree
open Go.ChangeShapes Go.WideShapes Go.ChangeAt Go.RowKit
open Go.ChangeMaps (open_string shut_string)
set_option linter.unusedVariables false
set_option linter.unusedSimpArgs false

theorem band {a b : Bool} (h : a = true) (k : b = true) : (a && b) = true := by rw [h, k]; rfl

set_option maxHeartbeats 40000000 in
theorem closed : joinedFacts Tryz.prog 3 Tryz.f3 Rows.fnExactKeyTreeSpec Rows.fnExactKeyTreeRow = true := by
  unfold joinedFacts
  repeat' (with_reducible refine band ?_ ?_)
  all_goals as_aux_lemma => kernel_rfl

end Go.Proofs.YtnnandjphlajnaaGreatDoor.fnExactKeyTree
