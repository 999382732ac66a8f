/- Walks: of a curve of the program (impl.Point): parity, opposite, lift. -/
import Derived.Test.YtnnandjphlajnaaGreatDoorKt12
import Derived.Test.YtnnandjphlajnaaGreatDoorKt41
namespace Go.Proofs.YtnnandjphlajnaaGreatDoor

section
set_option linter.unusedVariables false
set_option linter.unusedSimpArgs false

open Go.RowKit

theorem parityPt (a : Pt) (h0 : 0 ≤ a.y) (w : World) : Calls Tryz.prog 173 #[.agg #[.int .i64 a.x, .int .i64 a.y, .bool a.far]] w fun e w' => e = .returned (.int .i64 (a.y % 2)) ∧ Ext w w' := by
  go_enter Tryz.func173, Tryz.ntmps173
  go_wp2
  go_ret
  exact ⟨rfl, Ext.alloc _ _⟩
end

end Go.Proofs.YtnnandjphlajnaaGreatDoor
