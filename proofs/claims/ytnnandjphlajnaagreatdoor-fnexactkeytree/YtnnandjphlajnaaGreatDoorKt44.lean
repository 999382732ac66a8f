/- Walks: of a curve of the program (impl.Pair): parity, opposite, lift. -/
import Derived.Test.YtnnandjphlajnaaGreatDoorKt25
import Derived.Test.YtnnandjphlajnaaGreatDoorKt41
namespace Go.Proofs.YtnnandjphlajnaaGreatDoor

section
set_option linter.unusedVariables false
set_option linter.unusedSimpArgs false

open Go.RowKit

theorem parityPr (a : Pr) (h0 : 0 ≤ a.x) (w : World) : Calls Tryz.prog 174 #[.agg #[.int .i64 a.x, .int .i64 a.y]] w fun e w' => e = .returned (.int .i64 (a.x % 2)) ∧ Ext w w' := by
  go_enter Tryz.func174, Tryz.ntmps174
  go_wp2
  go_ret
  exact ⟨rfl, Ext.alloc _ _⟩
end

end Go.Proofs.YtnnandjphlajnaaGreatDoor
