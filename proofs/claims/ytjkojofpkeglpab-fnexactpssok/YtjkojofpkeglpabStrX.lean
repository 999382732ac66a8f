/- Arrays of eight numbers: indexed, compared. -/
import Derived.Test.YtjkojofpkeglpabBlk
import Derived.Test.YtjkojofpkeglpabBLists
import Derived.Handy
import Derived.ChangeKeysEq
namespace Go.Proofs.Ytjkojofpkeglpab
set_option linter.unusedVariables false
set_option linter.unusedSimpArgs false
open Go.RowKit

theorem ixI0 (a0 a1 a2 a3 a4 a5 a6 a7 : Int) (w : World) : (Instr.index 60 (.agg #[.int .i64 a0, .int .i64 a1, .int .i64 a2, .int .i64 a3, .int .i64 a4, .int .i64 a5, .int .i64 a6, .int .i64 a7]) (.int .i64 0)).run Try.prog w = .ok (.int .i64 a0) w := by kernel_rfl

theorem ixI1 (a0 a1 a2 a3 a4 a5 a6 a7 : Int) (w : World) : (Instr.index 60 (.agg #[.int .i64 a0, .int .i64 a1, .int .i64 a2, .int .i64 a3, .int .i64 a4, .int .i64 a5, .int .i64 a6, .int .i64 a7]) (.int .i64 1)).run Try.prog w = .ok (.int .i64 a1) w := by kernel_rfl

theorem ixI2 (a0 a1 a2 a3 a4 a5 a6 a7 : Int) (w : World) : (Instr.index 60 (.agg #[.int .i64 a0, .int .i64 a1, .int .i64 a2, .int .i64 a3, .int .i64 a4, .int .i64 a5, .int .i64 a6, .int .i64 a7]) (.int .i64 2)).run Try.prog w = .ok (.int .i64 a2) w := by kernel_rfl

theorem ixI3 (a0 a1 a2 a3 a4 a5 a6 a7 : Int) (w : World) : (Instr.index 60 (.agg #[.int .i64 a0, .int .i64 a1, .int .i64 a2, .int .i64 a3, .int .i64 a4, .int .i64 a5, .int .i64 a6, .int .i64 a7]) (.int .i64 3)).run Try.prog w = .ok (.int .i64 a3) w := by kernel_rfl

theorem ixI4 (a0 a1 a2 a3 a4 a5 a6 a7 : Int) (w : World) : (Instr.index 60 (.agg #[.int .i64 a0, .int .i64 a1, .int .i64 a2, .int .i64 a3, .int .i64 a4, .int .i64 a5, .int .i64 a6, .int .i64 a7]) (.int .i64 4)).run Try.prog w = .ok (.int .i64 a4) w := by kernel_rfl

theorem ixI5 (a0 a1 a2 a3 a4 a5 a6 a7 : Int) (w : World) : (Instr.index 60 (.agg #[.int .i64 a0, .int .i64 a1, .int .i64 a2, .int .i64 a3, .int .i64 a4, .int .i64 a5, .int .i64 a6, .int .i64 a7]) (.int .i64 5)).run Try.prog w = .ok (.int .i64 a5) w := by kernel_rfl

theorem ixI6 (a0 a1 a2 a3 a4 a5 a6 a7 : Int) (w : World) : (Instr.index 60 (.agg #[.int .i64 a0, .int .i64 a1, .int .i64 a2, .int .i64 a3, .int .i64 a4, .int .i64 a5, .int .i64 a6, .int .i64 a7]) (.int .i64 6)).run Try.prog w = .ok (.int .i64 a6) w := by kernel_rfl

theorem ixI7 (a0 a1 a2 a3 a4 a5 a6 a7 : Int) (w : World) : (Instr.index 60 (.agg #[.int .i64 a0, .int .i64 a1, .int .i64 a2, .int .i64 a3, .int .i64 a4, .int .i64 a5, .int .i64 a6, .int .i64 a7]) (.int .i64 7)).run Try.prog w = .ok (.int .i64 a7) w := by kernel_rfl

theorem ixU0 (a0 a1 a2 a3 a4 a5 a6 a7 : Int) (w : World) : (Instr.index 113 (.agg #[.int .u32 a0, .int .u32 a1, .int .u32 a2, .int .u32 a3, .int .u32 a4, .int .u32 a5, .int .u32 a6, .int .u32 a7]) (.int .i64 0)).run Try.prog w = .ok (.int .u32 a0) w := by kernel_rfl

theorem ixU1 (a0 a1 a2 a3 a4 a5 a6 a7 : Int) (w : World) : (Instr.index 113 (.agg #[.int .u32 a0, .int .u32 a1, .int .u32 a2, .int .u32 a3, .int .u32 a4, .int .u32 a5, .int .u32 a6, .int .u32 a7]) (.int .i64 1)).run Try.prog w = .ok (.int .u32 a1) w := by kernel_rfl

theorem ixU2 (a0 a1 a2 a3 a4 a5 a6 a7 : Int) (w : World) : (Instr.index 113 (.agg #[.int .u32 a0, .int .u32 a1, .int .u32 a2, .int .u32 a3, .int .u32 a4, .int .u32 a5, .int .u32 a6, .int .u32 a7]) (.int .i64 2)).run Try.prog w = .ok (.int .u32 a2) w := by kernel_rfl

theorem ixU3 (a0 a1 a2 a3 a4 a5 a6 a7 : Int) (w : World) : (Instr.index 113 (.agg #[.int .u32 a0, .int .u32 a1, .int .u32 a2, .int .u32 a3, .int .u32 a4, .int .u32 a5, .int .u32 a6, .int .u32 a7]) (.int .i64 3)).run Try.prog w = .ok (.int .u32 a3) w := by kernel_rfl

theorem ixU4 (a0 a1 a2 a3 a4 a5 a6 a7 : Int) (w : World) : (Instr.index 113 (.agg #[.int .u32 a0, .int .u32 a1, .int .u32 a2, .int .u32 a3, .int .u32 a4, .int .u32 a5, .int .u32 a6, .int .u32 a7]) (.int .i64 4)).run Try.prog w = .ok (.int .u32 a4) w := by kernel_rfl

theorem ixU5 (a0 a1 a2 a3 a4 a5 a6 a7 : Int) (w : World) : (Instr.index 113 (.agg #[.int .u32 a0, .int .u32 a1, .int .u32 a2, .int .u32 a3, .int .u32 a4, .int .u32 a5, .int .u32 a6, .int .u32 a7]) (.int .i64 5)).run Try.prog w = .ok (.int .u32 a5) w := by kernel_rfl

theorem ixU6 (a0 a1 a2 a3 a4 a5 a6 a7 : Int) (w : World) : (Instr.index 113 (.agg #[.int .u32 a0, .int .u32 a1, .int .u32 a2, .int .u32 a3, .int .u32 a4, .int .u32 a5, .int .u32 a6, .int .u32 a7]) (.int .i64 6)).run Try.prog w = .ok (.int .u32 a6) w := by kernel_rfl

theorem ixU7 (a0 a1 a2 a3 a4 a5 a6 a7 : Int) (w : World) : (Instr.index 113 (.agg #[.int .u32 a0, .int .u32 a1, .int .u32 a2, .int .u32 a3, .int .u32 a4, .int .u32 a5, .int .u32 a6, .int .u32 a7]) (.int .i64 7)).run Try.prog w = .ok (.int .u32 a7) w := by kernel_rfl

theorem run_eqA8 (a0 a1 a2 a3 a4 a5 a6 a7 b0 b1 b2 b3 b4 b5 b6 b7 : Int) (w : World) : (binOp .eql 60 (.agg #[.int .i64 a0, .int .i64 a1, .int .i64 a2, .int .i64 a3, .int .i64 a4, .int .i64 a5, .int .i64 a6, .int .i64 a7]) (.agg #[.int .i64 b0, .int .i64 b1, .int .i64 b2, .int .i64 b3, .int .i64 b4, .int .i64 b5, .int .i64 b6, .int .i64 b7])).run Try.prog w = .ok (.bool (a0 == b0 && (a1 == b1 && (a2 == b2 && (a3 == b3 && (a4 == b4 && (a5 == b5 && (a6 == b6 && (a7 == b7))))))))) w := by
  obtain ⟨i, hi⟩ : ∃ i, Try.prog.info? 3 = some i := by
    cases q : Try.prog.info? 3 with
    | none => have := Try.info3; rw [q] at this; cases this
    | some i => exact ⟨i, rfl⟩
  rw [run_eql_struct, show (10000 : Nat) = 9999 + 1 from rfl, run_equalIn_array w 9999 _ _ Try.underlying60 hi]
  simp only [show List.range 8 = [0, 1, 2, 3, 4, 5, 6, 7] from rfl, show Try.prog.cellsOf 3 = 1 by kernel_rfl]
  cases e0 : (a0 == b0)
  · simp [Op.eqItems, part, go_sem, e0]
  · skip
    cases e1 : (a1 == b1)
    · simp [Op.eqItems, part, go_sem, e0, e1]
    · skip
      cases e2 : (a2 == b2)
      · simp [Op.eqItems, part, go_sem, e0, e1, e2]
      · skip
        cases e3 : (a3 == b3)
        · simp [Op.eqItems, part, go_sem, e0, e1, e2, e3]
        · skip
          cases e4 : (a4 == b4)
          · simp [Op.eqItems, part, go_sem, e0, e1, e2, e3, e4]
          · skip
            cases e5 : (a5 == b5)
            · simp [Op.eqItems, part, go_sem, e0, e1, e2, e3, e4, e5]
            · skip
              cases e6 : (a6 == b6)
              · simp [Op.eqItems, part, go_sem, e0, e1, e2, e3, e4, e5, e6]
              · skip
                cases e7 : (a7 == b7)
                · simp [Op.eqItems, part, go_sem, e0, e1, e2, e3, e4, e5, e6, e7]
                · simp [Op.eqItems, part, go_sem, e0, e1, e2, e3, e4, e5, e6, e7]

end Go.Proofs.Ytjkojofpkeglpab
