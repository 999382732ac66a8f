/- Pairs compared. -/
import Derived.Test.YtfhiiakoilkbkaaGreatDoorCv17
namespace Go.Proofs.YtfhiiakoilkbkaaGreatDoor
set_option linter.unusedVariables false
set_option linter.unusedSimpArgs false
open Go.RowKit
theorem prHeld : Tryz.prog.stoodInHeld 49 = false := by kernel_rfl
theorem run_eqPr (x1 y1 x2 y2 : Int) (w : World) : (binOp .eql 49 (.agg #[.int .i64 x1, .int .i64 y1]) (.agg #[.int .i64 x2, .int .i64 y2])).run Tryz.prog w = .ok (.bool (x1 == x2 && y1 == y2)) w := by
 have u2 := prHeld
 cases hx : (x1 == x2)
 ·simp [go_sem, u2, hx]
 ·cases hy : (y1 == y2)
  ·simp [go_sem, u2, hx, hy]
  ·simp [go_sem, u2, hx, hy]
theorem run_nePr (x1 y1 x2 y2 : Int) (w : World) : (binOp .neq 49 (.agg #[.int .i64 x1, .int .i64 y1]) (.agg #[.int .i64 x2, .int .i64 y2])).run Tryz.prog w = .ok (.bool (!(x1 == x2 && y1 == y2))) w := by
 have u2 := prHeld
 cases hx : (x1 == x2)
 ·simp [go_sem, u2, hx]
 ·cases hy : (y1 == y2)
  ·simp [go_sem, u2, hx, hy]
  ·simp [go_sem, u2, hx, hy]
theorem nePr_yes {x y : Int} (h : ¬ (x = 0 ∧ y = 1)) (w : World) : (binOp .neq 49 (.agg #[.int .i64 x, .int .i64 y]) (.agg #[.int .i64 0, .int .i64 1])).run Tryz.prog w = .ok (.bool true) w := by
 rw [run_nePr]
 congr 2
 by_cases hx : x = 0
 ·have hy : ¬ y = 1 := fun k => h ⟨hx, k⟩
  simp [hy]
 ·simp [hx]
theorem nePr_no {x y : Int} (h : x = 0 ∧ y = 1) (w : World) : (binOp .neq 49 (.agg #[.int .i64 x, .int .i64 y]) (.agg #[.int .i64 0, .int .i64 1])).run Tryz.prog w = .ok (.bool false) w := by
 rw [run_nePr, h.1, h.2]; simp
theorem eqPr_yes (w : World) : (binOp .eql 49 (.agg #[.int .i64 0, .int .i64 1]) (.agg #[.int .i64 0, .int .i64 1])).run Tryz.prog w = .ok (.bool true) w := by
 rw [run_eqPr]; simp
theorem eqPr_no {R : Pr} (h : R ≠ oneE) (w : World) : (binOp .eql 49 (.agg #[.int .i64 R.x, .int .i64 R.y]) (.agg #[.int .i64 0, .int .i64 1])).run Tryz.prog w = .ok (.bool false) w := by
 rw [run_eqPr]
 congr 2
 obtain ⟨x, y⟩ := R
 by_cases hx : x = 0
 ·by_cases hy : y = 1
  ·exact absurd (by rw [hx, hy]; rfl) h
  ·simp [hy]
 ·simp [hx]
end Go.Proofs.YtfhiiakoilkbkaaGreatDoor
