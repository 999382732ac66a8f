/- Walks: the law's own helpers over curves and points: toCurve, toPoint, eqPoint. -/
import Derived.Test.YtcfpmillbdkpcaaDoorChecked
import Derived.Test.YtcfpmillbdkpcaaDoorCurveN
namespace Go.Proofs.YtcfpmillbdkpcaaDoor
set_option linter.unusedVariables false
open Go.RowKit

set_option maxHeartbeats 400000 in
theorem toCurve_any (P A B N gx gy : Int) (w : World) : Calls Tryd.prog 25 #[.agg #[.int .i64 P, .int .i64 A, .int .i64 B, .int .i64 N, .int .i64 gx, .int .i64 gy]] w fun r w' => r = .returned (.agg #[.int .i64 P, .int .i64 A, .int .i64 B, .int .i64 N, .int .i64 gx, .int .i64 gy]) ∧ Below w.heap.size w w' := by
  go_enter Tryd.func25, Tryd.ntmps25
  go_wp2
  refine bodyPost_ret (v := .agg #[.int .i64 P, .int .i64 A, .int .i64 B, .int .i64 N, .int .i64 gx, .int .i64 gy]) (by simp [results, Tryd.results25, go_sem]) rfl ⟨rfl, ?_⟩
  repeat (first | exact Below.refl _ _ | refine Below.setCell ?_ (by simp <;> omega) _ | refine Below.alloc ?_ (by simp <;> omega) _)

set_option maxHeartbeats 400000 in
theorem toPoint_any (x y : Int) (f : Bool) (w : World) : Calls Tryd.prog 26 #[.agg #[.int .i64 x, .int .i64 y, .bool f]] w fun r w' => r = .returned (.agg #[.int .i64 x, .int .i64 y, .bool f]) ∧ Below w.heap.size w w' := by
  go_enter Tryd.func26, Tryd.ntmps26
  go_wp2
  refine bodyPost_ret (v := .agg #[.int .i64 x, .int .i64 y, .bool f]) (by simp [results, Tryd.results26, go_sem]) rfl ⟨rfl, ?_⟩
  repeat (first | exact Below.refl _ _ | refine Below.setCell ?_ (by simp <;> omega) _ | refine Below.alloc ?_ (by simp <;> omega) _)

set_option maxHeartbeats 400000 in
theorem eqPoint_same (x y : Int) (f : Bool) (w : World) : Calls Tryd.prog 32 #[.agg #[.int .i64 x, .int .i64 y, .bool f], .agg #[.int .i64 x, .int .i64 y, .bool f]] w fun r w' => r = .returned (.bool true) ∧ Below w.heap.size w w' := by
  have h1 : (x != x) = false := by simp
  have h2 : (y != y) = false := by simp
  have h3 : (f != f) = false := by simp
  go_enter Tryd.func32, Tryd.ntmps32
  go_wp2
  go_ret
  exact ⟨rfl, ((Below.refl _ _).alloc (Nat.le_refl _) _).alloc (by simp) _⟩

end Go.Proofs.YtcfpmillbdkpcaaDoor
