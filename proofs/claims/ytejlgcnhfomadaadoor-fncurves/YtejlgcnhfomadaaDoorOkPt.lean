/- Walks: CurveOk of the program. -/
import Derived.Test.YtejlgcnhfomadaaDoorGroPt
import Derived.Test.YtejlgcnhfomadaaDoorFaceGPt
namespace Go.Proofs.YtejlgcnhfomadaaDoor
set_option linter.unusedVariables false
open Go.RowKit

set_option maxHeartbeats 1600000 in
set_option maxRecDepth 100000 in
theorem expCurveOk_yes (P A B N gx gy : Int) (hG : Hid (∀ W : World, Calls Tryd.prog 40 #[.agg #[.int .i64 P, .int .i64 A, .int .i64 B, .int .i64 N, .int .i64 gx, .int .i64 gy]] W fun e w' => e = .returned (.agg #[.int .i64 0, .int .i64 0, .bool true, .int .i64 gx, .int .i64 gy, .bool false, .func (.func 87) #[.agg #[.int .i64 P, .int .i64 A, .int .i64 B, .int .i64 N, .int .i64 gx, .int .i64 gy]] #[], .func (.func 88) #[.agg #[.int .i64 P, .int .i64 A, .int .i64 B, .int .i64 N, .int .i64 gx, .int .i64 gy]] #[], .func (.func 89) #[.agg #[.int .i64 P, .int .i64 A, .int .i64 B, .int .i64 N, .int .i64 gx, .int .i64 gy]] #[], .func (.func 90) #[.agg #[.int .i64 P, .int .i64 A, .int .i64 B, .int .i64 N, .int .i64 gx, .int .i64 gy]] #[], .func (.func 91) #[] #[]]) ∧ Ext W w')) (w : World) :
    Calls Tryd.prog 11 #[.agg #[.int .i64 P, .int .i64 A, .int .i64 B, .int .i64 N, .int .i64 gx, .int .i64 gy]] w fun e w' => e = .returned (.bool true) ∧ Ext w w' := by
  have hmf : ∀ (fn : Fn) (first cap : Array Value) (w : World), (Instr.makeFunc fn first cap).run Tryd.prog w = .ok (.func fn first cap) w := fun _ _ _ _ => rfl
  go_enter Tryd.func11, Tryd.ntmps11
  go_wp2_with fail
  refine (answGPt_yes 40 (fun _ _ => rfl) P A B N gx gy _ (fun W hW => hG.out W)).mono ?_
  rintro e w1 ⟨rfl, hw1⟩
  obtain ⟨B0, hE, hz⟩ := box1 w [.int .i64 P, .int .i64 A, .int .i64 B, .int .i64 N, .int .i64 gx, .int .i64 gy] 25 hw1
  clear hw1 hG
  go_wp2
  go_ret
  refine ⟨rfl, hE.trans ?_⟩
  first | exact Ext.alloc _ _ | exact (Ext.alloc _ _).putL (Nat.le_refl _) [.int .i64 0, .int .i64 0, .bool true, .int .i64 gx, .int .i64 gy, .bool false, .func (.func 87) #[.agg #[.int .i64 P, .int .i64 A, .int .i64 B, .int .i64 N, .int .i64 gx, .int .i64 gy]] #[], .func (.func 88) #[.agg #[.int .i64 P, .int .i64 A, .int .i64 B, .int .i64 N, .int .i64 gx, .int .i64 gy]] #[], .func (.func 89) #[.agg #[.int .i64 P, .int .i64 A, .int .i64 B, .int .i64 N, .int .i64 gx, .int .i64 gy]] #[], .func (.func 90) #[.agg #[.int .i64 P, .int .i64 A, .int .i64 B, .int .i64 N, .int .i64 gx, .int .i64 gy]] #[], .func (.func 91) #[] #[]]

set_option maxHeartbeats 1600000 in
set_option maxRecDepth 100000 in
theorem expCurveOk_no (P A B N gx gy : Int) (hG : Hid (∀ W : World, Calls Tryd.prog 40 #[.agg #[.int .i64 P, .int .i64 A, .int .i64 B, .int .i64 N, .int .i64 gx, .int .i64 gy]] W fun e w' => e = .panicked [nrE] ∧ Ext W w')) (w : World) :
    Calls Tryd.prog 11 #[.agg #[.int .i64 P, .int .i64 A, .int .i64 B, .int .i64 N, .int .i64 gx, .int .i64 gy]] w fun e w' => e = .returned (.bool false) ∧ Ext w w' := by
  have hmf : ∀ (fn : Fn) (first cap : Array Value) (w : World), (Instr.makeFunc fn first cap).run Tryd.prog w = .ok (.func fn first cap) w := fun _ _ _ _ => rfl
  go_enter Tryd.func11, Tryd.ntmps11
  go_wp2_with fail
  refine (answGPt_no 40 (fun _ _ => rfl) P A B N gx gy _ (fun W hW => hG.out W)).mono ?_
  rintro e w1 ⟨rfl, hw1⟩
  obtain ⟨B0, hE, hz⟩ := box1 w [.int .i64 P, .int .i64 A, .int .i64 B, .int .i64 N, .int .i64 gx, .int .i64 gy] 25 hw1
  clear hw1 hG
  go_wp2
  go_ret
  refine ⟨rfl, hE.trans ?_⟩
  first | exact Ext.alloc _ _ | exact (Ext.alloc _ _).putL (Nat.le_refl _) [.int .i64 0, .int .i64 0, .bool false, .int .i64 0, .int .i64 0, .bool false, .nilFunc, .nilFunc, .nilFunc, .nilFunc, .nilFunc]

end Go.Proofs.YtejlgcnhfomadaaDoor
