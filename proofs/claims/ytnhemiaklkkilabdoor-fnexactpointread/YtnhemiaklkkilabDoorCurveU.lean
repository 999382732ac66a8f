/- Walks: PointOk, PointAdd and PointMul of the program. -/
import Derived.Test.YtnhemiaklkkilabDoorCurveQ
import Derived.Deep.RegionHeld3
namespace Go.Proofs.YtnhemiaklkkilabDoor
set_option linter.unusedVariables false
open Go.RowKit

theorem exists_bool (Q : Prop) : ∃ ok : Bool, ok = true ↔ Q := by
  by_cases h : Q
  · exact ⟨true, ⟨fun _ => h, fun _ => rfl⟩⟩
  · exact ⟨false, ⟨fun k => by simp at k, fun k => absurd k h⟩⟩

theorem implCurveOk_at (P A B N gx gy : Int) (hP1 : P ≤ 9223372036854775807) (hN1 : N ≤ 9223372036854775807) (ok : Bool) (hk : ok = true ↔ CvOk P A B N gx gy) (w : World) : Calls Tryd.prog 33 #[.agg #[.int .i64 P, .int .i64 A, .int .i64 B, .int .i64 N, .int .i64 gx, .int .i64 gy]] w fun r w' => r = .returned (.bool ok) ∧ Below w.heap.size w w' := by
  refine (implCurveOk_any P A B N gx gy w hP1 hN1).mono ?_
  rintro r w' ⟨⟨k, rfl, hk'⟩, hw⟩
  refine ⟨?_, hw⟩
  have : k = ok := by rw [Bool.eq_iff_iff, hk', hk]
  rw [this]

set_option maxHeartbeats 800000 in
set_option maxRecDepth 100000 in
theorem implPointOk_any (P A B N gx gy : Int) (a : Pt) (w : World) (hP1 : P ≤ 9223372036854775807) (hN1 : N ≤ 9223372036854775807) : Calls Tryd.prog 24 #[.agg #[.int .i64 P, .int .i64 A, .int .i64 B, .int .i64 N, .int .i64 gx, .int .i64 gy], .agg #[.int .i64 a.x, .int .i64 a.y, .bool a.far]] w fun r w' => GivesOk P A B N gx gy a r ∧ Below w.heap.size w w' := by
  have hfd : ∀ w : World, (Instr.field 53 (.agg #[.func (.func 40) #[.agg #[.int .i64 P, .int .i64 A, .int .i64 B, .int .i64 N, .int .i64 gx, .int .i64 gy]] #[], .func (.func 41) #[.agg #[.int .i64 P, .int .i64 A, .int .i64 B, .int .i64 N, .int .i64 gx, .int .i64 gy]] #[], .func (.func 42) #[.agg #[.int .i64 P, .int .i64 A, .int .i64 B, .int .i64 N, .int .i64 gx, .int .i64 gy]] #[], .func (.func 43) #[.agg #[.int .i64 P, .int .i64 A, .int .i64 B, .int .i64 N, .int .i64 gx, .int .i64 gy]] #[]]) 0).run Tryd.prog w = .ok (.func (.func 40) #[.agg #[.int .i64 P, .int .i64 A, .int .i64 B, .int .i64 N, .int .i64 gx, .int .i64 gy]] #[]) w := fun _ => by kernel_rfl
  have K := (CvAt.alloc w P A B N gx gy 29).below (w' := (w.alloc (.cells #[.int .i64 P, .int .i64 A, .int .i64 B, .int .i64 N, .int .i64 gx, .int .i64 gy] 29)).alloc (.cells #[.int .i64 a.x, .int .i64 a.y, .bool a.far] 26)) ((Below.refl _ _).alloc (Nat.le_refl _) _) (by simp)
  have F := PtAt.alloc (w.alloc (.cells #[.int .i64 P, .int .i64 A, .int .i64 B, .int .i64 N, .int .i64 gx, .int .i64 gy] 29)) a 26
  rw [World.size_alloc] at F
  obtain ⟨a0, a1, a2, -, -, -⟩ := F
  obtain ⟨k0, k1, k2, k3, k4, k5⟩ := K
  have e0 := cell_regrown k0
  have e1 := cell_regrown k1
  have e2 := cell_regrown k2
  have e3 := cell_regrown k3
  have e4 := cell_regrown k4
  have e5 := cell_regrown k5
  have f0 := cell_regrown a0
  have f1 := cell_regrown a1
  have f2 := cell_regrown a2
  clear k0 k1 k2 k3 k4 k5 a0 a1 a2
  have HG : Hid (∀ (W : World) d os, Calls Tryd.prog 25 #[.agg #[.int .i64 P, .int .i64 A, .int .i64 B, .int .i64 N, .int .i64 gx, .int .i64 gy]] (Sort.grow (redrawn W d) os) fun e w'' => e = .returned (.agg #[.func (.func 40) #[.agg #[.int .i64 P, .int .i64 A, .int .i64 B, .int .i64 N, .int .i64 gx, .int .i64 gy]] #[], .func (.func 41) #[.agg #[.int .i64 P, .int .i64 A, .int .i64 B, .int .i64 N, .int .i64 gx, .int .i64 gy]] #[], .func (.func 42) #[.agg #[.int .i64 P, .int .i64 A, .int .i64 B, .int .i64 N, .int .i64 gx, .int .i64 gy]] #[], .func (.func 43) #[.agg #[.int .i64 P, .int .i64 A, .int .i64 B, .int .i64 N, .int .i64 gx, .int .i64 gy]] #[]]) ∧ ∃ p : Regrown, w'' = Sort.grow (redrawn W p.d) p.os) := fun W d os => Calls.regrown_of (groupOf_any P A B N gx gy _)
  by_cases hc : CvOk P A B N gx gy
  rotate_left
  · have HF : Hid (GivesOk P A B N gx gy a (.returned (.bool false))) := ⟨false, rfl, ⟨fun h => by simp at h, fun h => absurd h.1 hc⟩⟩
    have HC : Hid (∀ (W : World) d os, Calls Tryd.prog 33 #[.agg #[.int .i64 P, .int .i64 A, .int .i64 B, .int .i64 N, .int .i64 gx, .int .i64 gy]] (Sort.grow (redrawn W d) os) fun e w'' => e = .returned (.bool false) ∧ ∃ p : Regrown, w'' = Sort.grow (redrawn W p.d) p.os) := fun W d os => Calls.regrown_of (implCurveOk_at P A B N gx gy hP1 hN1 false ⟨fun h => by simp at h, fun h => absurd h hc⟩ _)
    clear hc
    go_enter Tryd.func24, Tryd.ntmps24
    go_wp2
    refine wp_region_quiet_below (by kernel_rfl) (by kernel_rfl) ?_
    repeat (first | go_big_quiet_step ((go_at_call 33; exact HC.out _ _ _)) | quiet_step ((go_at_call 33; exact HC.out _ _ _)))
    refine wpQuiet_nil ?_
    intro _ hw'
    obtain ⟨⟨dq, osq⟩, hw''⟩ := hw'
    subst hw''
    go_wp2
    go_ret
    exact ⟨HF.out, below_re (((Below.refl _ _).alloc (Nat.le_refl _) _).alloc (by simp) _) (by simp <;> omega) _ _⟩
  have HC : Hid (∀ (W : World) d os, Calls Tryd.prog 33 #[.agg #[.int .i64 P, .int .i64 A, .int .i64 B, .int .i64 N, .int .i64 gx, .int .i64 gy]] (Sort.grow (redrawn W d) os) fun e w'' => e = .returned (.bool true) ∧ ∃ p : Regrown, w'' = Sort.grow (redrawn W p.d) p.os) := fun W d os => Calls.regrown_of (implCurveOk_at P A B N gx gy hP1 hN1 true ⟨fun _ => hc, fun _ => rfl⟩ _)
  obtain ⟨ok, hok⟩ := exists_bool (On P.toNat A B a)
  have HF : Hid (GivesOk P A B N gx gy a (.returned (.bool ok))) := ⟨ok, rfl, by rw [hok]; exact ⟨fun h => ⟨hc, h⟩, fun h => h.2⟩⟩
  have HH : Hid (∀ (W : World) d os, Calls Tryd.prog 40 #[.agg #[.int .i64 P, .int .i64 A, .int .i64 B, .int .i64 N, .int .i64 gx, .int .i64 gy], .agg #[.int .i64 a.x, .int .i64 a.y, .bool a.far]] (Sort.grow (redrawn W d) os) fun e w'' => e = .returned (.bool ok) ∧ ∃ p : Regrown, w'' = Sort.grow (redrawn W p.d) p.os) := fun W d os => Calls.regrown_of (has_at P A B N gx gy a hc.num ok hok _)
  clear hc hok
  go_enter Tryd.func24, Tryd.ntmps24
  go_wp2
  refine wp_region_quiet_below (by kernel_rfl) (by kernel_rfl) ?_
  repeat (first | go_big_quiet_step (first | (go_at_call 33; exact HC.out _ _ _) | (go_at_call 25; exact HG.out _ _ _) | (go_at_call 40; exact HH.out _ _ _)) | quiet_step (first | (go_at_call 33; exact HC.out _ _ _) | (go_at_call 25; exact HG.out _ _ _) | (go_at_call 40; exact HH.out _ _ _)))
  refine wpQuiet_nil ?_
  intro _ hw'
  obtain ⟨⟨dq, osq⟩, hw''⟩ := hw'
  subst hw''
  go_wp2
  go_ret
  exact ⟨HF.out, below_re (((Below.refl _ _).alloc (Nat.le_refl _) _).alloc (by simp) _) (by simp <;> omega) _ _⟩

end Go.Proofs.YtnhemiaklkkilabDoor
