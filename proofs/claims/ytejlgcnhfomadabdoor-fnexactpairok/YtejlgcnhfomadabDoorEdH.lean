/- Walks: has of a twisted curve of the program. -/
import Derived.Test.YtejlgcnhfomadabDoorEdQ
namespace Go.Proofs.YtejlgcnhfomadabDoor
set_option linter.unusedVariables false
open Go.RowKit

set_option maxHeartbeats 1600000 in
set_option maxRecDepth 100000 in
theorem hasE_in (P D L bx cy x y : Int) (w : World) (p2 : 2 ≤ P) (pM : P ≤ 1048576) (d0 : 0 ≤ D) (d1 : D ≤ 1048576) (x0 : 0 ≤ x) (x1 : x ≤ P - 1) (y0 : 0 ≤ y) (y1 : y ≤ P - 1) :
    Calls Tryd.prog 79 #[.agg #[.int .i64 P, .int .i64 D, .int .i64 L, .int .i64 bx, .int .i64 cy], .agg #[.int .i64 x, .int .i64 y]] w fun r w' => GivesOnE P D ⟨x, y⟩ r ∧ Ext w w' := by
  have pp : 0 < P := by omega
  obtain ⟨a0, a1⟩ := mulBd y0 (show y ≤ 1048576 by omega) y0 (show y ≤ 1048576 by omega)
  obtain ⟨b0, b1⟩ := mulBd x0 (show x ≤ 1048576 by omega) x0 (show x ≤ 1048576 by omega)
  have m0 := Int.emod_nonneg (x * x) (show P ≠ 0 by omega)
  have m1 := Int.emod_lt_of_pos (x * x) pp
  have n0 := Int.emod_nonneg (y * y) (show P ≠ 0 by omega)
  have n1 := Int.emod_lt_of_pos (y * y) pp
  have HP := hide (has_progE (P := P) (D := D) pp x0 x1 y0 y1)
  obtain ⟨T, hT⟩ : ∃ T, D * (x * x % P) % P * (y * y % P) % P = T := ⟨_, rfl⟩
  have t0 : 0 ≤ T := by rw [← hT]; exact Int.emod_nonneg _ (by omega)
  have t1 : T < P := by rw [← hT]; exact Int.emod_lt_of_pos _ pp
  have HT : Hid (∀ (W : World) d os, Calls Tryd.prog 97 #[.agg #[.int .i64 P, .int .i64 D, .int .i64 L, .int .i64 bx, .int .i64 cy], .int .i64 (x * x % P), .int .i64 (y * y % P)] (Sort.grow (redrawn W d) os) fun e w'' => e = .returned (.int .i64 T) ∧ ∃ p : Regrown, w'' = Sort.grow (redrawn W p.d) p.os) := fun W d os => Calls.regrown_of (by have := twisted_any P D L bx cy (x * x % P) (y * y % P) (Sort.grow (redrawn W d) os) p2 pM d0 d1 m0 m1 n0 n1; rw [hT] at this; exact this)
  rw [hT] at HP
  have HR : Hid (∀ (W : World) d os, Calls Tryd.prog 92 #[.int .i64 (y * y % P - x * x % P - 1 - T), .int .i64 P] (Sort.grow (redrawn W d) os) fun e w'' => e = .returned (.int .i64 ((y * y % P - x * x % P - 1 - T) % P)) ∧ ∃ p : Regrown, w'' = Sort.grow (redrawn W p.d) p.os) := fun W d os => Calls.regrown_of ((intRest_any _ _ _ (by omega) (by omega) (by omega) (by omega)).mono fun r w' k => ⟨k.1, k.2 ▸ Below.refl _ _⟩)
  clear hT
  go_enter Tryd.func79, Tryd.ntmps79
  go_wp2_with fail
  refine (inField_at x P true (by simp; omega) _).mono ?_
  rintro r w' ⟨rfl, rfl⟩
  go_wp2_with fail
  refine (inField_at y P true (by simp; omega) _).mono ?_
  rintro r w' ⟨rfl, rfl⟩
  go_wp2
  go_quiet (fail)
  have hVE : Ext ((w.alloc (.cells #[.int .i64 P, .int .i64 D, .int .i64 L, .int .i64 bx, .int .i64 cy] 48)).alloc (.cells #[.int .i64 x, .int .i64 y] 54)) (((w.alloc (.cells #[.int .i64 P, .int .i64 D, .int .i64 L, .int .i64 bx, .int .i64 cy] 48)).alloc (.cells #[.int .i64 x, .int .i64 y] 54)).drewN nq) := below_drewN (Below.refl _ _) _
  obtain ⟨B1, -, hE, hz⟩ := box2 w [.int .i64 P, .int .i64 D, .int .i64 L, .int .i64 bx, .int .i64 cy] [.int .i64 x, .int .i64 y] 48 54 hVE
  clear hVE
  generalize ((w.alloc (.cells #[.int .i64 P, .int .i64 D, .int .i64 L, .int .i64 bx, .int .i64 cy] 48)).alloc (.cells #[.int .i64 x, .int .i64 y] 54)).drewN nq = V at *
  have k0 := cell_regrown (B1 0 _ rfl).1
  have k1 := cell_regrown (B1 1 _ rfl).1
  have k2 := cell_regrown (B1 2 _ rfl).1
  have k3 := cell_regrown (B1 3 _ rfl).1
  have k4 := cell_regrown (B1 4 _ rfl).1
  clear B1
  obtain ⟨u, hu⟩ : ∃ u, y * y % P = u := ⟨_, rfl⟩
  obtain ⟨v, hv⟩ : ∃ v, x * x % P = v := ⟨_, rfl⟩
  simp only [hu, hv] at *
  clear hu hv a0 a1 b0 b1
  go_wp2
  refine wp_region_quiet_below (by kernel_rfl) (by kernel_rfl) ?_
  repeat (first | go_big_quiet_step (first | (go_at_call 97; exact HT.out _ _ _) | (go_at_call 92; exact HR.out _ _ _)) | quiet_step (first | (go_at_call 97; exact HT.out _ _ _) | (go_at_call 92; exact HR.out _ _ _)))
  refine wpQuiet_nil ?_
  intro _ hw'
  obtain ⟨⟨dq, osq⟩, hw''⟩ := hw'
  subst hw''
  go_wp2
  go_ret
  refine ⟨⟨_, rfl, ?_⟩, below_re hE (by omega) _ _⟩
  rw [← HP.out, beq_iff_eq]

set_option maxHeartbeats 800000 in
theorem hasE_any (P D L bx cy x y : Int) (w : World) (p2 : 2 ≤ P) (pM : P ≤ 1048576) (d0 : 0 ≤ D) (d1 : D ≤ 1048576) :
    Calls Tryd.prog 79 #[.agg #[.int .i64 P, .int .i64 D, .int .i64 L, .int .i64 bx, .int .i64 cy], .agg #[.int .i64 x, .int .i64 y]] w fun r w' => GivesOnE P D ⟨x, y⟩ r ∧ Ext w w' := by
  by_cases c1 : 0 ≤ x ∧ x ≤ P - 1
  · by_cases c2 : 0 ≤ y ∧ y ≤ P - 1
    · exact hasE_in P D L bx cy x y w p2 pM d0 d1 c1.1 c1.2 c2.1 c2.2
    · have Hno : Hid (GivesOnE P D ⟨x, y⟩ (.returned (.bool false))) := givesOnE_no (fun h => c2 ⟨h.2.2.1, h.2.2.2⟩) (by omega)
      go_enter Tryd.func79, Tryd.ntmps79
      go_wp2_with fail
      refine (inField_at x P true (by simp; omega) _).mono ?_
      rintro r w' ⟨rfl, rfl⟩
      go_wp2_with fail
      refine (inField_at y P false (by simp; omega) _).mono ?_
      rintro r w' ⟨rfl, rfl⟩
      go_wp2
      go_ret
      exact ⟨Hno.out, ((Below.refl _ _).alloc (Nat.le_refl _) _).alloc (by simp) _⟩
  · have Hno : Hid (GivesOnE P D ⟨x, y⟩ (.returned (.bool false))) := givesOnE_no (fun h => c1 ⟨h.1, h.2.1⟩) (by omega)
    go_enter Tryd.func79, Tryd.ntmps79
    go_wp2_with fail
    refine (inField_at x P false (by simp; omega) _).mono ?_
    rintro r w' ⟨rfl, rfl⟩
    go_wp2
    go_ret
    exact ⟨Hno.out, ((Below.refl _ _).alloc (Nat.le_refl _) _).alloc (by simp) _⟩

end Go.Proofs.YtejlgcnhfomadabDoor
