/- Walks: curves of the program: add. -/
import Derived.Test.YtdaneanloknkpacGreatDoorCurveL
namespace Go.Proofs.YtdaneanloknkpacGreatDoor
set_option linter.unusedVariables false
open Go.RowKit

set_option maxHeartbeats 1600000 in
set_option maxRecDepth 100000 in
theorem add_cho (p : Nat) (A B N gx gy x1 y1 x2 y2 : Int) (w : World) (hpr : Prime p) (p5 : 5 ≤ p) (pM : p ≤ 1048576) (A0 : 0 ≤ A) (A1 : A < p) (a0 : 0 ≤ x1) (a1 : x1 < p) (a2 : 0 ≤ y1) (a3 : y1 < p) (b0 : 0 ≤ x2) (b1 : x2 < p) (b2 : 0 ≤ y2) (b3 : y2 < p) (hno : x1 ≠ x2) (hs : x1 = x2 → y1 = y2) :
    Calls Tryz.prog 214 #[.agg #[.int .i64 p, .int .i64 A, .int .i64 B, .int .i64 N, .int .i64 gx, .int .i64 gy], .agg #[.int .i64 x1, .int .i64 y1, .bool false], .agg #[.int .i64 x2, .int .i64 y2, .bool false]] w fun r w' => r = .returned (ptV (addF p A ⟨x1, y1, false⟩ ⟨x2, y2, false⟩)) ∧ Below w.heap.size w w' := by
  have hEq := run_eqPt
  have u3 := ptGuard
  have HV : Hid (addF p A ⟨x1, y1, false⟩ ⟨x2, y2, false⟩ = third p x1 y1 x2 (slopeF p A ⟨x1, y1, false⟩ ⟨x2, y2, false⟩)) := addF_fin (fun h => hno h.1)
  have hx' : (x1 == x2) = false := by simpa using hno
  have Ho : Hid (∀ (W : World) d os, Calls Tryz.prog 215 #[.agg #[.int .i64 p, .int .i64 A, .int .i64 B, .int .i64 N, .int .i64 gx, .int .i64 gy], .agg #[.int .i64 x2, .int .i64 y2, .bool false]] (Sort.grow (redrawn W d) os) fun r w'' => r = .returned (.agg #[.int .i64 x2, .int .i64 ((-y2) % p), .bool false]) ∧ ∃ p : Regrown, w'' = Sort.grow (redrawn W p.d) p.os) := fun W d os => opposite_re p A B N gx gy x2 y2 p5 pM b2 b3 W d os
  obtain ⟨S0, S1⟩ := slopeF_range (show 0 < p by omega) A ⟨x1, y1, false⟩ ⟨x2, y2, false⟩
  have Hs := hide (fun w => slope_any p A B N gx gy x1 y1 x2 y2 w hpr p5 pM A0 A1 a0 a1 a2 a3 b0 b1 b2 b3 hs)
  clear hs hno
  generalize slopeF p A ⟨x1, y1, false⟩ ⟨x2, y2, false⟩ = S at *
  have Hv : Hid (third p x1 y1 x2 S = ⟨(S * S - x1 - x2) % p, (S * (x1 - (S * S - x1 - x2) % p) - y1) % p, false⟩) := rfl
  obtain ⟨m0, m1⟩ := sq_bd (T := S) (p := p) (by omega) (by omega) S1
  generalize hz : (-y2) % (p : Int) = z at *
  clear hz
  go_enter Tryz.func214, Tryz.ntmps214
  go_wp2_with fail
  refine (farPoint_any _).mono ?_
  rintro r w1 ⟨rfl, hw1⟩
  have F1 := (Fr3.box w p A B N gx gy ⟨x1, y1, false⟩ ⟨x2, y2, false⟩ zeroP 35 36 36 36).call hw1
  have F2 := F1.call ((Below.refl _ _).alloc (Nat.le_refl _) (.cells #[.int .i64 0, .int .i64 0, .bool true] 36))
  have T2 := PtAt.alloc w1 farP 36
  have HF2 := hide F2
  have HT2 := hide T2
  clear hw1 F1
  obtain ⟨⟨k0, k1, k2, k3, k4, k5⟩, ⟨g0, g1, g2, -, -, -⟩, ⟨h0, h1, h2, -, -, -⟩, ⟨r0, r1, r2, q0, q1, q2⟩, -, hbig⟩ := F2
  obtain ⟨t0, t1, t2, -, -, -⟩ := T2
  simp only [ptV, farP]
  have e0 := cell_regrown k0
  have e1 := cell_regrown k1
  have e2 := cell_regrown k2
  have e3 := cell_regrown k3
  have e4 := cell_regrown k4
  have e5 := cell_regrown k5
  have e6 := cell_regrown g0
  have e7 := cell_regrown g1
  have e8 := cell_regrown g2
  have e9 := cell_regrown h0
  have e10 := cell_regrown h1
  have e11 := cell_regrown h2
  simp only at e6 e7 e8 e9 e10 e11
  go_wp2
  clear k0 k1 k2 k3 k4 k5 g0 g1 g2 h0 h1 h2 r0 r1 r2 q0 q1 q2 t0 t1 t2
  refine wp_region_quiet_below (by kernel_rfl) (by kernel_rfl) ?_
  repeat (first | go_big_quiet_step (exact Ho.out _ _ _) | quiet_step (exact Ho.out _ _ _))
  refine wpQuiet_nil ?_
  intro w2 hw'
  obtain ⟨⟨dq, osq⟩, hw''⟩ := hw'
  have hw2 : Below (w1.alloc (.cells #[.int .i64 0, .int .i64 0, .bool true] 36)).heap.size (w1.alloc (.cells #[.int .i64 0, .int .i64 0, .bool true] 36)) w2 := by rw [hw'']; exact below_regrown _ _ _
  have F3 := HF2.out.call hw2
  have T3 := HT2.out.below hw2 (by simp)
  have HF3 := hide F3
  clear hw'' hw2 HF2 HT2 e0 e1 e2 e3 e4 e5 e6 e7 e8 e9 e10 e11
  obtain ⟨⟨k0, k1, k2, k3, k4, k5⟩, ⟨g0, g1, g2, -, -, -⟩, ⟨h0, h1, h2, -, -, -⟩, ⟨r0, r1, r2, q0, q1, q2⟩, -, -⟩ := F3
  obtain ⟨t0, t1, t2, -, -, -⟩ := T3
  simp only [farP] at t0 t1 t2
  simp only at g0 g1 g2 h0 h1 h2
  go_wp2_with fail
  refine (Hs.out _).mono ?_
  rintro r w3 ⟨rfl, hw3⟩
  have F4 := HF3.out.call hw3
  have HF4 := hide F4
  clear hw3 HF3 k0 k1 k2 k3 k4 k5 g0 g1 g2 h0 h1 h2 r0 r1 r2 q0 q1 q2 t0 t1 t2
  obtain ⟨⟨k0, k1, k2, k3, k4, k5⟩, ⟨g0, g1, g2, -, -, -⟩, ⟨h0, h1, h2, -, -, -⟩, ⟨r0, r1, r2, q0, q1, q2⟩, -, -⟩ := F4
  simp only at g0 g1 g2 h0 h1 h2
  go_wp2_with fail
  refine (intRest_any _ _ _ (by omega) (by omega) (by omega) (by omega)).mono ?_
  rintro r w' ⟨rfl, hw⟩
  subst hw
  have X0 := Int.emod_nonneg (S * S - x1 - x2) (show (p : Int) ≠ 0 by omega)
  have X1 := Int.emod_lt_of_pos (S * S - x1 - x2) (show (0 : Int) < p by omega)
  generalize (S * S - x1 - x2) % (p : Int) = X at *
  obtain ⟨u0, u1⟩ := abs_mul (T := S) (v := x1 - X) (p := p) (by omega) (by omega) S1 (by omega) (by omega)
  go_wp2_with fail
  refine (intRest_any _ _ _ (by omega) (by omega) (by omega) (by omega)).mono ?_
  rintro r w' ⟨rfl, hw⟩
  subst hw
  generalize (S * (x1 - X) - y1) % (p : Int) = Y at *
  go_wp2
  refine bodyPost_ret (v := .agg #[.int .i64 X, .int .i64 Y, .bool false]) (by simp [results, Tryz.results214, go_sem, r0, r1, r2]) rfl ⟨by rw [HV.out, Hv.out]; rfl, ?_⟩
  exact below_put HF4.out.below (C := w.heap.size + 1 + 1 + 1) (by omega) ⟨X, Y, false⟩

set_option maxHeartbeats 1600000 in
set_option maxRecDepth 100000 in
theorem add_tan (p : Nat) (A B N gx gy x1 y1 x2 y2 : Int) (w : World) (hpr : Prime p) (p5 : 5 ≤ p) (pM : p ≤ 1048576) (A0 : 0 ≤ A) (A1 : A < p) (a0 : 0 ≤ x1) (a1 : x1 < p) (a2 : 0 ≤ y1) (a3 : y1 < p) (b0 : 0 ≤ x2) (b1 : x2 < p) (b2 : 0 ≤ y2) (b3 : y2 < p) (hno : ¬ y1 = (-y2) % (p : Int)) (hs : x1 = x2 → y1 = y2) :
    Calls Tryz.prog 214 #[.agg #[.int .i64 p, .int .i64 A, .int .i64 B, .int .i64 N, .int .i64 gx, .int .i64 gy], .agg #[.int .i64 x1, .int .i64 y1, .bool false], .agg #[.int .i64 x2, .int .i64 y2, .bool false]] w fun r w' => r = .returned (ptV (addF p A ⟨x1, y1, false⟩ ⟨x2, y2, false⟩)) ∧ Below w.heap.size w w' := by
  have hEq := run_eqPt
  have u3 := ptGuard
  have HV : Hid (addF p A ⟨x1, y1, false⟩ ⟨x2, y2, false⟩ = third p x1 y1 x2 (slopeF p A ⟨x1, y1, false⟩ ⟨x2, y2, false⟩)) := addF_fin (fun h => hno ((neg_mod_iff (by omega) a2 a3).2 (Int.dvd_of_emod_eq_zero h.2)))
  have hy' : (y1 == (-y2) % (p : Int)) = false := by simpa using hno
  have Ho : Hid (∀ (W : World) d os, Calls Tryz.prog 215 #[.agg #[.int .i64 p, .int .i64 A, .int .i64 B, .int .i64 N, .int .i64 gx, .int .i64 gy], .agg #[.int .i64 x2, .int .i64 y2, .bool false]] (Sort.grow (redrawn W d) os) fun r w'' => r = .returned (.agg #[.int .i64 x2, .int .i64 ((-y2) % p), .bool false]) ∧ ∃ p : Regrown, w'' = Sort.grow (redrawn W p.d) p.os) := fun W d os => opposite_re p A B N gx gy x2 y2 p5 pM b2 b3 W d os
  obtain ⟨S0, S1⟩ := slopeF_range (show 0 < p by omega) A ⟨x1, y1, false⟩ ⟨x2, y2, false⟩
  have Hs := hide (fun w => slope_any p A B N gx gy x1 y1 x2 y2 w hpr p5 pM A0 A1 a0 a1 a2 a3 b0 b1 b2 b3 hs)
  clear hs hno
  generalize slopeF p A ⟨x1, y1, false⟩ ⟨x2, y2, false⟩ = S at *
  have Hv : Hid (third p x1 y1 x2 S = ⟨(S * S - x1 - x2) % p, (S * (x1 - (S * S - x1 - x2) % p) - y1) % p, false⟩) := rfl
  obtain ⟨m0, m1⟩ := sq_bd (T := S) (p := p) (by omega) (by omega) S1
  generalize hz : (-y2) % (p : Int) = z at *
  clear hz
  go_enter Tryz.func214, Tryz.ntmps214
  go_wp2_with fail
  refine (farPoint_any _).mono ?_
  rintro r w1 ⟨rfl, hw1⟩
  have F1 := (Fr3.box w p A B N gx gy ⟨x1, y1, false⟩ ⟨x2, y2, false⟩ zeroP 35 36 36 36).call hw1
  have F2 := F1.call ((Below.refl _ _).alloc (Nat.le_refl _) (.cells #[.int .i64 0, .int .i64 0, .bool true] 36))
  have T2 := PtAt.alloc w1 farP 36
  have HF2 := hide F2
  have HT2 := hide T2
  clear hw1 F1
  obtain ⟨⟨k0, k1, k2, k3, k4, k5⟩, ⟨g0, g1, g2, -, -, -⟩, ⟨h0, h1, h2, -, -, -⟩, ⟨r0, r1, r2, q0, q1, q2⟩, -, hbig⟩ := F2
  obtain ⟨t0, t1, t2, -, -, -⟩ := T2
  simp only [ptV, farP]
  have e0 := cell_regrown k0
  have e1 := cell_regrown k1
  have e2 := cell_regrown k2
  have e3 := cell_regrown k3
  have e4 := cell_regrown k4
  have e5 := cell_regrown k5
  have e6 := cell_regrown g0
  have e7 := cell_regrown g1
  have e8 := cell_regrown g2
  have e9 := cell_regrown h0
  have e10 := cell_regrown h1
  have e11 := cell_regrown h2
  simp only at e6 e7 e8 e9 e10 e11
  go_wp2
  clear k0 k1 k2 k3 k4 k5 g0 g1 g2 h0 h1 h2 r0 r1 r2 q0 q1 q2 t0 t1 t2
  refine wp_region_quiet_below (by kernel_rfl) (by kernel_rfl) ?_
  repeat (first | go_big_quiet_step (exact Ho.out _ _ _) | quiet_step (exact Ho.out _ _ _))
  refine wpQuiet_nil ?_
  intro w2 hw'
  obtain ⟨⟨dq, osq⟩, hw''⟩ := hw'
  have hw2 : Below (w1.alloc (.cells #[.int .i64 0, .int .i64 0, .bool true] 36)).heap.size (w1.alloc (.cells #[.int .i64 0, .int .i64 0, .bool true] 36)) w2 := by rw [hw'']; exact below_regrown _ _ _
  have F3 := HF2.out.call hw2
  have T3 := HT2.out.below hw2 (by simp)
  have HF3 := hide F3
  clear hw'' hw2 HF2 HT2 e0 e1 e2 e3 e4 e5 e6 e7 e8 e9 e10 e11
  obtain ⟨⟨k0, k1, k2, k3, k4, k5⟩, ⟨g0, g1, g2, -, -, -⟩, ⟨h0, h1, h2, -, -, -⟩, ⟨r0, r1, r2, q0, q1, q2⟩, -, -⟩ := F3
  obtain ⟨t0, t1, t2, -, -, -⟩ := T3
  simp only [farP] at t0 t1 t2
  simp only at g0 g1 g2 h0 h1 h2
  go_wp2_with fail
  refine (Hs.out _).mono ?_
  rintro r w3 ⟨rfl, hw3⟩
  have F4 := HF3.out.call hw3
  have HF4 := hide F4
  clear hw3 HF3 k0 k1 k2 k3 k4 k5 g0 g1 g2 h0 h1 h2 r0 r1 r2 q0 q1 q2 t0 t1 t2
  obtain ⟨⟨k0, k1, k2, k3, k4, k5⟩, ⟨g0, g1, g2, -, -, -⟩, ⟨h0, h1, h2, -, -, -⟩, ⟨r0, r1, r2, q0, q1, q2⟩, -, -⟩ := F4
  simp only at g0 g1 g2 h0 h1 h2
  go_wp2_with fail
  refine (intRest_any _ _ _ (by omega) (by omega) (by omega) (by omega)).mono ?_
  rintro r w' ⟨rfl, hw⟩
  subst hw
  have X0 := Int.emod_nonneg (S * S - x1 - x2) (show (p : Int) ≠ 0 by omega)
  have X1 := Int.emod_lt_of_pos (S * S - x1 - x2) (show (0 : Int) < p by omega)
  generalize (S * S - x1 - x2) % (p : Int) = X at *
  obtain ⟨u0, u1⟩ := abs_mul (T := S) (v := x1 - X) (p := p) (by omega) (by omega) S1 (by omega) (by omega)
  go_wp2_with fail
  refine (intRest_any _ _ _ (by omega) (by omega) (by omega) (by omega)).mono ?_
  rintro r w' ⟨rfl, hw⟩
  subst hw
  generalize (S * (x1 - X) - y1) % (p : Int) = Y at *
  go_wp2
  refine bodyPost_ret (v := .agg #[.int .i64 X, .int .i64 Y, .bool false]) (by simp [results, Tryz.results214, go_sem, r0, r1, r2]) rfl ⟨by rw [HV.out, Hv.out]; rfl, ?_⟩
  exact below_put HF4.out.below (C := w.heap.size + 1 + 1 + 1) (by omega) ⟨X, Y, false⟩

theorem add_any (p : Nat) (A B N gx gy : Int) (a b : Pt) (w : World) (hc : Cv p A B) (pM : p ≤ 1048576) (A0 : 0 ≤ A) (A1 : A < p) (ha : On p A B a) (hb : On p A B b) :
    Calls Tryz.prog 214 #[.agg #[.int .i64 p, .int .i64 A, .int .i64 B, .int .i64 N, .int .i64 gx, .int .i64 gy], .agg #[.int .i64 a.x, .int .i64 a.y, .bool a.far], .agg #[.int .i64 b.x, .int .i64 b.y, .bool b.far]] w fun r w' => r = .returned (ptV (addF p A a b)) ∧ Below w.heap.size w w' := by
  have p5 := hc.five
  have hpr := hc.prime
  obtain ⟨x1, y1, f1⟩ := a
  obtain ⟨x2, y2, f2⟩ := b
  cases f1
  · have ka := ha.aff rfl
    cases f2
    · have kb := hb.aff rfl
      have hs : x1 = x2 → ¬ y1 = (-y2) % (p : Int) → y1 = y2 := by
        intro e hn
        simp only at ka kb
        subst e
        rcases same_or_opp hpr ka kb with h | h
        · exact h
        · exact absurd ((neg_mod_iff (by omega) ka.y0 ka.y1).2 h) hn
      by_cases hx : x1 = x2
      · by_cases hy : y1 = (-y2) % (p : Int)
        · exact add_opp p A B N gx gy x1 y1 x2 y2 w hpr p5 pM A0 A1 ka.x0 ka.x1 ka.y0 ka.y1 kb.x0 kb.x1 kb.y0 kb.y1 hx hy
        · exact add_tan p A B N gx gy x1 y1 x2 y2 w hpr p5 pM A0 A1 ka.x0 ka.x1 ka.y0 ka.y1 kb.x0 kb.x1 kb.y0 kb.y1 hy (fun h => hs h hy)
      · exact add_cho p A B N gx gy x1 y1 x2 y2 w hpr p5 pM A0 A1 ka.x0 ka.x1 ka.y0 ka.y1 kb.x0 kb.x1 kb.y0 kb.y1 hx (fun h => absurd h hx)
    · have e := hb.far_eq rfl
      rw [e]
      exact add_farB p A B N gx gy x1 y1 w hpr p5 pM A0 A1
  · have e := ha.far_eq rfl
    rw [e]
    exact add_farA p A B N gx gy x2 y2 f2 w hpr p5 pM A0 A1

end Go.Proofs.YtdaneanloknkpacGreatDoor
