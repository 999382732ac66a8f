/- Walks: curves of the program: slope, add. -/
import Derived.Test.YtdaneanloknkpacGreatDoorCurveJ
namespace Go.Proofs.YtdaneanloknkpacGreatDoor
set_option linter.unusedVariables false
open Go.RowKit

/-- Points compared. -/
theorem run_eqPt (x1 y1 x2 y2 : Int) (f1 f2 : Bool) (w : World) : (binOp .eql 36 (.agg #[.int .i64 x1, .int .i64 y1, .bool f1]) (.agg #[.int .i64 x2, .int .i64 y2, .bool f2])).run Tryz.prog w = .ok (.bool (x1 == x2 && (y1 == y2 && f1 == f2))) w := by
  have u2 := ptHeld
  cases hx : (x1 == x2)
  · simp [go_sem, u2, hx]
  · cases hy : (y1 == y2)
    · simp [go_sem, u2, hx, hy]
    · cases hf : (f1 == f2)
      · simp [go_sem, u2, hx, hy, hf]
      · simp [go_sem, u2, hx, hy, hf]




theorem slopeF_tan {p : Nat} {A x y : Int} {f f' : Bool} : (3 * x * x + A) % p * iv p (2 * y) % p = slopeF p A ⟨x, y, f⟩ ⟨x, y, f'⟩ := by
  unfold slopeF
  simp only [if_pos]
  rw [Int.mul_emod, Int.emod_emod, ← Int.mul_emod]

theorem slopeF_cho {p : Nat} {A x1 y1 x2 y2 : Int} {f f' : Bool} (h : x1 ≠ x2) : (y2 - y1) % p * iv p (x2 - x1) % p = slopeF p A ⟨x1, y1, f⟩ ⟨x2, y2, f'⟩ := by
  unfold slopeF
  simp only [if_neg h]
  rw [Int.mul_emod, Int.emod_emod, ← Int.mul_emod]

theorem quotient_bel (p : Nat) (a b : Int) (w : World) (hpr : Prime p) (p5 : 5 ≤ p) (pM : p ≤ 1048576) (a0 : -9223372036854775808 ≤ a) (a1 : a ≤ 9223372036854775807) (b0 : -9223372036854775808 ≤ b) (b1 : b ≤ 9223372036854775807) : Calls Tryz.prog 225 #[.int .i64 a, .int .i64 b, .int .i64 p] w fun r w' => r = .returned (.int .i64 (a % p * iv p b % p)) ∧ Below w.heap.size w w' :=
  (quotient_any p a b w hpr p5 pM a0 a1 b0 b1).mono fun _ _ h => ⟨h.1, h.2 ▸ Below.refl _ _⟩

set_option maxHeartbeats 800000 in
theorem slope_any (p : Nat) (A B N gx gy x1 y1 x2 y2 : Int) (w : World) (hpr : Prime p) (p5 : 5 ≤ p) (pM : p ≤ 1048576) (A0 : 0 ≤ A) (A1 : A < p) (a0 : 0 ≤ x1) (a1 : x1 < p) (a2 : 0 ≤ y1) (a3 : y1 < p) (b0 : 0 ≤ x2) (b1 : x2 < p) (b2 : 0 ≤ y2) (b3 : y2 < p) (hs : x1 = x2 → y1 = y2) :
    Calls Tryz.prog 263 #[.agg #[.int .i64 p, .int .i64 A, .int .i64 B, .int .i64 N, .int .i64 gx, .int .i64 gy], .agg #[.int .i64 x1, .int .i64 y1, .bool false], .agg #[.int .i64 x2, .int .i64 y2, .bool false]] w fun r w' => r = .returned (.int .i64 (slopeF p A ⟨x1, y1, false⟩ ⟨x2, y2, false⟩)) ∧ Below w.heap.size w w' := by
  have hEq := run_eqPt
  have u3 := ptGuard
  by_cases hx : x1 = x2
  · obtain rfl := hs hx
    subst hx
    have HV := hide (slopeF_tan (p := p) (A := A) (x := x1) (y := y1) (f := false) (f' := false))
    obtain ⟨m0, m1⟩ := mulBd (x := 3 * x1) (y := x1) (p := 3145728) (q := 1048576) (by omega) (by omega) a0 (by omega)
    go_enter Tryz.func263, Tryz.ntmps263
    go_wp2_with fail
    refine (quotient_bel p _ _ _ hpr p5 pM (by omega) (by omega) (by omega) (by omega)).mono ?_
    rintro r w1 ⟨rfl, hw1⟩
    rw [HV.out]
    go_wp2
    go_ret
    refine ⟨rfl, Below.trans ?_ (hw1.mono (by simp <;> omega))⟩
    repeat (first | exact Below.refl _ _ | refine Below.alloc ?_ (by simp <;> omega) _)
  · have hx' : (x1 == x2) = false := by simpa using hx
    have HV := hide (slopeF_cho (p := p) (A := A) (x1 := x1) (y1 := y1) (x2 := x2) (y2 := y2) (f := false) (f' := false) hx)
    clear hx hs
    go_enter Tryz.func263, Tryz.ntmps263
    go_wp2_with fail
    refine (quotient_bel p _ _ _ hpr p5 pM (by omega) (by omega) (by omega) (by omega)).mono ?_
    rintro r w1 ⟨rfl, hw1⟩
    rw [HV.out]
    go_wp2
    go_ret
    refine ⟨rfl, Below.trans ?_ (hw1.mono (by simp <;> omega))⟩
    repeat (first | exact Below.refl _ _ | refine Below.alloc ?_ (by simp <;> omega) _)

theorem neg_mod_iff {p : Nat} {y1 y2 : Int} (hp : 0 < p) (a2 : 0 ≤ y1) (a3 : y1 < p) : y1 = (-y2) % p ↔ (p : Int) ∣ y1 + y2 := by
  have h := neg_dvd p y2
  constructor
  · intro e; rw [e]; exact h
  · intro hd
    refine eq_of_dvd a2 a3 (Int.emod_nonneg _ (by omega)) (Int.emod_lt_of_pos _ (by omega)) ?_
    generalize (-y2) % (p : Int) = z at *
    exact comb2 hd h 1 (-1) (by grind)

theorem slopeF_range {p : Nat} (hp : 0 < p) (A : Int) (a b : Pt) : 0 ≤ slopeF p A a b ∧ slopeF p A a b < p := ⟨Int.emod_nonneg _ (by omega), Int.emod_lt_of_pos _ (by omega)⟩

theorem opposite_re (p : Nat) (A B N gx gy : Int) (x y : Int) (p5 : 5 ≤ p) (pM : p ≤ 1048576) (y0 : 0 ≤ y) (y1 : y < p) (W : World) (d : Nat) (os : Array Obj) : Calls Tryz.prog 215 #[.agg #[.int .i64 p, .int .i64 A, .int .i64 B, .int .i64 N, .int .i64 gx, .int .i64 gy], .agg #[.int .i64 x, .int .i64 y, .bool false]] (Sort.grow (redrawn W d) os) fun r w'' => r = .returned (.agg #[.int .i64 x, .int .i64 ((-y) % p), .bool false]) ∧ ∃ p : Regrown, w'' = Sort.grow (redrawn W p.d) p.os :=
  Calls.regrown_of (opposite_any p A B N gx gy ⟨x, y, false⟩ _ p5 pM y0 y1)

set_option maxHeartbeats 1600000 in
set_option maxRecDepth 100000 in
theorem add_farA (p : Nat) (A B N gx gy x2 y2 : Int) (f2 : Bool) (w : World) (hpr : Prime p) (p5 : 5 ≤ p) (pM : p ≤ 1048576) (A0 : 0 ≤ A) (A1 : A < p) :
    Calls Tryz.prog 214 #[.agg #[.int .i64 p, .int .i64 A, .int .i64 B, .int .i64 N, .int .i64 gx, .int .i64 gy], .agg #[.int .i64 0, .int .i64 0, .bool true], .agg #[.int .i64 x2, .int .i64 y2, .bool f2]] w fun r w' => r = .returned (ptV (addF p A farP ⟨x2, y2, f2⟩)) ∧ Below w.heap.size w w' := by
  have hEq := run_eqPt
  have u3 := ptGuard
  go_enter Tryz.func214, Tryz.ntmps214
  go_wp2_with fail
  refine (farPoint_any _).mono ?_
  rintro r w1 ⟨rfl, hw1⟩
  have F1 := (Fr3.box w p A B N gx gy farP ⟨x2, y2, f2⟩ zeroP 35 36 36 36).call hw1
  have F2 := F1.call ((Below.refl _ _).alloc (Nat.le_refl _) (.cells #[.int .i64 0, .int .i64 0, .bool true] 36))
  have T2 := PtAt.alloc w1 farP 36
  have HF2 := hide F2
  have HT2 := hide T2
  clear hw1 F1
  obtain ⟨⟨k0, k1, k2, k3, k4, k5⟩, ⟨a0, a1, a2, -, -, -⟩, ⟨b0, b1, b2, -, -, -⟩, ⟨r0, r1, r2, q0, q1, q2⟩, -, hbig⟩ := F2
  obtain ⟨t0, t1, t2, -, -, -⟩ := T2
  simp only [ptV, farP]
  go_wp2
  refine bodyPost_ret (v := .agg #[.int .i64 x2, .int .i64 y2, .bool f2]) (by simp [results, Tryz.results214, go_sem, r0, r1, r2]) rfl ⟨rfl, ?_⟩
  exact below_put HF2.out.below (C := w.heap.size + 1 + 1 + 1) (by omega) ⟨x2, y2, f2⟩

set_option maxHeartbeats 1600000 in
set_option maxRecDepth 100000 in
theorem add_farB (p : Nat) (A B N gx gy x1 y1 : Int) (w : World) (hpr : Prime p) (p5 : 5 ≤ p) (pM : p ≤ 1048576) (A0 : 0 ≤ A) (A1 : A < p) :
    Calls Tryz.prog 214 #[.agg #[.int .i64 p, .int .i64 A, .int .i64 B, .int .i64 N, .int .i64 gx, .int .i64 gy], .agg #[.int .i64 x1, .int .i64 y1, .bool false], .agg #[.int .i64 0, .int .i64 0, .bool true]] w fun r w' => r = .returned (ptV (addF p A ⟨x1, y1, false⟩ farP)) ∧ Below w.heap.size w w' := by
  have hEq := run_eqPt
  have u3 := ptGuard
  go_enter Tryz.func214, Tryz.ntmps214
  go_wp2_with fail
  refine (farPoint_any _).mono ?_
  rintro r w1 ⟨rfl, hw1⟩
  have F1 := (Fr3.box w p A B N gx gy ⟨x1, y1, false⟩ farP zeroP 35 36 36 36).call hw1
  have F2 := F1.call ((Below.refl _ _).alloc (Nat.le_refl _) (.cells #[.int .i64 0, .int .i64 0, .bool true] 36))
  have T2 := PtAt.alloc w1 farP 36
  have HF2 := hide F2
  have HT2 := hide T2
  clear hw1 F1
  obtain ⟨⟨k0, k1, k2, k3, k4, k5⟩, ⟨a0, a1, a2, -, -, -⟩, ⟨b0, b1, b2, -, -, -⟩, ⟨r0, r1, r2, q0, q1, q2⟩, -, hbig⟩ := F2
  obtain ⟨t0, t1, t2, -, -, -⟩ := T2
  simp only [ptV, farP]
  go_wp2
  refine bodyPost_ret (v := .agg #[.int .i64 x1, .int .i64 y1, .bool false]) (by simp [results, Tryz.results214, go_sem, r0, r1, r2]) rfl ⟨rfl, ?_⟩
  exact below_put HF2.out.below (C := w.heap.size + 1 + 1 + 1) (by omega) ⟨x1, y1, false⟩

set_option maxHeartbeats 1600000 in
set_option maxRecDepth 100000 in
theorem add_opp (p : Nat) (A B N gx gy x1 y1 x2 y2 : Int) (w : World) (hpr : Prime p) (p5 : 5 ≤ p) (pM : p ≤ 1048576) (A0 : 0 ≤ A) (A1 : A < p) (a0 : 0 ≤ x1) (a1 : x1 < p) (a2 : 0 ≤ y1) (a3 : y1 < p) (b0 : 0 ≤ x2) (b1 : x2 < p) (b2 : 0 ≤ y2) (b3 : y2 < p) (hx : x1 = x2) (hy : y1 = (-y2) % p) :
    Calls Tryz.prog 214 #[.agg #[.int .i64 p, .int .i64 A, .int .i64 B, .int .i64 N, .int .i64 gx, .int .i64 gy], .agg #[.int .i64 x1, .int .i64 y1, .bool false], .agg #[.int .i64 x2, .int .i64 y2, .bool false]] w fun r w' => r = .returned (ptV (addF p A ⟨x1, y1, false⟩ ⟨x2, y2, false⟩)) ∧ Below w.heap.size w w' := by
  have hEq := run_eqPt
  have u3 := ptGuard
  have HV : Hid (addF p A ⟨x1, y1, false⟩ ⟨x2, y2, false⟩ = farP) := addF_opp rfl rfl ⟨hx, (neg_mod_iff (by omega) a2 a3).1 hy⟩
  have hx' : (x1 == x2) = true := by simpa using hx
  have hy' : (y1 == (-y2) % (p : Int)) = true := by simpa using hy
  have Ho : Hid (∀ (W : World) d os, Calls Tryz.prog 215 #[.agg #[.int .i64 p, .int .i64 A, .int .i64 B, .int .i64 N, .int .i64 gx, .int .i64 gy], .agg #[.int .i64 x2, .int .i64 y2, .bool false]] (Sort.grow (redrawn W d) os) fun r w'' => r = .returned (.agg #[.int .i64 x2, .int .i64 ((-y2) % p), .bool false]) ∧ ∃ p : Regrown, w'' = Sort.grow (redrawn W p.d) p.os) := fun W d os => opposite_re p A B N gx gy x2 y2 p5 pM b2 b3 W d os
  clear hx hy
  generalize (-y2) % (p : Int) = z at *
  go_enter Tryz.func214, Tryz.ntmps214
  go_wp2_with fail
  refine (farPoint_any _).mono ?_
  rintro r w1 ⟨rfl, hw1⟩
  have F1 := (Fr3.box w p A B N gx gy ⟨x1, y1, false⟩ ⟨x2, y2, false⟩ zeroP 35 36 36 36).call hw1
  have F2 := F1.call ((Below.refl _ _).alloc (Nat.le_refl _) (.cells #[.int .i64 0, .int .i64 0, .bool true] 36))
  have T2 := PtAt.alloc w1 farP 36
  have HF2 := hide F2
  have HT2 := hide T2
  clear hw1 F1
  obtain ⟨⟨k0, k1, k2, k3, k4, k5⟩, ⟨g0, g1, g2, -, -, -⟩, ⟨h0, h1, h2, -, -, -⟩, ⟨r0, r1, r2, q0, q1, q2⟩, -, hbig⟩ := F2
  obtain ⟨t0, t1, t2, -, -, -⟩ := T2
  simp only [ptV, farP]
  have e0 := cell_regrown k0
  have e1 := cell_regrown k1
  have e2 := cell_regrown k2
  have e3 := cell_regrown k3
  have e4 := cell_regrown k4
  have e5 := cell_regrown k5
  have e6 := cell_regrown g0
  have e7 := cell_regrown g1
  have e8 := cell_regrown g2
  have e9 := cell_regrown h0
  have e10 := cell_regrown h1
  have e11 := cell_regrown h2
  simp only at e6 e7 e8 e9 e10 e11
  go_wp2
  clear k0 k1 k2 k3 k4 k5 g0 g1 g2 h0 h1 h2 r0 r1 r2 q0 q1 q2 t0 t1 t2
  refine wp_region_quiet_below (by kernel_rfl) (by kernel_rfl) ?_
  repeat (first | go_big_quiet_step (exact Ho.out _ _ _) | quiet_step (exact Ho.out _ _ _))
  refine wpQuiet_nil ?_
  intro w2 hw'
  obtain ⟨⟨dq, osq⟩, hw''⟩ := hw'
  have hw2 : Below (w1.alloc (.cells #[.int .i64 0, .int .i64 0, .bool true] 36)).heap.size (w1.alloc (.cells #[.int .i64 0, .int .i64 0, .bool true] 36)) w2 := by rw [hw'']; exact below_regrown _ _ _
  have F3 := HF2.out.call hw2
  have T3 := HT2.out.below hw2 (by simp)
  have HF3 := hide F3
  clear hw'' hw2 HF2 HT2 e0 e1 e2 e3 e4 e5 e6 e7 e8 e9 e10 e11
  obtain ⟨⟨k0, k1, k2, k3, k4, k5⟩, ⟨g0, g1, g2, -, -, -⟩, ⟨h0, h1, h2, -, -, -⟩, ⟨r0, r1, r2, q0, q1, q2⟩, -, -⟩ := F3
  obtain ⟨t0, t1, t2, -, -, -⟩ := T3
  simp only [farP] at t0 t1 t2
  simp only at g0 g1 g2 h0 h1 h2
  go_wp2
  refine bodyPost_ret (v := .agg #[.int .i64 0, .int .i64 0, .bool true]) (by simp [results, Tryz.results214, go_sem, r0, r1, r2]) rfl ⟨by rw [HV.out]; rfl, ?_⟩
  exact below_put HF3.out.below (C := w.heap.size + 1 + 1 + 1) (by omega) farP

end Go.Proofs.YtdaneanloknkpacGreatDoor
