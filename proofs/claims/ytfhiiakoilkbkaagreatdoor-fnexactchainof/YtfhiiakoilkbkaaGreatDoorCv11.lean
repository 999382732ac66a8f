/- Walks: curves of the program: add. Walks: the numbers of a curve of the program. Walks: the face of the program: want, what recovers, answered. -/
import Derived.Test.YtfhiiakoilkbkaaGreatDoorCv10
import Derived.Defers
import Derived.Recover
import Derived.WalkLawsBesides
namespace Go.Proofs.YtfhiiakoilkbkaaGreatDoor
set_option linter.unusedVariables false
set_option linter.unusedSimpArgs false
section
open Go.RowKit
set_option maxHeartbeats 1600000 in
set_option maxRecDepth 100000 in
theorem add_cho (p : Nat) (A B N gx gy x1 y1 x2 y2 : Int) (w : World) (hpr : Prime p) (p5 : 5 ≤ p) (pM : p ≤ 1048576) (A0 : 0 ≤ A) (A1 : A < p) (a0 : 0 ≤ x1) (a1 : x1 < p) (a2 : 0 ≤ y1) (a3 : y1 < p) (b0 : 0 ≤ x2) (b1 : x2 < p) (b2 : 0 ≤ y2) (b3 : y2 < p) (hno : x1 ≠ x2) (hs : x1 = x2 → y1 = y2) :
  Calls Tryz.prog 180 #[.agg #[.int .i64 p, .int .i64 A, .int .i64 B, .int .i64 N, .int .i64 gx, .int .i64 gy], .agg #[.int .i64 x1, .int .i64 y1, .bool false], .agg #[.int .i64 x2, .int .i64 y2, .bool false]] w fun r w' => r = .returned (ptV (addF p A ⟨x1, y1, false⟩ ⟨x2, y2, false⟩)) ∧ Below w.heap.size w w' := by
 have hEq := run_eqPt
 have u3 := ptGuard
 have HV : Hid (addF p A ⟨x1, y1, false⟩ ⟨x2, y2, false⟩ = third p x1 y1 x2 (slopeF p A ⟨x1, y1, false⟩ ⟨x2, y2, false⟩)) := addF_fin (fun h => hno h.1)
 have hx' : (x1 == x2) = false := by simpa using hno
 have Ho : Hid (∀ (W : World) d os, Calls Tryz.prog 181 #[.agg #[.int .i64 p, .int .i64 A, .int .i64 B, .int .i64 N, .int .i64 gx, .int .i64 gy], .agg #[.int .i64 x2, .int .i64 y2, .bool false]] (Sort.grow (redrawn W d) os) fun r w'' => r = .returned (.agg #[.int .i64 x2, .int .i64 ((-y2) % p), .bool false]) ∧ ∃ p : Regrown, w'' = Sort.grow (redrawn W p.d) p.os) := fun W d os => opposite_re p A B N gx gy x2 y2 p5 pM b2 b3 W d os
 obtain ⟨S0, S1⟩ := slopeF_range (show 0 < p by omega) A ⟨x1, y1, false⟩ ⟨x2, y2, false⟩
 have Hs := hide (fun w => slope_any p A B N gx gy x1 y1 x2 y2 w hpr p5 pM A0 A1 a0 a1 a2 a3 b0 b1 b2 b3 hs)
 clear hs hno
 generalize slopeF p A ⟨x1, y1, false⟩ ⟨x2, y2, false⟩ = S at *
 have Hv : Hid (third p x1 y1 x2 S = ⟨(S * S - x1 - x2) % p, (S * (x1 - (S * S - x1 - x2) % p) - y1) % p, false⟩) := rfl
 obtain ⟨m0, m1⟩ := sq_bd (T := S) (p := p) (by omega) (by omega) S1
 generalize hz : (-y2) % (p : Int) = z at *
 clear hz
 go_enter Tryz.func180, Tryz.ntmps180
 go_wp2_with fail
 refine (farPoint_any _).mono ?_
 rintro r w1 ⟨rfl, hw1⟩
 have F1 := (Fr3.box w p A B N gx gy ⟨x1, y1, false⟩ ⟨x2, y2, false⟩ zeroP 46 47 47 47).call hw1
 have F2 := F1.call ((Below.refl _ _).alloc (Nat.le_refl _) (.cells #[.int .i64 0, .int .i64 0, .bool true] 47))
 have T2 := PtAt.alloc w1 farP 47
 have HF2 := hide F2
 have HT2 := hide T2
 clear hw1 F1
 obtain ⟨⟨k0, k1, k2, k3, k4, k5⟩, ⟨g0, g1, g2, -, -, -⟩, ⟨h0, h1, h2, -, -, -⟩, ⟨r0, r1, r2, q0, q1, q2⟩, -, hbig⟩ := F2
 obtain ⟨t0, t1, t2, -, -, -⟩ := T2
 simp only [ptV, farP]
 have e0 := cell_regrown k0
 have e1 := cell_regrown k1
 have e2 := cell_regrown k2
 have e3 := cell_regrown k3
 have e4 := cell_regrown k4
 have e5 := cell_regrown k5
 have e6 := cell_regrown g0
 have e7 := cell_regrown g1
 have e8 := cell_regrown g2
 have e9 := cell_regrown h0
 have e10 := cell_regrown h1
 have e11 := cell_regrown h2
 simp only at e6 e7 e8 e9 e10 e11
 go_wp2
 clear k0 k1 k2 k3 k4 k5 g0 g1 g2 h0 h1 h2 r0 r1 r2 q0 q1 q2 t0 t1 t2
 refine wp_region_quiet_below (by kernel_rfl) (by kernel_rfl) ?_
 repeat (first | go_big_quiet_step (exact Ho.out _ _ _) | quiet_step (exact Ho.out _ _ _))
 refine wpQuiet_nil ?_
 intro w2 hw'
 obtain ⟨⟨dq, osq⟩, hw''⟩ := hw'
 have hw2 : Below (w1.alloc (.cells #[.int .i64 0, .int .i64 0, .bool true] 47)).heap.size (w1.alloc (.cells #[.int .i64 0, .int .i64 0, .bool true] 47)) w2 := by rw [hw'']; exact below_regrown _ _ _
 have F3 := HF2.out.call hw2
 have T3 := HT2.out.below hw2 (by simp)
 have HF3 := hide F3
 clear hw'' hw2 HF2 HT2 e0 e1 e2 e3 e4 e5 e6 e7 e8 e9 e10 e11
 obtain ⟨⟨k0, k1, k2, k3, k4, k5⟩, ⟨g0, g1, g2, -, -, -⟩, ⟨h0, h1, h2, -, -, -⟩, ⟨r0, r1, r2, q0, q1, q2⟩, -, -⟩ := F3
 obtain ⟨t0, t1, t2, -, -, -⟩ := T3
 simp only [farP] at t0 t1 t2
 simp only at g0 g1 g2 h0 h1 h2
 go_wp2_with fail
 refine (Hs.out _).mono ?_
 rintro r w3 ⟨rfl, hw3⟩
 have F4 := HF3.out.call hw3
 have HF4 := hide F4
 clear hw3 HF3 k0 k1 k2 k3 k4 k5 g0 g1 g2 h0 h1 h2 r0 r1 r2 q0 q1 q2 t0 t1 t2
 obtain ⟨⟨k0, k1, k2, k3, k4, k5⟩, ⟨g0, g1, g2, -, -, -⟩, ⟨h0, h1, h2, -, -, -⟩, ⟨r0, r1, r2, q0, q1, q2⟩, -, -⟩ := F4
 simp only at g0 g1 g2 h0 h1 h2
 go_wp2_with fail
 refine (intRest_any _ _ _ (by omega) (by omega) (by omega) (by omega)).mono ?_
 rintro r w' ⟨rfl, hw⟩
 subst hw
 have X0 := Int.emod_nonneg (S * S - x1 - x2) (show (p : Int) ≠ 0 by omega)
 have X1 := Int.emod_lt_of_pos (S * S - x1 - x2) (show (0 : Int) < p by omega)
 generalize (S * S - x1 - x2) % (p : Int) = X at *
 obtain ⟨u0, u1⟩ := abs_mul (T := S) (v := x1 - X) (p := p) (by omega) (by omega) S1 (by omega) (by omega)
 go_wp2_with fail
 refine (intRest_any _ _ _ (by omega) (by omega) (by omega) (by omega)).mono ?_
 rintro r w' ⟨rfl, hw⟩
 subst hw
 generalize (S * (x1 - X) - y1) % (p : Int) = Y at *
 go_wp2
 refine bodyPost_ret (v := .agg #[.int .i64 X, .int .i64 Y, .bool false]) (by simp [results, Tryz.results180, go_sem, r0, r1, r2]) rfl ⟨by rw [HV.out, Hv.out]; rfl, ?_⟩
 exact below_put HF4.out.below (C := w.heap.size + 1 + 1 + 1) (by omega) ⟨X, Y, false⟩
set_option maxHeartbeats 1600000 in
set_option maxRecDepth 100000 in
theorem add_tan (p : Nat) (A B N gx gy x1 y1 x2 y2 : Int) (w : World) (hpr : Prime p) (p5 : 5 ≤ p) (pM : p ≤ 1048576) (A0 : 0 ≤ A) (A1 : A < p) (a0 : 0 ≤ x1) (a1 : x1 < p) (a2 : 0 ≤ y1) (a3 : y1 < p) (b0 : 0 ≤ x2) (b1 : x2 < p) (b2 : 0 ≤ y2) (b3 : y2 < p) (hno : ¬ y1 = (-y2) % (p : Int)) (hs : x1 = x2 → y1 = y2) :
  Calls Tryz.prog 180 #[.agg #[.int .i64 p, .int .i64 A, .int .i64 B, .int .i64 N, .int .i64 gx, .int .i64 gy], .agg #[.int .i64 x1, .int .i64 y1, .bool false], .agg #[.int .i64 x2, .int .i64 y2, .bool false]] w fun r w' => r = .returned (ptV (addF p A ⟨x1, y1, false⟩ ⟨x2, y2, false⟩)) ∧ Below w.heap.size w w' := by
 have hEq := run_eqPt
 have u3 := ptGuard
 have HV : Hid (addF p A ⟨x1, y1, false⟩ ⟨x2, y2, false⟩ = third p x1 y1 x2 (slopeF p A ⟨x1, y1, false⟩ ⟨x2, y2, false⟩)) := addF_fin (fun h => hno ((neg_mod_iff (by omega) a2 a3).2 (Int.dvd_of_emod_eq_zero h.2)))
 have hy' : (y1 == (-y2) % (p : Int)) = false := by simpa using hno
 have Ho : Hid (∀ (W : World) d os, Calls Tryz.prog 181 #[.agg #[.int .i64 p, .int .i64 A, .int .i64 B, .int .i64 N, .int .i64 gx, .int .i64 gy], .agg #[.int .i64 x2, .int .i64 y2, .bool false]] (Sort.grow (redrawn W d) os) fun r w'' => r = .returned (.agg #[.int .i64 x2, .int .i64 ((-y2) % p), .bool false]) ∧ ∃ p : Regrown, w'' = Sort.grow (redrawn W p.d) p.os) := fun W d os => opposite_re p A B N gx gy x2 y2 p5 pM b2 b3 W d os
 obtain ⟨S0, S1⟩ := slopeF_range (show 0 < p by omega) A ⟨x1, y1, false⟩ ⟨x2, y2, false⟩
 have Hs := hide (fun w => slope_any p A B N gx gy x1 y1 x2 y2 w hpr p5 pM A0 A1 a0 a1 a2 a3 b0 b1 b2 b3 hs)
 clear hs hno
 generalize slopeF p A ⟨x1, y1, false⟩ ⟨x2, y2, false⟩ = S at *
 have Hv : Hid (third p x1 y1 x2 S = ⟨(S * S - x1 - x2) % p, (S * (x1 - (S * S - x1 - x2) % p) - y1) % p, false⟩) := rfl
 obtain ⟨m0, m1⟩ := sq_bd (T := S) (p := p) (by omega) (by omega) S1
 generalize hz : (-y2) % (p : Int) = z at *
 clear hz
 go_enter Tryz.func180, Tryz.ntmps180
 go_wp2_with fail
 refine (farPoint_any _).mono ?_
 rintro r w1 ⟨rfl, hw1⟩
 have F1 := (Fr3.box w p A B N gx gy ⟨x1, y1, false⟩ ⟨x2, y2, false⟩ zeroP 46 47 47 47).call hw1
 have F2 := F1.call ((Below.refl _ _).alloc (Nat.le_refl _) (.cells #[.int .i64 0, .int .i64 0, .bool true] 47))
 have T2 := PtAt.alloc w1 farP 47
 have HF2 := hide F2
 have HT2 := hide T2
 clear hw1 F1
 obtain ⟨⟨k0, k1, k2, k3, k4, k5⟩, ⟨g0, g1, g2, -, -, -⟩, ⟨h0, h1, h2, -, -, -⟩, ⟨r0, r1, r2, q0, q1, q2⟩, -, hbig⟩ := F2
 obtain ⟨t0, t1, t2, -, -, -⟩ := T2
 simp only [ptV, farP]
 have e0 := cell_regrown k0
 have e1 := cell_regrown k1
 have e2 := cell_regrown k2
 have e3 := cell_regrown k3
 have e4 := cell_regrown k4
 have e5 := cell_regrown k5
 have e6 := cell_regrown g0
 have e7 := cell_regrown g1
 have e8 := cell_regrown g2
 have e9 := cell_regrown h0
 have e10 := cell_regrown h1
 have e11 := cell_regrown h2
 simp only at e6 e7 e8 e9 e10 e11
 go_wp2
 clear k0 k1 k2 k3 k4 k5 g0 g1 g2 h0 h1 h2 r0 r1 r2 q0 q1 q2 t0 t1 t2
 refine wp_region_quiet_below (by kernel_rfl) (by kernel_rfl) ?_
 repeat (first | go_big_quiet_step (exact Ho.out _ _ _) | quiet_step (exact Ho.out _ _ _))
 refine wpQuiet_nil ?_
 intro w2 hw'
 obtain ⟨⟨dq, osq⟩, hw''⟩ := hw'
 have hw2 : Below (w1.alloc (.cells #[.int .i64 0, .int .i64 0, .bool true] 47)).heap.size (w1.alloc (.cells #[.int .i64 0, .int .i64 0, .bool true] 47)) w2 := by rw [hw'']; exact below_regrown _ _ _
 have F3 := HF2.out.call hw2
 have T3 := HT2.out.below hw2 (by simp)
 have HF3 := hide F3
 clear hw'' hw2 HF2 HT2 e0 e1 e2 e3 e4 e5 e6 e7 e8 e9 e10 e11
 obtain ⟨⟨k0, k1, k2, k3, k4, k5⟩, ⟨g0, g1, g2, -, -, -⟩, ⟨h0, h1, h2, -, -, -⟩, ⟨r0, r1, r2, q0, q1, q2⟩, -, -⟩ := F3
 obtain ⟨t0, t1, t2, -, -, -⟩ := T3
 simp only [farP] at t0 t1 t2
 simp only at g0 g1 g2 h0 h1 h2
 go_wp2_with fail
 refine (Hs.out _).mono ?_
 rintro r w3 ⟨rfl, hw3⟩
 have F4 := HF3.out.call hw3
 have HF4 := hide F4
 clear hw3 HF3 k0 k1 k2 k3 k4 k5 g0 g1 g2 h0 h1 h2 r0 r1 r2 q0 q1 q2 t0 t1 t2
 obtain ⟨⟨k0, k1, k2, k3, k4, k5⟩, ⟨g0, g1, g2, -, -, -⟩, ⟨h0, h1, h2, -, -, -⟩, ⟨r0, r1, r2, q0, q1, q2⟩, -, -⟩ := F4
 simp only at g0 g1 g2 h0 h1 h2
 go_wp2_with fail
 refine (intRest_any _ _ _ (by omega) (by omega) (by omega) (by omega)).mono ?_
 rintro r w' ⟨rfl, hw⟩
 subst hw
 have X0 := Int.emod_nonneg (S * S - x1 - x2) (show (p : Int) ≠ 0 by omega)
 have X1 := Int.emod_lt_of_pos (S * S - x1 - x2) (show (0 : Int) < p by omega)
 generalize (S * S - x1 - x2) % (p : Int) = X at *
 obtain ⟨u0, u1⟩ := abs_mul (T := S) (v := x1 - X) (p := p) (by omega) (by omega) S1 (by omega) (by omega)
 go_wp2_with fail
 refine (intRest_any _ _ _ (by omega) (by omega) (by omega) (by omega)).mono ?_
 rintro r w' ⟨rfl, hw⟩
 subst hw
 generalize (S * (x1 - X) - y1) % (p : Int) = Y at *
 go_wp2
 refine bodyPost_ret (v := .agg #[.int .i64 X, .int .i64 Y, .bool false]) (by simp [results, Tryz.results180, go_sem, r0, r1, r2]) rfl ⟨by rw [HV.out, Hv.out]; rfl, ?_⟩
 exact below_put HF4.out.below (C := w.heap.size + 1 + 1 + 1) (by omega) ⟨X, Y, false⟩
theorem add_any (p : Nat) (A B N gx gy : Int) (a b : Pt) (w : World) (hc : Cv p A B) (pM : p ≤ 1048576) (A0 : 0 ≤ A) (A1 : A < p) (ha : On p A B a) (hb : On p A B b) :
  Calls Tryz.prog 180 #[.agg #[.int .i64 p, .int .i64 A, .int .i64 B, .int .i64 N, .int .i64 gx, .int .i64 gy], .agg #[.int .i64 a.x, .int .i64 a.y, .bool a.far], .agg #[.int .i64 b.x, .int .i64 b.y, .bool b.far]] w fun r w' => r = .returned (ptV (addF p A a b)) ∧ Below w.heap.size w w' := by
 have p5 := hc.five
 have hpr := hc.prime
 obtain ⟨x1, y1, f1⟩ := a
 obtain ⟨x2, y2, f2⟩ := b
 cases f1
 ·have ka := ha.aff rfl
  cases f2
  ·have kb := hb.aff rfl
   have hs : x1 = x2 → ¬ y1 = (-y2) % (p : Int) → y1 = y2 := by
    intro e hn
    simp only at ka kb
    subst e
    rcases same_or_opp hpr ka kb with h | h
    ·exact h
    ·exact absurd ((neg_mod_iff (by omega) ka.y0 ka.y1).2 h) hn
   by_cases hx : x1 = x2
   ·by_cases hy : y1 = (-y2) % (p : Int)
    ·exact add_opp p A B N gx gy x1 y1 x2 y2 w hpr p5 pM A0 A1 ka.x0 ka.x1 ka.y0 ka.y1 kb.x0 kb.x1 kb.y0 kb.y1 hx hy
    ·exact add_tan p A B N gx gy x1 y1 x2 y2 w hpr p5 pM A0 A1 ka.x0 ka.x1 ka.y0 ka.y1 kb.x0 kb.x1 kb.y0 kb.y1 hy (fun h => hs h hy)
   ·exact add_cho p A B N gx gy x1 y1 x2 y2 w hpr p5 pM A0 A1 ka.x0 ka.x1 ka.y0 ka.y1 kb.x0 kb.x1 kb.y0 kb.y1 hx (fun h => absurd h hx)
  ·have e := hb.far_eq rfl
   rw [e]
   exact add_farB p A B N gx gy x1 y1 w hpr p5 pM A0 A1
 ·have e := ha.far_eq rfl
  rw [e]
  exact add_farA p A B N gx gy x2 y2 f2 w hpr p5 pM A0 A1
structure CvNum (P A B N : Int) : Prop where
 p5 : 5 ≤ P
 pM : P ≤ 1048576
 p4 : P % 4 = 3
 pp : Prime P.toNat
 a0 : 0 ≤ A
 a1 : A < P
 b0 : 0 ≤ B
 b1 : B < P
 n5 : 5 ≤ N
 nM : N ≤ 2097152
 np : Prime N.toNat
 disc : ¬ P ∣ 4 * (A * A * A) + 27 * (B * B)
theorem CvOk.num {P A B N gx gy : Int} (h : CvOk P A B N gx gy) : CvNum P A B N := ⟨h.p5, h.pM, h.p4, h.pp, h.a0, h.a1, h.b0, h.b1, h.n5, h.nM, h.np, h.disc⟩
theorem CvNum.cv {P A B N : Int} (h : CvNum P A B N) : Cv P.toNat A B :=
 ⟨h.pp, by have := h.p5; omega, by rw [show ((P.toNat : Nat) : Int) = P by have := h.p5; omega]; exact h.disc⟩
def GivesNum (P A B N : Int) (r : Ending) : Prop := ∃ ok : Bool, r = .returned (.bool ok) ∧ (ok = true ↔ CvNum P A B N)
theorem givesNum_no {P A B N : Int} (h : ¬ CvNum P A B N) : GivesNum P A B N (.returned (.bool false)) := ⟨false, rfl, ⟨fun k => by simp at k, fun k => absurd k h⟩⟩
theorem inField_at (n P : Int) (ok : Bool) (h : (decide (0 ≤ n) && decide (n < P)) = ok) (w : World) : Calls Tryz.prog 188 #[.int .i64 n, .int .i64 P] w fun r w' => r = .returned (.bool ok) ∧ w' = w :=
 (inField_any n P w).mono fun _ _ k => ⟨by rw [k.1, h], k.2⟩
def GivesIff (Q : Prop) (r : Ending) : Prop := ∃ ok : Bool, r = .returned (.bool ok) ∧ (ok = true ↔ Q)
theorem primeUpTo_any (p lim : Int) (w : World) (hp : p ≤ 9223372036854775807) (hl : lim ≤ 1099511627776) : Calls Tryz.prog 186 #[.int .i64 p, .int .i64 lim] w fun r w' => GivesIff (p ≤ lim ∧ 2 ≤ p ∧ Prime p.toNat) r ∧ w' = w := by
 by_cases c : p ≤ lim
 ·go_enter Tryz.func186, Tryz.ntmps186
  go_wp2_with fail
  refine (implPrimeInt_any p _ hp).mono ?_
  rintro r w' ⟨⟨ok, rfl, h⟩, hw⟩
  subst hw
  have H : Hid (∀ v : Bool, v = ok → (v = true ↔ p ≤ lim ∧ 2 ≤ p ∧ Prime p.toNat)) := fun v e => by
   rw [e, h]
   exact ⟨fun k => ⟨c, k.1, k.2.2⟩, fun k => ⟨k.2.1, by omega, k.2.2⟩⟩
  clear h
  go_wp2
  go_ret
  exact ⟨⟨_, rfl, H.out _ (by simp)⟩, rfl⟩
 ·have H : Hid (false = true ↔ p ≤ lim ∧ 2 ≤ p ∧ Prime p.toNat) := ⟨fun k => by simp at k, fun k => absurd k.1 c⟩
  go_enter Tryz.func186, Tryz.ntmps186
  go_wp2
  go_ret
  exact ⟨⟨_, rfl, H.out⟩, rfl⟩
theorem orderOk_any (n : Int) (w : World) (hp : n ≤ 9223372036854775807) : Calls Tryz.prog 187 #[.int .i64 n] w fun r w' => GivesIff (5 ≤ n ∧ n ≤ 2097152 ∧ Prime n.toNat) r ∧ w' = w := by
 by_cases c : 5 ≤ n
 ·go_enter Tryz.func187, Tryz.ntmps187
  go_wp2_with fail
  refine (primeUpTo_any n 2097152 _ hp (by omega)).mono ?_
  rintro r w' ⟨⟨ok, rfl, h⟩, hw⟩
  subst hw
  have H : Hid (∀ v : Bool, v = ok → (v = true ↔ 5 ≤ n ∧ n ≤ 2097152 ∧ Prime n.toNat)) := fun v e => by
   rw [e, h]
   exact ⟨fun k => ⟨c, k.1, k.2.2⟩, fun k => ⟨k.2.1, by omega, k.2.2⟩⟩
  clear h
  go_wp2
  go_ret
  exact ⟨⟨_, rfl, H.out _ (by simp)⟩, rfl⟩
 ·have H : Hid (false = true ↔ 5 ≤ n ∧ n ≤ 2097152 ∧ Prime n.toNat) := ⟨fun k => by simp at k, fun k => absurd k.1 c⟩
  go_enter Tryz.func187, Tryz.ntmps187
  go_wp2
  go_ret
  exact ⟨⟨_, rfl, H.out⟩, rfl⟩
set_option maxHeartbeats 1600000 in
theorem numbersOk_any (P A B N gx gy : Int) (w : World) (hP1 : P ≤ 9223372036854775807) (hN1 : N ≤ 9223372036854775807) : Calls Tryz.prog 177 #[.agg #[.int .i64 P, .int .i64 A, .int .i64 B, .int .i64 N, .int .i64 gx, .int .i64 gy]] w fun r w' => GivesNum P A B N r ∧ Below w.heap.size w w' := by
 have Hno : Hid (¬ CvNum P A B N → GivesNum P A B N (.returned (.bool false))) := givesNum_no
 by_cases c1 : P < 5
 ·go_enter Tryz.func177, Tryz.ntmps177
  go_wp2
  go_ret
  exact ⟨Hno.out fun k => by have := k.p5; omega, (Below.refl _ _).alloc (Nat.le_refl _) _⟩
 by_cases c3 : P % 4 = 3
 rotate_left
 ·have hb : (P % 4 == 3) = false := by simpa using c3
  have Hc := hide c3
  clear c3
  go_enter Tryz.func177, Tryz.ntmps177
  go_wp2
  go_ret
  exact ⟨Hno.out fun k => Hc.out k.p4, (Below.refl _ _).alloc (Nat.le_refl _) _⟩
 have hb : (P % 4 == 3) = true := by simpa using c3
 have Hc3 := hide c3
 clear c3
 go_enter Tryz.func177, Tryz.ntmps177
 go_wp2_with fail
 clear hb
 refine (primeUpTo_any P 1048576 _ hP1 (by omega)).mono ?_
 rintro r w' ⟨⟨ok, rfl, h9⟩, hw⟩
 subst hw
 cases ok
 ·have Hc : Hid (¬ (P ≤ 1048576 ∧ Prime P.toNat)) := fun k => by simpa using h9.2 ⟨k.1, by omega, k.2⟩
  clear h9
  go_wp2
  go_ret
  exact ⟨Hno.out fun k => Hc.out ⟨k.pM, k.pp⟩, (Below.refl _ _).alloc (Nat.le_refl _) _⟩
 obtain ⟨c2, -, c9⟩ := h9.1 rfl
 have Hc9 := hide c9
 clear h9 c9
 go_wp2_with fail
 refine (orderOk_any N _ hN1).mono ?_
 rintro r w' ⟨⟨ok, rfl, h9⟩, hw⟩
 subst hw
 cases ok
 ·have Hc : Hid (¬ (5 ≤ N ∧ N ≤ 2097152 ∧ Prime N.toNat)) := fun k => by simpa using h9.2 k
  clear h9
  go_wp2
  go_ret
  exact ⟨Hno.out fun k => Hc.out ⟨k.n5, k.nM, k.np⟩, (Below.refl _ _).alloc (Nat.le_refl _) _⟩
 have HcN := hide (h9.1 rfl)
 clear h9
 go_wp2_with fail
 by_cases c6 : 0 ≤ A ∧ A < P
 rotate_left
 ·refine (inField_at A P false (by simp; omega) _).mono ?_
  rintro r w1 ⟨rfl, rfl⟩
  have Hc := hide c6
  clear c6
  go_wp2
  go_ret
  exact ⟨Hno.out fun k => Hc.out ⟨k.a0, k.a1⟩, (Below.refl _ _).alloc (Nat.le_refl _) _⟩
 refine (inField_at A P true (by simp; omega) _).mono ?_
 rintro r w1 ⟨rfl, rfl⟩
 obtain ⟨a0, a1⟩ := c6
 go_wp2_with fail
 by_cases c7 : 0 ≤ B ∧ B < P
 rotate_left
 ·refine (inField_at B P false (by simp; omega) _).mono ?_
  rintro r w2 ⟨rfl, rfl⟩
  have Hc := hide c7
  clear c7
  go_wp2
  go_ret
  exact ⟨Hno.out fun k => Hc.out ⟨k.b0, k.b1⟩, (Below.refl _ _).alloc (Nat.le_refl _) _⟩
 refine (inField_at B P true (by simp; omega) _).mono ?_
 rintro r w2 ⟨rfl, rfl⟩
 obtain ⟨b0, b1⟩ := c7
 go_wp2_with fail
 refine (flat_any P A B N gx gy _ (by omega) (by omega) a0 a1 b0 b1).mono ?_
 rintro r w3 ⟨⟨ok, rfl, h8⟩, hw3⟩
 have Hw3 : Hid (Below w.heap.size w w3) := ((Below.refl _ _).alloc (Nat.le_refl _) _).trans (hw3.mono (by simp))
 have HF : Hid (∀ v : Bool, v = !ok → GivesNum P A B N (.returned (.bool v))) := fun v e => ⟨v, rfl, by
  subst e
  constructor
  ·intro k
   refine ⟨by omega, by omega, Hc3.out, Hc9.out, a0, a1, b0, b1, HcN.out.1, HcN.out.2.1, HcN.out.2.2, fun h => ?_⟩
   rw [h8.2 h] at k
   simp at k
  ·intro k
   cases ok
   ·rfl
   ·exact absurd (h8.1 rfl) k.disc⟩
 clear h8 hw3
 go_wp2
 go_ret
 exact ⟨HF.out _ (by simp), Hw3.out⟩
theorem has_at (P A B N gx gy : Int) (a : Pt) (h : CvNum P A B N) (ok : Bool) (hk : ok = true ↔ On P.toNat A B a) (w : World) : Calls Tryz.prog 179 #[.agg #[.int .i64 P, .int .i64 A, .int .i64 B, .int .i64 N, .int .i64 gx, .int .i64 gy], .agg #[.int .i64 a.x, .int .i64 a.y, .bool a.far]] w fun r w' => r = .returned (.bool ok) ∧ Below w.heap.size w w' := by
 refine (has_any P A B N gx gy a w h.p5 h.pM h.a0 h.a1 h.b0 h.b1).mono ?_
 rintro r w' ⟨⟨k, rfl, hk'⟩, hw⟩
 refine ⟨?_, hw⟩
 have : k = ok := by rw [Bool.eq_iff_iff, hk', hk]
 rw [this]
theorem add_at (P A B N gx gy : Int) (a b : Pt) (h : CvNum P A B N) (ha : On P.toNat A B a) (hb : On P.toNat A B b) (w : World) : Calls Tryz.prog 180 #[.agg #[.int .i64 P, .int .i64 A, .int .i64 B, .int .i64 N, .int .i64 gx, .int .i64 gy], .agg #[.int .i64 a.x, .int .i64 a.y, .bool a.far], .agg #[.int .i64 b.x, .int .i64 b.y, .bool b.far]] w fun r w' => r = .returned (ptV (addF P.toNat A a b)) ∧ Below w.heap.size w w' := by
 have e : ((P.toNat : Nat) : Int) = P := by have := h.p5; omega
 have h5 := h.p5; have hM := h.pM; have h0 := h.a0; have h1 := h.a1
 have := add_any P.toNat A B N gx gy a b w h.cv (by omega) h0 (by omega) ha hb
 rwa [e] at this
def nrE : PanicEntry := { v := .iface 180 (.agg #[]), recovered := false }
theorem want_yes (w : World) : Calls Tryz.prog 164 #[.bool true] w fun e w' => e = .returned (.tuple #[]) ∧ w' = w := by
 have hnot : ∀ (x : Bool) (w : World), (Op.unary .not (.bool x)).run Tryz.prog w = .ok (.bool (!x)) w := fun _ _ => rfl
 go_enter Tryz.func164, Tryz.ntmps164
 go_wp2
 go_end0
 exact ⟨rfl, rfl⟩
theorem want_no (w : World) : Calls Tryz.prog 164 #[.bool false] w fun e w' => e = .panicked [nrE] ∧ w' = w := by
 go_enter Tryz.func164, Tryz.ntmps164
 go_wp2
 exact ⟨rfl, rfl, rfl⟩
end
end Go.Proofs.YtfhiiakoilkbkaaGreatDoor
