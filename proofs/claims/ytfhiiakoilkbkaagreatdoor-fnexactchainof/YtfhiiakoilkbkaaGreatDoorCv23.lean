/- Walks: the numbers of a twisted curve of the program; twisted, has. Walks: has of a twisted curve of the program. Walks: add of a twisted curve of the program. Walks: the group of a curve of the program (impl.Pair): known, fold. -/
import Derived.Test.YtfhiiakoilkbkaaGreatDoorCv11
import Derived.Test.YtfhiiakoilkbkaaGreatDoorCv22
import Derived.Laws.EntriesVeiled
namespace Go.Proofs.YtfhiiakoilkbkaaGreatDoor
set_option linter.unusedVariables false
set_option linter.unusedSimpArgs false
section
open Go.RowKit
structure EvNum (P D L : Int) : Prop where
 p13 : 13 ≤ P
 pM : P ≤ 1048576
 p8 : P % 8 = 5
 pp : Prime P.toNat
 d2 : 2 ≤ D
 d1 : D ≤ P - 1
 pw : D.toNat ^ ((P.toNat - 1) / 2) % P.toNat = P.toNat - 1
 l5 : 5 ≤ L
 lM : L ≤ 2097152
 lp : Prime L.toNat
theorem EvOk.num {P D L bx cy : Int} (h : EvOk P D L bx cy) : EvNum P D L := ⟨h.p13, h.pM, h.p8, h.pp, h.d2, h.d1, h.pw, h.l5, h.lM, h.lp⟩
theorem EvNum.edc {P D L : Int} (h : EvNum P D L) : EdC P.toNat D := by
 have h13 := h.p13; have h2 := h.d2; have h8 := h.p8
 obtain ⟨p, rfl⟩ := Int.eq_ofNat_of_zero_le (show 0 ≤ P by omega)
 obtain ⟨d, rfl⟩ := Int.eq_ofNat_of_zero_le (show 0 ≤ D by omega)
 have := h.pw; have hp := h.pp
 simp only [Int.toNat_natCast] at this hp ⊢
 exact edC_of hp (by omega) this
theorem pow_other {p d : Nat} (hp : Prime p) (ho : p % 2 = 1) (h0 : 0 < d) (h1 : d < p) (h3 : 3 ≤ p) : ¬ d ^ ((p - 1) / 2) % p = 1 ↔ d ^ ((p - 1) / 2) % p = p - 1 := by
 have hd : ¬ p ∣ d := fun k => by have := Nat.le_of_dvd h0 k; omega
 rcases hp.euler ho hd with k | k <;> omega
def GivesNumE (P D L : Int) (r : Ending) : Prop := ∃ ok : Bool, r = .returned (.bool ok) ∧ (ok = true ↔ EvNum P D L)
theorem givesNumE_no {P D L : Int} (h : ¬ EvNum P D L) : GivesNumE P D L (.returned (.bool false)) := ⟨false, rfl, ⟨fun k => by simp at k, fun k => absurd k h⟩⟩
set_option maxHeartbeats 1600000 in
theorem numbersOkE_any (P D L bx cy : Int) (w : World) (hP1 : P ≤ 9223372036854775807) (hL1 : L ≤ 9223372036854775807) : Calls Tryz.prog 165 #[.agg #[.int .i64 P, .int .i64 D, .int .i64 L, .int .i64 bx, .int .i64 cy]] w fun r w' => GivesNumE P D L r ∧ Ext w w' := by
 have Hno : Hid (¬ EvNum P D L → GivesNumE P D L (.returned (.bool false))) := givesNumE_no
 by_cases c1 : P < 13
 ·go_enter Tryz.func165, Tryz.ntmps165
  go_wp2
  go_ret
  exact ⟨Hno.out fun k => by have := k.p13; omega, (Below.refl _ _).alloc (Nat.le_refl _) _⟩
 by_cases c3 : P % 8 = 5
 rotate_left
 ·have hb : (P % 8 == 5) = false := by simpa using c3
  have Hc := hide c3
  clear c3
  go_enter Tryz.func165, Tryz.ntmps165
  go_wp2
  go_ret
  exact ⟨Hno.out fun k => Hc.out k.p8, (Below.refl _ _).alloc (Nat.le_refl _) _⟩
 have hb : (P % 8 == 5) = true := by simpa using c3
 have Hc3 := hide c3
 clear c3
 go_enter Tryz.func165, Tryz.ntmps165
 go_wp2_with fail
 clear hb
 refine (primeUpTo_any P 1048576 _ hP1 (by omega)).mono ?_
 rintro r w' ⟨⟨ok, rfl, h9⟩, hw⟩
 subst hw
 cases ok
 ·have Hc : Hid (¬ (P ≤ 1048576 ∧ Prime P.toNat)) := fun k => by simpa using h9.2 ⟨k.1, by omega, k.2⟩
  clear h9
  go_wp2
  go_ret
  exact ⟨Hno.out fun k => Hc.out ⟨k.pM, k.pp⟩, (Below.refl _ _).alloc (Nat.le_refl _) _⟩
 obtain ⟨c2, -, c9⟩ := h9.1 rfl
 have Hc9 := hide c9
 clear h9 c9
 go_wp2_with fail
 refine (orderOk_any L _ hL1).mono ?_
 rintro r w' ⟨⟨ok, rfl, h9⟩, hw⟩
 subst hw
 cases ok
 ·have Hc : Hid (¬ (5 ≤ L ∧ L ≤ 2097152 ∧ Prime L.toNat)) := fun k => by simpa using h9.2 k
  clear h9
  go_wp2
  go_ret
  exact ⟨Hno.out fun k => Hc.out ⟨k.l5, k.lM, k.lp⟩, (Below.refl _ _).alloc (Nat.le_refl _) _⟩
 have HcL := hide (h9.1 rfl)
 clear h9
 by_cases c5 : 2 ≤ D
 rotate_left
 ·have c5' : decide (2 ≤ D) = false := by simpa using c5
  have Hc := hide c5
  go_wp2
  go_ret
  exact ⟨Hno.out fun k => by have := k.d2; have := Hc.out; omega, (Below.refl _ _).alloc (Nat.le_refl _) _⟩
 go_wp2_with fail
 by_cases c6 : D < P
 rotate_left
 ·refine (inField_at D P false (by simp; omega) _).mono ?_
  rintro r w1 ⟨rfl, rfl⟩
  have Hc := hide c6
  clear c6
  go_wp2
  go_ret
  exact ⟨Hno.out fun k => by have := k.d1; have := Hc.out; omega, (Below.refl _ _).alloc (Nat.le_refl _) _⟩
 refine (inField_at D P true (by simp; omega) _).mono ?_
 rintro r w1 ⟨rfl, rfl⟩
 obtain ⟨p, rfl⟩ := Int.eq_ofNat_of_zero_le (show 0 ≤ P by omega)
 obtain ⟨d, rfl⟩ := Int.eq_ofNat_of_zero_le (show 0 ≤ D by omega)
 go_wp2_with fail
 refine (isSquare_any d p _ (by omega) (by omega) (by omega)).mono ?_
 rintro r w' ⟨rfl, hw⟩
 subst hw
 have HF : Hid (∀ v : Bool, v = !(decide (d ^ ((p - 1) / 2) % p = 1)) → GivesNumE p d L (.returned (.bool v))) := fun v e => ⟨v, rfl, by
  subst e
  have hpr := Hc9.out
  have h8 := Hc3.out
  rw [Int.toNat_natCast] at hpr
  have po := pow_other hpr (by omega) (show 0 < d by omega) (by omega) (by omega)
  constructor
  ·intro k
   have k' : ¬ d ^ ((p - 1) / 2) % p = 1 := by simpa using k
   exact ⟨by omega, by omega, h8, Hc9.out, by omega, by omega, by simpa using po.1 k', HcL.out.1, HcL.out.2.1, HcL.out.2.2⟩
  ·intro k
   have := k.pw
   simp only [Int.toNat_natCast] at this
   simpa using po.2 this⟩
 generalize decide (d ^ ((p - 1) / 2) % p = 1) = sq at *
 clear Hc9 HcL Hc3
 go_wp2
 go_ret
 exact ⟨HF.out _ (by simp), (Below.refl _ _).alloc (Nat.le_refl _) _⟩
theorem numPr_yes {P D L : Int} (bx cy : Int) (h : EvNum P D L) (w : World) : Calls Tryz.prog 165 #[.agg #[.int .i64 P, .int .i64 D, .int .i64 L, .int .i64 bx, .int .i64 cy]] w fun r w' => r = .returned (.bool true) ∧ Ext w w' :=
 (numbersOkE_any P D L bx cy w (by have := h.pM; omega) (by have := h.lM; omega)).mono fun r w' k => by
  obtain ⟨⟨ok, rfl, k1⟩, k2⟩ := k
  exact ⟨by rw [k1.2 h], k2⟩
theorem numPr_no {P D L : Int} (bx cy : Int) (hP1 : P ≤ 9223372036854775807) (hL1 : L ≤ 9223372036854775807) (h : ¬ EvNum P D L) (w : World) : Calls Tryz.prog 165 #[.agg #[.int .i64 P, .int .i64 D, .int .i64 L, .int .i64 bx, .int .i64 cy]] w fun r w' => r = .returned (.bool false) ∧ Ext w w' :=
 (numbersOkE_any P D L bx cy w hP1 hL1).mono fun r w' k => by
  obtain ⟨⟨ok, rfl, k1⟩, k2⟩ := k
  cases ok
  ·exact ⟨rfl, k2⟩
  ·exact absurd (k1.1 rfl) h
set_option maxHeartbeats 800000 in
theorem twisted_any (P D L bx cy a b : Int) (w : World) (p2 : 2 ≤ P) (pM : P ≤ 1048576) (d0 : 0 ≤ D) (d1 : D ≤ 1048576) (a0 : 0 ≤ a) (a1 : a < P) (b0 : 0 ≤ b) (b1 : b < P) :
  Calls Tryz.prog 191 #[.agg #[.int .i64 P, .int .i64 D, .int .i64 L, .int .i64 bx, .int .i64 cy], .int .i64 a, .int .i64 b] w fun r w' => r = .returned (.int .i64 (D * a % P * b % P)) ∧ Ext w w' := by
 have pp : 0 < P := by omega
 obtain ⟨s0, s1⟩ := mulBd d0 d1 a0 (show a ≤ 1048576 by omega)
 have u0 := Int.emod_nonneg (D * a) (show P ≠ 0 by omega)
 have u1 := Int.emod_lt_of_pos (D * a) pp
 obtain ⟨q0, q1⟩ := mulBd (x := D * a % P) (y := b) (p := 1048576) (q := 1048576) u0 (by omega) b0 (by omega)
 go_enter Tryz.func191, Tryz.ntmps191
 go_wp2
 go_quiet (fail)
 go_wp2
 go_ret
 exact ⟨rfl, below_drewN ((Below.refl _ _).alloc (Nat.le_refl _) _) _⟩
theorem has_progE {P D x y : Int} (hp : 0 < P) (x0 : 0 ≤ x) (x1 : x ≤ P - 1) (y0 : 0 ≤ y) (y1 : y ≤ P - 1) : (y * y % P - x * x % P - 1 - D * (x * x % P) % P * (y * y % P) % P) % P = 0 ↔ OnE P.toNat D ⟨x, y⟩ := by
 rw [← onE_model hp x0 x1 y0 y1]
 generalize y * y % P = u
 generalize D * (x * x % P) % P = e
 generalize x * x % P = v
 have h1 := mod_dvd P (e * u)
 constructor
 ·intro h
  have h2 := Int.dvd_of_emod_eq_zero h
  exact mod_eq (comb2 h2 h1 1 1 (by grind))
 ·intro h
  have h2 : P ∣ (u - v) - (1 + e * u) := Int.dvd_of_emod_eq_zero (Int.emod_eq_emod_iff_emod_sub_eq_zero.1 h)
  exact Int.emod_eq_zero_of_dvd (comb2 h2 h1 1 (-1) (by grind))
set_option maxHeartbeats 1600000 in
set_option maxRecDepth 100000 in
theorem hasE_in (P D L bx cy x y : Int) (w : World) (p2 : 2 ≤ P) (pM : P ≤ 1048576) (d0 : 0 ≤ D) (d1 : D ≤ 1048576) (x0 : 0 ≤ x) (x1 : x ≤ P - 1) (y0 : 0 ≤ y) (y1 : y ≤ P - 1) :
  Calls Tryz.prog 166 #[.agg #[.int .i64 P, .int .i64 D, .int .i64 L, .int .i64 bx, .int .i64 cy], .agg #[.int .i64 x, .int .i64 y]] w fun r w' => GivesOnE P D ⟨x, y⟩ r ∧ Ext w w' := by
 have pp : 0 < P := by omega
 obtain ⟨a0, a1⟩ := mulBd y0 (show y ≤ 1048576 by omega) y0 (show y ≤ 1048576 by omega)
 obtain ⟨b0, b1⟩ := mulBd x0 (show x ≤ 1048576 by omega) x0 (show x ≤ 1048576 by omega)
 have m0 := Int.emod_nonneg (x * x) (show P ≠ 0 by omega)
 have m1 := Int.emod_lt_of_pos (x * x) pp
 have n0 := Int.emod_nonneg (y * y) (show P ≠ 0 by omega)
 have n1 := Int.emod_lt_of_pos (y * y) pp
 have HP := hide (has_progE (P := P) (D := D) pp x0 x1 y0 y1)
 obtain ⟨T, hT⟩ : ∃ T, D * (x * x % P) % P * (y * y % P) % P = T := ⟨_, rfl⟩
 have t0 : 0 ≤ T := by rw [← hT]; exact Int.emod_nonneg _ (by omega)
 have t1 : T < P := by rw [← hT]; exact Int.emod_lt_of_pos _ pp
 have HT : Hid (∀ (W : World) d os, Calls Tryz.prog 191 #[.agg #[.int .i64 P, .int .i64 D, .int .i64 L, .int .i64 bx, .int .i64 cy], .int .i64 (x * x % P), .int .i64 (y * y % P)] (Sort.grow (redrawn W d) os) fun e w'' => e = .returned (.int .i64 T) ∧ ∃ p : Regrown, w'' = Sort.grow (redrawn W p.d) p.os) := fun W d os => Calls.regrown_of (by have := twisted_any P D L bx cy (x * x % P) (y * y % P) (Sort.grow (redrawn W d) os) p2 pM d0 d1 m0 m1 n0 n1; rw [hT] at this; exact this)
 rw [hT] at HP
 have HR : Hid (∀ (W : World) d os, Calls Tryz.prog 190 #[.int .i64 (y * y % P - x * x % P - 1 - T), .int .i64 P] (Sort.grow (redrawn W d) os) fun e w'' => e = .returned (.int .i64 ((y * y % P - x * x % P - 1 - T) % P)) ∧ ∃ p : Regrown, w'' = Sort.grow (redrawn W p.d) p.os) := fun W d os => Calls.regrown_of ((intRest_any _ _ _ (by omega) (by omega) (by omega) (by omega)).mono fun r w' k => ⟨k.1, k.2 ▸ Below.refl _ _⟩)
 clear hT
 go_enter Tryz.func166, Tryz.ntmps166
 go_wp2_with fail
 refine (inField_at x P true (by simp; omega) _).mono ?_
 rintro r w' ⟨rfl, rfl⟩
 go_wp2_with fail
 refine (inField_at y P true (by simp; omega) _).mono ?_
 rintro r w' ⟨rfl, rfl⟩
 go_wp2
 go_quiet (fail)
 have hVE : Ext ((w.alloc (.cells #[.int .i64 P, .int .i64 D, .int .i64 L, .int .i64 bx, .int .i64 cy] 48)).alloc (.cells #[.int .i64 x, .int .i64 y] 49)) (((w.alloc (.cells #[.int .i64 P, .int .i64 D, .int .i64 L, .int .i64 bx, .int .i64 cy] 48)).alloc (.cells #[.int .i64 x, .int .i64 y] 49)).drewN nq) := below_drewN (Below.refl _ _) _
 obtain ⟨B1, -, hE, hz⟩ := box2 w [.int .i64 P, .int .i64 D, .int .i64 L, .int .i64 bx, .int .i64 cy] [.int .i64 x, .int .i64 y] 48 49 hVE
 clear hVE
 generalize ((w.alloc (.cells #[.int .i64 P, .int .i64 D, .int .i64 L, .int .i64 bx, .int .i64 cy] 48)).alloc (.cells #[.int .i64 x, .int .i64 y] 49)).drewN nq = V at *
 have k0 := cell_regrown (B1 0 _ rfl).1
 have k1 := cell_regrown (B1 1 _ rfl).1
 have k2 := cell_regrown (B1 2 _ rfl).1
 have k3 := cell_regrown (B1 3 _ rfl).1
 have k4 := cell_regrown (B1 4 _ rfl).1
 clear B1
 obtain ⟨u, hu⟩ : ∃ u, y * y % P = u := ⟨_, rfl⟩
 obtain ⟨v, hv⟩ : ∃ v, x * x % P = v := ⟨_, rfl⟩
 simp only [hu, hv] at *
 clear hu hv a0 a1 b0 b1
 go_wp2
 refine wp_region_quiet_below (by kernel_rfl) (by kernel_rfl) ?_
 repeat (first | go_big_quiet_step (first | (go_at_call 191; exact HT.out _ _ _) | (go_at_call 190; exact HR.out _ _ _)) | quiet_step (first | (go_at_call 191; exact HT.out _ _ _) | (go_at_call 190; exact HR.out _ _ _)))
 refine wpQuiet_nil ?_
 intro _ hw'
 obtain ⟨⟨dq, osq⟩, hw''⟩ := hw'
 subst hw''
 go_wp2
 go_ret
 refine ⟨⟨_, rfl, ?_⟩, below_re hE (by omega) _ _⟩
 rw [← HP.out, beq_iff_eq]
set_option maxHeartbeats 800000 in
theorem hasE_any (P D L bx cy x y : Int) (w : World) (p2 : 2 ≤ P) (pM : P ≤ 1048576) (d0 : 0 ≤ D) (d1 : D ≤ 1048576) :
  Calls Tryz.prog 166 #[.agg #[.int .i64 P, .int .i64 D, .int .i64 L, .int .i64 bx, .int .i64 cy], .agg #[.int .i64 x, .int .i64 y]] w fun r w' => GivesOnE P D ⟨x, y⟩ r ∧ Ext w w' := by
 by_cases c1 : 0 ≤ x ∧ x ≤ P - 1
 ·by_cases c2 : 0 ≤ y ∧ y ≤ P - 1
  ·exact hasE_in P D L bx cy x y w p2 pM d0 d1 c1.1 c1.2 c2.1 c2.2
  ·have Hno : Hid (GivesOnE P D ⟨x, y⟩ (.returned (.bool false))) := givesOnE_no (fun h => c2 ⟨h.2.2.1, h.2.2.2⟩) (by omega)
   go_enter Tryz.func166, Tryz.ntmps166
   go_wp2_with fail
   refine (inField_at x P true (by simp; omega) _).mono ?_
   rintro r w' ⟨rfl, rfl⟩
   go_wp2_with fail
   refine (inField_at y P false (by simp; omega) _).mono ?_
   rintro r w' ⟨rfl, rfl⟩
   go_wp2
   go_ret
   exact ⟨Hno.out, ((Below.refl _ _).alloc (Nat.le_refl _) _).alloc (by simp) _⟩
 ·have Hno : Hid (GivesOnE P D ⟨x, y⟩ (.returned (.bool false))) := givesOnE_no (fun h => c1 ⟨h.1, h.2.1⟩) (by omega)
  go_enter Tryz.func166, Tryz.ntmps166
  go_wp2_with fail
  refine (inField_at x P false (by simp; omega) _).mono ?_
  rintro r w' ⟨rfl, rfl⟩
  go_wp2
  go_ret
  exact ⟨Hno.out, ((Below.refl _ _).alloc (Nat.le_refl _) _).alloc (by simp) _⟩
theorem quotient_ext (p : Nat) (a b : Int) (w : World) (hpr : Prime p) (p5 : 5 ≤ p) (pM : p ≤ 1048576) (a0 : -9223372036854775808 ≤ a) (a1 : a ≤ 9223372036854775807) (b0 : -9223372036854775808 ≤ b) (b1 : b ≤ 9223372036854775807) : Calls Tryz.prog 192 #[.int .i64 a, .int .i64 b, .int .i64 p] w fun r w' => r = .returned (.int .i64 (a % p * iv p b % p)) ∧ Ext w w' :=
 quotient_bel p a b w hpr p5 pM a0 a1 b0 b1
set_option maxHeartbeats 1600000 in
set_option maxRecDepth 100000 in
theorem addE_prog (p : Nat) (D L bx cy : Int) (a b : Pr) (w : World) (hpr : Prime p) (p5 : 5 ≤ p) (pM : p ≤ 1048576) (hD0 : 0 ≤ D) (hD : D ≤ 1048576) (ha : InE p a) (hb : InE p b) :
  Calls Tryz.prog 167 #[.agg #[.int .i64 (p : Int), .int .i64 D, .int .i64 L, .int .i64 bx, .int .i64 cy], .agg #[.int .i64 a.x, .int .i64 a.y], .agg #[.int .i64 b.x, .int .i64 b.y]] w fun r w' => r = .returned (.agg #[.int .i64 (addE p D a b).x, .int .i64 (addE p D a b).y]) ∧ Ext w w' := by
 obtain ⟨x1, y1⟩ := a
 obtain ⟨x2, y2⟩ := b
 obtain ⟨a0, a1, a2, a3⟩ := ha
 obtain ⟨b0, b1, b2, b3⟩ := hb
 simp only at a0 a1 a2 a3 b0 b1 b2 b3 ⊢
 have pp : (0 : Int) < p := by omega
 have hM : (p : Int) ≤ 1048576 := by omega
 obtain ⟨m, hm⟩ : ∃ m, m = D * (x1 * x2 % p) % p * (y1 * y2 % p) % p := ⟨_, rfl⟩
 have HV := hide (addE_model p D x1 y1 x2 y2 m hm)
 obtain ⟨q1, q2⟩ := mulBd a0 (show x1 ≤ 1048576 by omega) b0 (show x2 ≤ 1048576 by omega)
 obtain ⟨q3, q4⟩ := mulBd a2 (show y1 ≤ 1048576 by omega) b2 (show y2 ≤ 1048576 by omega)
 obtain ⟨q5, q6⟩ := mulBd a0 (show x1 ≤ 1048576 by omega) b2 (show y2 ≤ 1048576 by omega)
 obtain ⟨q7, q8⟩ := mulBd a2 (show y1 ≤ 1048576 by omega) b0 (show x2 ≤ 1048576 by omega)
 have u0 := Int.emod_nonneg (x1 * x2) (show (p : Int) ≠ 0 by omega)
 have u1 := Int.emod_lt_of_pos (x1 * x2) pp
 have v0 := Int.emod_nonneg (y1 * y2) (show (p : Int) ≠ 0 by omega)
 have v1 := Int.emod_lt_of_pos (y1 * y2) pp
 have m0 : 0 ≤ m := by rw [hm]; exact Int.emod_nonneg _ (by omega)
 have m1 : m < p := by rw [hm]; exact Int.emod_lt_of_pos _ pp
 have HT : Hid (∀ (W : World) d os, Calls Tryz.prog 191 #[.agg #[.int .i64 (p : Int), .int .i64 D, .int .i64 L, .int .i64 bx, .int .i64 cy], .int .i64 (x1 * x2 % p), .int .i64 (y1 * y2 % p)] (Sort.grow (redrawn W d) os) fun e w'' => e = .returned (.int .i64 m) ∧ ∃ p : Regrown, w'' = Sort.grow (redrawn W p.d) p.os) := fun W d os => Calls.regrown_of (by have := twisted_any p D L bx cy (x1 * x2 % p) (y1 * y2 % p) (Sort.grow (redrawn W d) os) (by omega) hM hD0 hD u0 u1 v0 v1; rw [← hm] at this; exact this)
 clear hm
 obtain ⟨A1, hA1⟩ : ∃ A1, 1 + m = A1 := ⟨_, rfl⟩
 obtain ⟨A2, hA2⟩ : ∃ A2, 1 - m = A2 := ⟨_, rfl⟩
 rw [hA1, hA2, ← Int.add_emod] at HV
 obtain ⟨U, hU⟩ : ∃ U, x1 * y2 + y1 * x2 = U := ⟨_, rfl⟩
 obtain ⟨S, hS⟩ : ∃ S, y1 * y2 + x1 * x2 = S := ⟨_, rfl⟩
 rw [hU, hS] at HV
 have HQ1 : Hid (∀ w : World, Calls Tryz.prog 192 #[.int .i64 U, .int .i64 A1, .int .i64 (p : Int)] w fun e w' => e = .returned (.int .i64 (U % p * iv p A1 % p)) ∧ Ext w w') := fun w => quotient_ext p U A1 w hpr p5 pM (by omega) (by omega) (by omega) (by omega)
 have HQ2 : Hid (∀ w : World, Calls Tryz.prog 192 #[.int .i64 S, .int .i64 A2, .int .i64 (p : Int)] w fun e w' => e = .returned (.int .i64 (S % p * iv p A2 % p)) ∧ Ext w w') := fun w => quotient_ext p S A2 w hpr p5 pM (by omega) (by omega) (by omega) (by omega)
 generalize U % (p : Int) * iv p A1 % p = e1 at *
 generalize S % (p : Int) * iv p A2 % p = e2 at *
 have rA : IntKind.i64.wrap (1 + m) = A1 := by rw [IntKind.wrap_i64]; omega
 have rA' : wrap64 (1 + m) = A1 := by unfold wrap64; omega
 have rB : IntKind.i64.wrap (1 - m) = A2 := by rw [IntKind.wrap_i64]; omega
 have rB' : wrap64 (1 - m) = A2 := by unfold wrap64; omega
 have rC : IntKind.i64.wrap (x1 * y2) = x1 * y2 := by rw [IntKind.wrap_i64]; omega
 have rC' : wrap64 (x1 * y2) = x1 * y2 := by unfold wrap64; omega
 have rD : IntKind.i64.wrap (y1 * x2) = y1 * x2 := by rw [IntKind.wrap_i64]; omega
 have rD' : wrap64 (y1 * x2) = y1 * x2 := by unfold wrap64; omega
 have rE : IntKind.i64.wrap (x1 * y2 + y1 * x2) = U := by rw [IntKind.wrap_i64]; omega
 have rE' : wrap64 (x1 * y2 + y1 * x2) = U := by unfold wrap64; omega
 have rF : IntKind.i64.wrap (y1 * y2) = y1 * y2 := by rw [IntKind.wrap_i64]; omega
 have rF' : wrap64 (y1 * y2) = y1 * y2 := by unfold wrap64; omega
 have rG : IntKind.i64.wrap (x1 * x2) = x1 * x2 := by rw [IntKind.wrap_i64]; omega
 have rG' : wrap64 (x1 * x2) = x1 * x2 := by unfold wrap64; omega
 have rH : IntKind.i64.wrap (y1 * y2 + x1 * x2) = S := by rw [IntKind.wrap_i64]; omega
 have rH' : wrap64 (y1 * y2 + x1 * x2) = S := by unfold wrap64; omega
 clear hA1 hA2 hU hS
 have pn : ¬ p = 0 := by omega
 go_enter Tryz.func167, Tryz.ntmps167
 go_wp2
 have B1 := Blk.below (Blk.alloc w [.int .i64 (p : Int), .int .i64 D, .int .i64 L, .int .i64 bx, .int .i64 cy] 48) (w' := ((((w.alloc (.cells #[.int .i64 (p : Int), .int .i64 D, .int .i64 L, .int .i64 bx, .int .i64 cy] 48)).alloc (.cells #[.int .i64 x1, .int .i64 y1] 49)).alloc (.cells #[.int .i64 x2, .int .i64 y2] 49)).alloc (.cells #[.int .i64 0, .int .i64 0] 49))) (S := w.heap.size + 1) (Below.alloc (Below.alloc ((Below.refl _ _).alloc (by simp) _) (by simp) _) (by simp) _) (by omega)
 have B2 := Blk.below (Blk.alloc (w.alloc (.cells #[.int .i64 (p : Int), .int .i64 D, .int .i64 L, .int .i64 bx, .int .i64 cy] 48)) [.int .i64 x1, .int .i64 y1] 49) (w' := ((((w.alloc (.cells #[.int .i64 (p : Int), .int .i64 D, .int .i64 L, .int .i64 bx, .int .i64 cy] 48)).alloc (.cells #[.int .i64 x1, .int .i64 y1] 49)).alloc (.cells #[.int .i64 x2, .int .i64 y2] 49)).alloc (.cells #[.int .i64 0, .int .i64 0] 49))) (S := w.heap.size + 1 + 1) (Below.alloc ((Below.refl _ _).alloc (by simp) _) (by simp) _) (by simp)
 have B3 := Blk.below (Blk.alloc ((w.alloc (.cells #[.int .i64 (p : Int), .int .i64 D, .int .i64 L, .int .i64 bx, .int .i64 cy] 48)).alloc (.cells #[.int .i64 x1, .int .i64 y1] 49)) [.int .i64 x2, .int .i64 y2] 49) (w' := ((((w.alloc (.cells #[.int .i64 (p : Int), .int .i64 D, .int .i64 L, .int .i64 bx, .int .i64 cy] 48)).alloc (.cells #[.int .i64 x1, .int .i64 y1] 49)).alloc (.cells #[.int .i64 x2, .int .i64 y2] 49)).alloc (.cells #[.int .i64 0, .int .i64 0] 49))) (S := w.heap.size + 1 + 1 + 1) ((Below.refl _ _).alloc (by simp) _) (by simp)
 simp only [World.size_alloc] at B2 B3
 have k0 := cell_regrown (B1 0 _ rfl).1
 have k1 := cell_regrown (B1 1 _ rfl).1
 have k2 := cell_regrown (B1 2 _ rfl).1
 have k3 := cell_regrown (B1 3 _ rfl).1
 have k4 := cell_regrown (B1 4 _ rfl).1
 have f0 := cell_regrown (B2 0 _ rfl).1
 have g0 := cell_regrown (B3 0 _ rfl).1
 have f1 := cell_regrown (B2 1 _ rfl).1
 have g1 := cell_regrown (B3 1 _ rfl).1
 clear B1 B2 B3
 refine wp_region_quiet_below (by kernel_rfl) (by kernel_rfl) ?_
 repeat (first | go_big_quiet_step ((go_at_call 191; exact HT.out _ _ _)) | quiet_step ((go_at_call 191; exact HT.out _ _ _)))
 refine wpQuiet_nil ?_
 intro _ hw'
 obtain ⟨⟨dq, osq⟩, hw''⟩ := hw'
 subst hw''
 clear k0 k1 k2 k3 k4 f0 f1 g0 g1
 have hVE := below_regrown ((((w.alloc (.cells #[.int .i64 (p : Int), .int .i64 D, .int .i64 L, .int .i64 bx, .int .i64 cy] 48)).alloc (.cells #[.int .i64 x1, .int .i64 y1] 49)).alloc (.cells #[.int .i64 x2, .int .i64 y2] 49)).alloc (.cells #[.int .i64 0, .int .i64 0] 49)) dq osq
 generalize Sort.grow (redrawn ((((w.alloc (.cells #[.int .i64 (p : Int), .int .i64 D, .int .i64 L, .int .i64 bx, .int .i64 cy] 48)).alloc (.cells #[.int .i64 x1, .int .i64 y1] 49)).alloc (.cells #[.int .i64 x2, .int .i64 y2] 49)).alloc (.cells #[.int .i64 0, .int .i64 0] 49)) dq) osq = w2 at *
 obtain ⟨B1, B2, B3, B4, hE, hz⟩ := box4 w [.int .i64 (p : Int), .int .i64 D, .int .i64 L, .int .i64 bx, .int .i64 cy] [.int .i64 x1, .int .i64 y1] [.int .i64 x2, .int .i64 y2] [.int .i64 0, .int .i64 0] 48 49 49 49 hVE
 clear hVE
 go_wp2
 obtain ⟨X, hX⟩ : ∃ X : Nat → Prop, X = fun k => w.heap.size + 3 ≤ k := ⟨_, rfl⟩
 have x0 : ∀ k, k < w.heap.size + 3 → ¬ X k := fun k h => by rw [hX]; simp; omega
 have xC : X (w.heap.size + 1 + 1 + 1) := by rw [hX]; exact Nat.le_refl _
 clear hX
 have k0 := cell_reC (B1 0 _ rfl).1 (x0 _ (by first | omega | (simp only; omega)))
 have f0 := cell_reC (B2 0 _ rfl).1 (x0 _ (by first | omega | (simp only; omega)))
 have f1 := cell_reC (B2 1 _ rfl).1 (x0 _ (by first | omega | (simp only; omega)))
 have g0 := cell_reC (B3 0 _ rfl).1 (x0 _ (by first | omega | (simp only; omega)))
 have g1 := cell_reC (B3 1 _ rfl).1 (x0 _ (by first | omega | (simp only; omega)))
 clear a0 a1 a2 a3 b0 b1 b2 b3 q1 q2 q3 q4 q5 q6 q7 q8 u0 u1 v0 v1 m0 m1 hpr p5 pM hD0 hD hM B1 B2 B3 HT
 refine anyK_begin X 34 rfl (by kernel_rfl) ?_
 refine anyK_take 0 33 1 rfl (by decide) (by kernel_rfl) (fun _ _ d _ _ h => by cases d <;> exact h) ?_
 repeat (refine headC_step (fun K hK => ?_); go_simp; first | (refine hK _ ?_; clear hK K) | (apply Exists.intro; refine ⟨fun _ => ?_, hK _ ?_⟩; (first | (go_at_call_of 192 (A1); exact Calls.re_of (HQ1.out _)) | (go_at_call_of 192 (A2); exact Calls.re_of (HQ2.out _))); clear hK K))
 refine headC_nil ?_
 clear k0 f0 f1 g0 g1
 refine anyK_one 33 (by kernel_rfl) ?_
 refine stepK_run rfl ?_
 intro w3 h3 K hK
 have BZ := B4.ext h3 (by omega)
 have v0' := (BZ 0 _ rfl).1
 have v1' := (BZ 1 _ rfl).1
 have z0 := (BZ 0 _ rfl).2
 have z1 := (BZ 1 _ rfl).2
 go_simp
 refine hK _ _ (show Grw X w2 (putL (w.heap.size + 1 + 1 + 1) 0 [.int .i64 e1, .int .i64 e2] w3) from Grw.putL xC _ _ _ (.of_ext h3)) ?_
 clear hK K v0' v1' z0 z1
 refine anyK_done (by kernel_rfl) ?_ 0
 intro w4 h4
 replace h4 : Ext (putL (w.heap.size + 1 + 1 + 1) 0 [.int .i64 e1, .int .i64 e2] w3) w4 := h4
 have BW := (BZ.put [.int .i64 e1, .int .i64 e2] rfl).ext h4 (by rw [size_putL]; have := Below.size h3; omega)
 have hF : Ext w w4 := ((hE.trans h3).putL (by omega) [.int .i64 e1, .int .i64 e2]).trans h4
 clear h3 h4 BZ
 have j0 := (BW 0 _ rfl).1
 have j1 := (BW 1 _ rfl).1
 go_wp2
 refine bodyPost_ret (v := .agg #[.int .i64 e1, .int .i64 e2]) (by simp [results, Tryz.results167, go_sem, j0, j1]) rfl ⟨by rw [HV.out], hF⟩
theorem EvNum.nat {P D L : Int} (h : EvNum P D L) : ((P.toNat : Nat) : Int) = P := by have := h.p13; omega
theorem hasPr_at {P D L : Int} (bx cy : Int) (h : EvNum P D L) (a : Pr) (ok : Bool) (hk : ok = true ↔ OnE P.toNat D a) (w : World) : Calls Tryz.prog 166 #[.agg #[.int .i64 P, .int .i64 D, .int .i64 L, .int .i64 bx, .int .i64 cy], .agg #[.int .i64 a.x, .int .i64 a.y]] w fun r w' => r = .returned (.bool ok) ∧ Ext w w' :=
 (hasE_any P D L bx cy a.x a.y w (by have := h.p13; omega) h.pM (by have := h.d2; omega) (by have := h.d1; have := h.pM; omega)).mono fun r w' k => by
  obtain ⟨⟨b, rfl, hb⟩, hw⟩ := k
  exact ⟨by rw [show b = ok by rw [Bool.eq_iff_iff, hb, hk]], hw⟩
theorem hasPr_yes {P D L : Int} (bx cy : Int) (h : EvNum P D L) {a : Pr} (ha : OnE P.toNat D a) (w : World) : Calls Tryz.prog 166 #[.agg #[.int .i64 P, .int .i64 D, .int .i64 L, .int .i64 bx, .int .i64 cy], .agg #[.int .i64 a.x, .int .i64 a.y]] w fun r w' => r = .returned (.bool true) ∧ Ext w w' := hasPr_at bx cy h a true ⟨fun _ => ha, fun _ => rfl⟩ w
theorem hasPr_no {P D L : Int} (bx cy : Int) (h : EvNum P D L) {a : Pr} (ha : ¬ OnE P.toNat D a) (w : World) : Calls Tryz.prog 166 #[.agg #[.int .i64 P, .int .i64 D, .int .i64 L, .int .i64 bx, .int .i64 cy], .agg #[.int .i64 a.x, .int .i64 a.y]] w fun r w' => r = .returned (.bool false) ∧ Ext w w' := hasPr_at bx cy h a false ⟨fun k => by simp at k, fun k => absurd k ha⟩ w
theorem addPr_at {P D L : Int} (bx cy : Int) (h : EvNum P D L) {a b : Pr} (ha : OnE P.toNat D a) (hb : OnE P.toNat D b) (w : World) : Calls Tryz.prog 167 #[.agg #[.int .i64 P, .int .i64 D, .int .i64 L, .int .i64 bx, .int .i64 cy], .agg #[.int .i64 a.x, .int .i64 a.y], .agg #[.int .i64 b.x, .int .i64 b.y]] w fun r w' => r = .returned (.agg #[.int .i64 (addE P.toNat D a b).x, .int .i64 (addE P.toNat D a b).y]) ∧ Ext w w' := by
 have h13 := h.p13; have hM := h.pM; have h2 := h.d2; have h1 := h.d1
 have := addE_prog P.toNat D L bx cy a b w h.pp (by omega) (by omega) (by omega) (by omega) ha.inE hb.inE
 rwa [h.nat] at this
theorem EvNum.addPr_on {P D L : Int} (h : EvNum P D L) {a b : Pr} (ha : OnE P.toNat D a) (hb : OnE P.toNat D b) : OnE P.toNat D (addE P.toNat D a b) := addE_on h.edc ha hb
theorem EvNum.unitPr_on {P D L : Int} (h : EvNum P D L) : OnE P.toNat D oneE := one_on h.edc
set_option maxHeartbeats 800000 in
theorem knownPr_yes {P D L : Int} (bx cy : Int) (h : EvNum P D L) {a : Pr} (ha : OnE P.toNat D a) (w : World) :
  Calls Tryz.prog 140 #[.agg #[.int .i64 0, .int .i64 1, .int .i64 bx, .int .i64 cy, .func (.func 166) #[.agg #[.int .i64 P, .int .i64 D, .int .i64 L, .int .i64 bx, .int .i64 cy]] #[], .func (.func 167) #[.agg #[.int .i64 P, .int .i64 D, .int .i64 L, .int .i64 bx, .int .i64 cy]] #[], .func (.func 168) #[.agg #[.int .i64 P, .int .i64 D, .int .i64 L, .int .i64 bx, .int .i64 cy]] #[], .func (.func 169) #[.agg #[.int .i64 P, .int .i64 D, .int .i64 L, .int .i64 bx, .int .i64 cy]] #[], .func (.func 170) #[] #[]], .agg #[.int .i64 a.x, .int .i64 a.y]] w fun e w' => e = .returned (.agg #[.int .i64 a.x, .int .i64 a.y]) ∧ Ext w w' := by
 have HH := hide (hasPr_yes bx cy h ha)
 clear ha h
 go_enter Tryz.func140, Tryz.ntmps140
 go_wp2_with fail
 refine (HH.out _).mono ?_
 rintro r w1 ⟨rfl, hw1⟩
 obtain ⟨B1, B2, B3, hE, hz⟩ := box3 w [.int .i64 0, .int .i64 1, .int .i64 bx, .int .i64 cy, .func (.func 166) #[.agg #[.int .i64 P, .int .i64 D, .int .i64 L, .int .i64 bx, .int .i64 cy]] #[], .func (.func 167) #[.agg #[.int .i64 P, .int .i64 D, .int .i64 L, .int .i64 bx, .int .i64 cy]] #[], .func (.func 168) #[.agg #[.int .i64 P, .int .i64 D, .int .i64 L, .int .i64 bx, .int .i64 cy]] #[], .func (.func 169) #[.agg #[.int .i64 P, .int .i64 D, .int .i64 L, .int .i64 bx, .int .i64 cy]] #[], .func (.func 170) #[] #[]] [.int .i64 a.x, .int .i64 a.y] [.int .i64 0, .int .i64 0] 158 49 49 hw1
 clear hw1
 have c0 := (B2 0 _ rfl).1
 have c1 := (B2 1 _ rfl).1
 have d0 := (B3 0 _ rfl).1
 have d1 := (B3 1 _ rfl).1
 have z0 := (B3 0 _ rfl).2
 have z1 := (B3 1 _ rfl).2
 go_wp2_with fail
 refine (want_yes _).mono ?_
 rintro r w2 ⟨rfl, rfl⟩
 go_wp2
 obtain ⟨W, hW⟩ : ∃ W, putL (w.heap.size + 1 + 1) 0 [.int .i64 a.x, .int .i64 a.y] w2 = W := ⟨_, rfl⟩
 have BW := Blk.put B3 [.int .i64 a.x, .int .i64 a.y] rfl
 rw [hW] at BW
 have hF : Ext w W := hW ▸ hE.putL (by omega) _
 simp only [putL, Nat.zero_add] at hW
 simp only [hW]
 have q0 := (BW 0 _ rfl).1
 have q1 := (BW 1 _ rfl).1
 refine bodyPost_ret (v := .agg #[.int .i64 a.x, .int .i64 a.y]) (by simp [results, Tryz.results140, go_sem, q0, q1]) rfl ⟨rfl, hF⟩
set_option maxHeartbeats 800000 in
theorem knownPr_no {P D L : Int} (bx cy : Int) (h : EvNum P D L) {a : Pr} (ha : ¬ OnE P.toNat D a) (w : World) :
  Calls Tryz.prog 140 #[.agg #[.int .i64 0, .int .i64 1, .int .i64 bx, .int .i64 cy, .func (.func 166) #[.agg #[.int .i64 P, .int .i64 D, .int .i64 L, .int .i64 bx, .int .i64 cy]] #[], .func (.func 167) #[.agg #[.int .i64 P, .int .i64 D, .int .i64 L, .int .i64 bx, .int .i64 cy]] #[], .func (.func 168) #[.agg #[.int .i64 P, .int .i64 D, .int .i64 L, .int .i64 bx, .int .i64 cy]] #[], .func (.func 169) #[.agg #[.int .i64 P, .int .i64 D, .int .i64 L, .int .i64 bx, .int .i64 cy]] #[], .func (.func 170) #[] #[]], .agg #[.int .i64 a.x, .int .i64 a.y]] w fun e w' => e = .panicked [nrE] ∧ Ext w w' := by
 have HH := hide (hasPr_no bx cy h ha)
 clear ha h
 go_enter Tryz.func140, Tryz.ntmps140
 go_wp2_with fail
 refine (HH.out _).mono ?_
 rintro r w1 ⟨rfl, hw1⟩
 obtain ⟨B1, B2, B3, hE, hz⟩ := box3 w [.int .i64 0, .int .i64 1, .int .i64 bx, .int .i64 cy, .func (.func 166) #[.agg #[.int .i64 P, .int .i64 D, .int .i64 L, .int .i64 bx, .int .i64 cy]] #[], .func (.func 167) #[.agg #[.int .i64 P, .int .i64 D, .int .i64 L, .int .i64 bx, .int .i64 cy]] #[], .func (.func 168) #[.agg #[.int .i64 P, .int .i64 D, .int .i64 L, .int .i64 bx, .int .i64 cy]] #[], .func (.func 169) #[.agg #[.int .i64 P, .int .i64 D, .int .i64 L, .int .i64 bx, .int .i64 cy]] #[], .func (.func 170) #[] #[]] [.int .i64 a.x, .int .i64 a.y] [.int .i64 0, .int .i64 0] 158 49 49 hw1
 clear hw1
 have c0 := (B2 0 _ rfl).1
 have c1 := (B2 1 _ rfl).1
 have d0 := (B3 0 _ rfl).1
 have d1 := (B3 1 _ rfl).1
 have z0 := (B3 0 _ rfl).2
 have z1 := (B3 1 _ rfl).2
 go_wp2_with fail
 refine (want_no _).mono ?_
 rintro r w2 ⟨rfl, rfl⟩
 first | exact ⟨rfl, rfl, hE⟩ | (go_wp2; exact ⟨rfl, rfl, hE⟩)
end
end Go.Proofs.YtfhiiakoilkbkaaGreatDoor
