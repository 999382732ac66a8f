/- Walks: the numbers of a twisted curve of the program; twisted, has. Walks: has of a twisted curve of the program. Walks: add of a twisted curve of the program. Walks: the group of a curve of the program (impl.Pair): known, fold. Walks: the group of a curve of the program (impl.Pair): fold. Walks: the group of a curve of the program (impl.Pair): fold that panics, generated. Walks: the group of a curve of the program (impl.Pair): generated that panics, group, sum. -/
import Derived.Test.YtdaneanloknkpacGreatDoorCurQ
import Derived.Test.YtdaneanloknkpacGreatDoorEdB
import Derived.Test.YtdaneanloknkpacGreatDoorRoot2
import Derived.Test.YtdaneanloknkpacGreatDoorBlk
import Derived.Test.YtdaneanloknkpacGreatDoorEdU
import Derived.Test.YtdaneanloknkpacGreatDoorEdVY
import Derived.Test.YtdaneanloknkpacGreatDoorFace
import Derived.Laws.EntriesVeiled
import Derived.Test.YtdaneanloknkpacGreatDoorNumAll
namespace Go.Proofs.YtdaneanloknkpacGreatDoor
set_option linter.unusedVariables false
open Go.RowKit

/-- A twisted curve's numbers are as the document wants them. -/
structure EvNum (P D L : Int) : Prop where
  p13 : 13 ≤ P
  pM : P ≤ 1048576
  p8 : P % 8 = 5
  pp : Prime P.toNat
  d2 : 2 ≤ D
  d1 : D ≤ P - 1
  pw : D.toNat ^ ((P.toNat - 1) / 2) % P.toNat = P.toNat - 1
  l5 : 5 ≤ L
  lM : L ≤ 2097152
  lp : Prime L.toNat

theorem EvOk.num {P D L bx cy : Int} (h : EvOk P D L bx cy) : EvNum P D L := ⟨h.p13, h.pM, h.p8, h.pp, h.d2, h.d1, h.pw, h.l5, h.lM, h.lp⟩

theorem EvNum.edc {P D L : Int} (h : EvNum P D L) : EdC P.toNat D := by
  have h13 := h.p13; have h2 := h.d2; have h8 := h.p8
  obtain ⟨p, rfl⟩ := Int.eq_ofNat_of_zero_le (show 0 ≤ P by omega)
  obtain ⟨d, rfl⟩ := Int.eq_ofNat_of_zero_le (show 0 ≤ D by omega)
  have := h.pw; have hp := h.pp
  simp only [Int.toNat_natCast] at this hp ⊢
  exact edC_of hp (by omega) this

theorem pow_other {p d : Nat} (hp : Prime p) (ho : p % 2 = 1) (h0 : 0 < d) (h1 : d < p) (h3 : 3 ≤ p) : ¬ d ^ ((p - 1) / 2) % p = 1 ↔ d ^ ((p - 1) / 2) % p = p - 1 := by
  have hd : ¬ p ∣ d := fun k => by have := Nat.le_of_dvd h0 k; omega
  rcases hp.euler ho hd with k | k <;> omega

def GivesNumE (P D L : Int) (r : Ending) : Prop := ∃ ok : Bool, r = .returned (.bool ok) ∧ (ok = true ↔ EvNum P D L)

theorem givesNumE_no {P D L : Int} (h : ¬ EvNum P D L) : GivesNumE P D L (.returned (.bool false)) := ⟨false, rfl, ⟨fun k => by simp at k, fun k => absurd k h⟩⟩

set_option maxHeartbeats 1600000 in
theorem numbersOkE_any (P D L bx cy : Int) (w : World) (hP1 : P ≤ 9223372036854775807) (hL1 : L ≤ 9223372036854775807) : Calls Tryz.prog 165 #[.agg #[.int .i64 P, .int .i64 D, .int .i64 L, .int .i64 bx, .int .i64 cy]] w fun r w' => GivesNumE P D L r ∧ Ext w w' := by
  have Hno : Hid (¬ EvNum P D L → GivesNumE P D L (.returned (.bool false))) := givesNumE_no
  by_cases c1 : P < 13
  · go_enter Tryz.func165, Tryz.ntmps165
    go_wp2
    go_ret
    exact ⟨Hno.out fun k => by have := k.p13; omega, (Below.refl _ _).alloc (Nat.le_refl _) _⟩
  by_cases c3 : P % 8 = 5
  rotate_left
  · have hb : (P % 8 == 5) = false := by simpa using c3
    have Hc := hide c3
    clear c3
    go_enter Tryz.func165, Tryz.ntmps165
    go_wp2
    go_ret
    exact ⟨Hno.out fun k => Hc.out k.p8, (Below.refl _ _).alloc (Nat.le_refl _) _⟩
  have hb : (P % 8 == 5) = true := by simpa using c3
  have Hc3 := hide c3
  clear c3
  go_enter Tryz.func165, Tryz.ntmps165
  go_wp2_with fail
  clear hb
  refine (primeUpTo_any P 1048576 _ hP1 (by omega)).mono ?_
  rintro r w' ⟨⟨ok, rfl, h9⟩, hw⟩
  subst hw
  cases ok
  · have Hc : Hid (¬ (P ≤ 1048576 ∧ Prime P.toNat)) := fun k => by simpa using h9.2 ⟨k.1, by omega, k.2⟩
    clear h9
    go_wp2
    go_ret
    exact ⟨Hno.out fun k => Hc.out ⟨k.pM, k.pp⟩, (Below.refl _ _).alloc (Nat.le_refl _) _⟩
  obtain ⟨c2, -, c9⟩ := h9.1 rfl
  have Hc9 := hide c9
  clear h9 c9
  go_wp2_with fail
  refine (orderOk_any L _ hL1).mono ?_
  rintro r w' ⟨⟨ok, rfl, h9⟩, hw⟩
  subst hw
  cases ok
  · have Hc : Hid (¬ (5 ≤ L ∧ L ≤ 2097152 ∧ Prime L.toNat)) := fun k => by simpa using h9.2 k
    clear h9
    go_wp2
    go_ret
    exact ⟨Hno.out fun k => Hc.out ⟨k.l5, k.lM, k.lp⟩, (Below.refl _ _).alloc (Nat.le_refl _) _⟩
  have HcL := hide (h9.1 rfl)
  clear h9
  by_cases c5 : 2 ≤ D
  rotate_left
  · have c5' : decide (2 ≤ D) = false := by simpa using c5
    have Hc := hide c5
    go_wp2
    go_ret
    exact ⟨Hno.out fun k => by have := k.d2; have := Hc.out; omega, (Below.refl _ _).alloc (Nat.le_refl _) _⟩
  go_wp2_with fail
  by_cases c6 : D < P
  rotate_left
  · refine (inField_at D P false (by simp; omega) _).mono ?_
    rintro r w1 ⟨rfl, rfl⟩
    have Hc := hide c6
    clear c6
    go_wp2
    go_ret
    exact ⟨Hno.out fun k => by have := k.d1; have := Hc.out; omega, (Below.refl _ _).alloc (Nat.le_refl _) _⟩
  refine (inField_at D P true (by simp; omega) _).mono ?_
  rintro r w1 ⟨rfl, rfl⟩
  obtain ⟨p, rfl⟩ := Int.eq_ofNat_of_zero_le (show 0 ≤ P by omega)
  obtain ⟨d, rfl⟩ := Int.eq_ofNat_of_zero_le (show 0 ≤ D by omega)
  go_wp2_with fail
  refine (isSquare_any d p _ (by omega) (by omega) (by omega)).mono ?_
  rintro r w' ⟨rfl, hw⟩
  subst hw
  have HF : Hid (∀ v : Bool, v = !(decide (d ^ ((p - 1) / 2) % p = 1)) → GivesNumE p d L (.returned (.bool v))) := fun v e => ⟨v, rfl, by
    subst e
    have hpr := Hc9.out
    have h8 := Hc3.out
    rw [Int.toNat_natCast] at hpr
    have po := pow_other hpr (by omega) (show 0 < d by omega) (by omega) (by omega)
    constructor
    · intro k
      have k' : ¬ d ^ ((p - 1) / 2) % p = 1 := by simpa using k
      exact ⟨by omega, by omega, h8, Hc9.out, by omega, by omega, by simpa using po.1 k', HcL.out.1, HcL.out.2.1, HcL.out.2.2⟩
    · intro k
      have := k.pw
      simp only [Int.toNat_natCast] at this
      simpa using po.2 this⟩
  generalize decide (d ^ ((p - 1) / 2) % p = 1) = sq at *
  clear Hc9 HcL Hc3
  go_wp2
  go_ret
  exact ⟨HF.out _ (by simp), (Below.refl _ _).alloc (Nat.le_refl _) _⟩

theorem numPr_yes {P D L : Int} (bx cy : Int) (h : EvNum P D L) (w : World) : Calls Tryz.prog 165 #[.agg #[.int .i64 P, .int .i64 D, .int .i64 L, .int .i64 bx, .int .i64 cy]] w fun r w' => r = .returned (.bool true) ∧ Ext w w' :=
  (numbersOkE_any P D L bx cy w (by have := h.pM; omega) (by have := h.lM; omega)).mono fun r w' k => by
    obtain ⟨⟨ok, rfl, k1⟩, k2⟩ := k
    exact ⟨by rw [k1.2 h], k2⟩

theorem numPr_no {P D L : Int} (bx cy : Int) (hP1 : P ≤ 9223372036854775807) (hL1 : L ≤ 9223372036854775807) (h : ¬ EvNum P D L) (w : World) : Calls Tryz.prog 165 #[.agg #[.int .i64 P, .int .i64 D, .int .i64 L, .int .i64 bx, .int .i64 cy]] w fun r w' => r = .returned (.bool false) ∧ Ext w w' :=
  (numbersOkE_any P D L bx cy w hP1 hL1).mono fun r w' k => by
    obtain ⟨⟨ok, rfl, k1⟩, k2⟩ := k
    cases ok
    · exact ⟨rfl, k2⟩
    · exact absurd (k1.1 rfl) h

set_option maxHeartbeats 800000 in
theorem twisted_any (P D L bx cy a b : Int) (w : World) (p2 : 2 ≤ P) (pM : P ≤ 1048576) (d0 : 0 ≤ D) (d1 : D ≤ 1048576) (a0 : 0 ≤ a) (a1 : a < P) (b0 : 0 ≤ b) (b1 : b < P) :
    Calls Tryz.prog 224 #[.agg #[.int .i64 P, .int .i64 D, .int .i64 L, .int .i64 bx, .int .i64 cy], .int .i64 a, .int .i64 b] w fun r w' => r = .returned (.int .i64 (D * a % P * b % P)) ∧ Ext w w' := by
  have pp : 0 < P := by omega
  obtain ⟨s0, s1⟩ := mulBd d0 d1 a0 (show a ≤ 1048576 by omega)
  have u0 := Int.emod_nonneg (D * a) (show P ≠ 0 by omega)
  have u1 := Int.emod_lt_of_pos (D * a) pp
  obtain ⟨q0, q1⟩ := mulBd (x := D * a % P) (y := b) (p := 1048576) (q := 1048576) u0 (by omega) b0 (by omega)
  go_enter Tryz.func224, Tryz.ntmps224
  go_wp2
  go_quiet (fail)
  go_wp2
  go_ret
  exact ⟨rfl, below_drewN ((Below.refl _ _).alloc (Nat.le_refl _) _) _⟩

theorem has_progE {P D x y : Int} (hp : 0 < P) (x0 : 0 ≤ x) (x1 : x ≤ P - 1) (y0 : 0 ≤ y) (y1 : y ≤ P - 1) : (y * y % P - x * x % P - 1 - D * (x * x % P) % P * (y * y % P) % P) % P = 0 ↔ OnE P.toNat D ⟨x, y⟩ := by
  rw [← onE_model hp x0 x1 y0 y1]
  generalize y * y % P = u
  generalize D * (x * x % P) % P = e
  generalize x * x % P = v
  have h1 := mod_dvd P (e * u)
  constructor
  · intro h
    have h2 := Int.dvd_of_emod_eq_zero h
    exact mod_eq (comb2 h2 h1 1 1 (by grind))
  · intro h
    have h2 : P ∣ (u - v) - (1 + e * u) := Int.dvd_of_emod_eq_zero (Int.emod_eq_emod_iff_emod_sub_eq_zero.1 h)
    exact Int.emod_eq_zero_of_dvd (comb2 h2 h1 1 (-1) (by grind))

set_option maxHeartbeats 1600000 in
set_option maxRecDepth 100000 in
theorem hasE_in (P D L bx cy x y : Int) (w : World) (p2 : 2 ≤ P) (pM : P ≤ 1048576) (d0 : 0 ≤ D) (d1 : D ≤ 1048576) (x0 : 0 ≤ x) (x1 : x ≤ P - 1) (y0 : 0 ≤ y) (y1 : y ≤ P - 1) :
    Calls Tryz.prog 166 #[.agg #[.int .i64 P, .int .i64 D, .int .i64 L, .int .i64 bx, .int .i64 cy], .agg #[.int .i64 x, .int .i64 y]] w fun r w' => GivesOnE P D ⟨x, y⟩ r ∧ Ext w w' := by
  have pp : 0 < P := by omega
  obtain ⟨a0, a1⟩ := mulBd y0 (show y ≤ 1048576 by omega) y0 (show y ≤ 1048576 by omega)
  obtain ⟨b0, b1⟩ := mulBd x0 (show x ≤ 1048576 by omega) x0 (show x ≤ 1048576 by omega)
  have m0 := Int.emod_nonneg (x * x) (show P ≠ 0 by omega)
  have m1 := Int.emod_lt_of_pos (x * x) pp
  have n0 := Int.emod_nonneg (y * y) (show P ≠ 0 by omega)
  have n1 := Int.emod_lt_of_pos (y * y) pp
  have HP := hide (has_progE (P := P) (D := D) pp x0 x1 y0 y1)
  obtain ⟨T, hT⟩ : ∃ T, D * (x * x % P) % P * (y * y % P) % P = T := ⟨_, rfl⟩
  have t0 : 0 ≤ T := by rw [← hT]; exact Int.emod_nonneg _ (by omega)
  have t1 : T < P := by rw [← hT]; exact Int.emod_lt_of_pos _ pp
  have HT : Hid (∀ (W : World) d os, Calls Tryz.prog 224 #[.agg #[.int .i64 P, .int .i64 D, .int .i64 L, .int .i64 bx, .int .i64 cy], .int .i64 (x * x % P), .int .i64 (y * y % P)] (Sort.grow (redrawn W d) os) fun e w'' => e = .returned (.int .i64 T) ∧ ∃ p : Regrown, w'' = Sort.grow (redrawn W p.d) p.os) := fun W d os => Calls.regrown_of (by have := twisted_any P D L bx cy (x * x % P) (y * y % P) (Sort.grow (redrawn W d) os) p2 pM d0 d1 m0 m1 n0 n1; rw [hT] at this; exact this)
  rw [hT] at HP
  have HR : Hid (∀ (W : World) d os, Calls Tryz.prog 223 #[.int .i64 (y * y % P - x * x % P - 1 - T), .int .i64 P] (Sort.grow (redrawn W d) os) fun e w'' => e = .returned (.int .i64 ((y * y % P - x * x % P - 1 - T) % P)) ∧ ∃ p : Regrown, w'' = Sort.grow (redrawn W p.d) p.os) := fun W d os => Calls.regrown_of ((intRest_any _ _ _ (by omega) (by omega) (by omega) (by omega)).mono fun r w' k => ⟨k.1, k.2 ▸ Below.refl _ _⟩)
  clear hT
  go_enter Tryz.func166, Tryz.ntmps166
  go_wp2_with fail
  refine (inField_at x P true (by simp; omega) _).mono ?_
  rintro r w' ⟨rfl, rfl⟩
  go_wp2_with fail
  refine (inField_at y P true (by simp; omega) _).mono ?_
  rintro r w' ⟨rfl, rfl⟩
  go_wp2
  go_quiet (fail)
  have hVE : Ext ((w.alloc (.cells #[.int .i64 P, .int .i64 D, .int .i64 L, .int .i64 bx, .int .i64 cy] 37)).alloc (.cells #[.int .i64 x, .int .i64 y] 38)) (((w.alloc (.cells #[.int .i64 P, .int .i64 D, .int .i64 L, .int .i64 bx, .int .i64 cy] 37)).alloc (.cells #[.int .i64 x, .int .i64 y] 38)).drewN nq) := below_drewN (Below.refl _ _) _
  obtain ⟨B1, -, hE, hz⟩ := box2 w [.int .i64 P, .int .i64 D, .int .i64 L, .int .i64 bx, .int .i64 cy] [.int .i64 x, .int .i64 y] 37 38 hVE
  clear hVE
  generalize ((w.alloc (.cells #[.int .i64 P, .int .i64 D, .int .i64 L, .int .i64 bx, .int .i64 cy] 37)).alloc (.cells #[.int .i64 x, .int .i64 y] 38)).drewN nq = V at *
  have k0 := cell_regrown (B1 0 _ rfl).1
  have k1 := cell_regrown (B1 1 _ rfl).1
  have k2 := cell_regrown (B1 2 _ rfl).1
  have k3 := cell_regrown (B1 3 _ rfl).1
  have k4 := cell_regrown (B1 4 _ rfl).1
  clear B1
  obtain ⟨u, hu⟩ : ∃ u, y * y % P = u := ⟨_, rfl⟩
  obtain ⟨v, hv⟩ : ∃ v, x * x % P = v := ⟨_, rfl⟩
  simp only [hu, hv] at *
  clear hu hv a0 a1 b0 b1
  go_wp2
  refine wp_region_quiet_below (by kernel_rfl) (by kernel_rfl) ?_
  repeat (first | go_big_quiet_step (first | (go_at_call 224; exact HT.out _ _ _) | (go_at_call 223; exact HR.out _ _ _)) | quiet_step (first | (go_at_call 224; exact HT.out _ _ _) | (go_at_call 223; exact HR.out _ _ _)))
  refine wpQuiet_nil ?_
  intro _ hw'
  obtain ⟨⟨dq, osq⟩, hw''⟩ := hw'
  subst hw''
  go_wp2
  go_ret
  refine ⟨⟨_, rfl, ?_⟩, below_re hE (by omega) _ _⟩
  rw [← HP.out, beq_iff_eq]

set_option maxHeartbeats 800000 in
theorem hasE_any (P D L bx cy x y : Int) (w : World) (p2 : 2 ≤ P) (pM : P ≤ 1048576) (d0 : 0 ≤ D) (d1 : D ≤ 1048576) :
    Calls Tryz.prog 166 #[.agg #[.int .i64 P, .int .i64 D, .int .i64 L, .int .i64 bx, .int .i64 cy], .agg #[.int .i64 x, .int .i64 y]] w fun r w' => GivesOnE P D ⟨x, y⟩ r ∧ Ext w w' := by
  by_cases c1 : 0 ≤ x ∧ x ≤ P - 1
  · by_cases c2 : 0 ≤ y ∧ y ≤ P - 1
    · exact hasE_in P D L bx cy x y w p2 pM d0 d1 c1.1 c1.2 c2.1 c2.2
    · have Hno : Hid (GivesOnE P D ⟨x, y⟩ (.returned (.bool false))) := givesOnE_no (fun h => c2 ⟨h.2.2.1, h.2.2.2⟩) (by omega)
      go_enter Tryz.func166, Tryz.ntmps166
      go_wp2_with fail
      refine (inField_at x P true (by simp; omega) _).mono ?_
      rintro r w' ⟨rfl, rfl⟩
      go_wp2_with fail
      refine (inField_at y P false (by simp; omega) _).mono ?_
      rintro r w' ⟨rfl, rfl⟩
      go_wp2
      go_ret
      exact ⟨Hno.out, ((Below.refl _ _).alloc (Nat.le_refl _) _).alloc (by simp) _⟩
  · have Hno : Hid (GivesOnE P D ⟨x, y⟩ (.returned (.bool false))) := givesOnE_no (fun h => c1 ⟨h.1, h.2.1⟩) (by omega)
    go_enter Tryz.func166, Tryz.ntmps166
    go_wp2_with fail
    refine (inField_at x P false (by simp; omega) _).mono ?_
    rintro r w' ⟨rfl, rfl⟩
    go_wp2
    go_ret
    exact ⟨Hno.out, ((Below.refl _ _).alloc (Nat.le_refl _) _).alloc (by simp) _⟩

theorem quotient_ext (p : Nat) (a b : Int) (w : World) (hpr : Prime p) (p5 : 5 ≤ p) (pM : p ≤ 1048576) (a0 : -9223372036854775808 ≤ a) (a1 : a ≤ 9223372036854775807) (b0 : -9223372036854775808 ≤ b) (b1 : b ≤ 9223372036854775807) : Calls Tryz.prog 225 #[.int .i64 a, .int .i64 b, .int .i64 p] w fun r w' => r = .returned (.int .i64 (a % p * iv p b % p)) ∧ Ext w w' :=
  quotient_bel p a b w hpr p5 pM a0 a1 b0 b1

set_option maxHeartbeats 1600000 in
set_option maxRecDepth 100000 in
theorem addE_prog (p : Nat) (D L bx cy : Int) (a b : Pr) (w : World) (hpr : Prime p) (p5 : 5 ≤ p) (pM : p ≤ 1048576) (hD0 : 0 ≤ D) (hD : D ≤ 1048576) (ha : InE p a) (hb : InE p b) :
    Calls Tryz.prog 167 #[.agg #[.int .i64 (p : Int), .int .i64 D, .int .i64 L, .int .i64 bx, .int .i64 cy], .agg #[.int .i64 a.x, .int .i64 a.y], .agg #[.int .i64 b.x, .int .i64 b.y]] w fun r w' => r = .returned (.agg #[.int .i64 (addE p D a b).x, .int .i64 (addE p D a b).y]) ∧ Ext w w' := by
  obtain ⟨x1, y1⟩ := a
  obtain ⟨x2, y2⟩ := b
  obtain ⟨a0, a1, a2, a3⟩ := ha
  obtain ⟨b0, b1, b2, b3⟩ := hb
  simp only at a0 a1 a2 a3 b0 b1 b2 b3 ⊢
  have pp : (0 : Int) < p := by omega
  have hM : (p : Int) ≤ 1048576 := by omega
  obtain ⟨m, hm⟩ : ∃ m, m = D * (x1 * x2 % p) % p * (y1 * y2 % p) % p := ⟨_, rfl⟩
  have HV := hide (addE_model p D x1 y1 x2 y2 m hm)
  obtain ⟨q1, q2⟩ := mulBd a0 (show x1 ≤ 1048576 by omega) b0 (show x2 ≤ 1048576 by omega)
  obtain ⟨q3, q4⟩ := mulBd a2 (show y1 ≤ 1048576 by omega) b2 (show y2 ≤ 1048576 by omega)
  obtain ⟨q5, q6⟩ := mulBd a0 (show x1 ≤ 1048576 by omega) b2 (show y2 ≤ 1048576 by omega)
  obtain ⟨q7, q8⟩ := mulBd a2 (show y1 ≤ 1048576 by omega) b0 (show x2 ≤ 1048576 by omega)
  have u0 := Int.emod_nonneg (x1 * x2) (show (p : Int) ≠ 0 by omega)
  have u1 := Int.emod_lt_of_pos (x1 * x2) pp
  have v0 := Int.emod_nonneg (y1 * y2) (show (p : Int) ≠ 0 by omega)
  have v1 := Int.emod_lt_of_pos (y1 * y2) pp
  have m0 : 0 ≤ m := by rw [hm]; exact Int.emod_nonneg _ (by omega)
  have m1 : m < p := by rw [hm]; exact Int.emod_lt_of_pos _ pp
  have HT : Hid (∀ (W : World) d os, Calls Tryz.prog 224 #[.agg #[.int .i64 (p : Int), .int .i64 D, .int .i64 L, .int .i64 bx, .int .i64 cy], .int .i64 (x1 * x2 % p), .int .i64 (y1 * y2 % p)] (Sort.grow (redrawn W d) os) fun e w'' => e = .returned (.int .i64 m) ∧ ∃ p : Regrown, w'' = Sort.grow (redrawn W p.d) p.os) := fun W d os => Calls.regrown_of (by have := twisted_any p D L bx cy (x1 * x2 % p) (y1 * y2 % p) (Sort.grow (redrawn W d) os) (by omega) hM hD0 hD u0 u1 v0 v1; rw [← hm] at this; exact this)
  clear hm
  obtain ⟨A1, hA1⟩ : ∃ A1, 1 + m = A1 := ⟨_, rfl⟩
  obtain ⟨A2, hA2⟩ : ∃ A2, 1 - m = A2 := ⟨_, rfl⟩
  rw [hA1, hA2, ← Int.add_emod] at HV
  obtain ⟨U, hU⟩ : ∃ U, x1 * y2 + y1 * x2 = U := ⟨_, rfl⟩
  obtain ⟨S, hS⟩ : ∃ S, y1 * y2 + x1 * x2 = S := ⟨_, rfl⟩
  rw [hU, hS] at HV
  have HQ1 : Hid (∀ w : World, Calls Tryz.prog 225 #[.int .i64 U, .int .i64 A1, .int .i64 (p : Int)] w fun e w' => e = .returned (.int .i64 (U % p * iv p A1 % p)) ∧ Ext w w') := fun w => quotient_ext p U A1 w hpr p5 pM (by omega) (by omega) (by omega) (by omega)
  have HQ2 : Hid (∀ w : World, Calls Tryz.prog 225 #[.int .i64 S, .int .i64 A2, .int .i64 (p : Int)] w fun e w' => e = .returned (.int .i64 (S % p * iv p A2 % p)) ∧ Ext w w') := fun w => quotient_ext p S A2 w hpr p5 pM (by omega) (by omega) (by omega) (by omega)
  generalize U % (p : Int) * iv p A1 % p = e1 at *
  generalize S % (p : Int) * iv p A2 % p = e2 at *
  have rA : IntKind.i64.wrap (1 + m) = A1 := by rw [IntKind.wrap_i64]; omega
  have rA' : wrap64 (1 + m) = A1 := by unfold wrap64; omega
  have rB : IntKind.i64.wrap (1 - m) = A2 := by rw [IntKind.wrap_i64]; omega
  have rB' : wrap64 (1 - m) = A2 := by unfold wrap64; omega
  have rC : IntKind.i64.wrap (x1 * y2) = x1 * y2 := by rw [IntKind.wrap_i64]; omega
  have rC' : wrap64 (x1 * y2) = x1 * y2 := by unfold wrap64; omega
  have rD : IntKind.i64.wrap (y1 * x2) = y1 * x2 := by rw [IntKind.wrap_i64]; omega
  have rD' : wrap64 (y1 * x2) = y1 * x2 := by unfold wrap64; omega
  have rE : IntKind.i64.wrap (x1 * y2 + y1 * x2) = U := by rw [IntKind.wrap_i64]; omega
  have rE' : wrap64 (x1 * y2 + y1 * x2) = U := by unfold wrap64; omega
  have rF : IntKind.i64.wrap (y1 * y2) = y1 * y2 := by rw [IntKind.wrap_i64]; omega
  have rF' : wrap64 (y1 * y2) = y1 * y2 := by unfold wrap64; omega
  have rG : IntKind.i64.wrap (x1 * x2) = x1 * x2 := by rw [IntKind.wrap_i64]; omega
  have rG' : wrap64 (x1 * x2) = x1 * x2 := by unfold wrap64; omega
  have rH : IntKind.i64.wrap (y1 * y2 + x1 * x2) = S := by rw [IntKind.wrap_i64]; omega
  have rH' : wrap64 (y1 * y2 + x1 * x2) = S := by unfold wrap64; omega
  clear hA1 hA2 hU hS
  have pn : ¬ p = 0 := by omega
  go_enter Tryz.func167, Tryz.ntmps167
  go_wp2
  have B1 := Blk.below (Blk.alloc w [.int .i64 (p : Int), .int .i64 D, .int .i64 L, .int .i64 bx, .int .i64 cy] 37) (w' := ((((w.alloc (.cells #[.int .i64 (p : Int), .int .i64 D, .int .i64 L, .int .i64 bx, .int .i64 cy] 37)).alloc (.cells #[.int .i64 x1, .int .i64 y1] 38)).alloc (.cells #[.int .i64 x2, .int .i64 y2] 38)).alloc (.cells #[.int .i64 0, .int .i64 0] 38))) (S := w.heap.size + 1) (Below.alloc (Below.alloc ((Below.refl _ _).alloc (by simp) _) (by simp) _) (by simp) _) (by omega)
  have B2 := Blk.below (Blk.alloc (w.alloc (.cells #[.int .i64 (p : Int), .int .i64 D, .int .i64 L, .int .i64 bx, .int .i64 cy] 37)) [.int .i64 x1, .int .i64 y1] 38) (w' := ((((w.alloc (.cells #[.int .i64 (p : Int), .int .i64 D, .int .i64 L, .int .i64 bx, .int .i64 cy] 37)).alloc (.cells #[.int .i64 x1, .int .i64 y1] 38)).alloc (.cells #[.int .i64 x2, .int .i64 y2] 38)).alloc (.cells #[.int .i64 0, .int .i64 0] 38))) (S := w.heap.size + 1 + 1) (Below.alloc ((Below.refl _ _).alloc (by simp) _) (by simp) _) (by simp)
  have B3 := Blk.below (Blk.alloc ((w.alloc (.cells #[.int .i64 (p : Int), .int .i64 D, .int .i64 L, .int .i64 bx, .int .i64 cy] 37)).alloc (.cells #[.int .i64 x1, .int .i64 y1] 38)) [.int .i64 x2, .int .i64 y2] 38) (w' := ((((w.alloc (.cells #[.int .i64 (p : Int), .int .i64 D, .int .i64 L, .int .i64 bx, .int .i64 cy] 37)).alloc (.cells #[.int .i64 x1, .int .i64 y1] 38)).alloc (.cells #[.int .i64 x2, .int .i64 y2] 38)).alloc (.cells #[.int .i64 0, .int .i64 0] 38))) (S := w.heap.size + 1 + 1 + 1) ((Below.refl _ _).alloc (by simp) _) (by simp)
  simp only [World.size_alloc] at B2 B3
  have k0 := cell_regrown (B1 0 _ rfl).1
  have k1 := cell_regrown (B1 1 _ rfl).1
  have k2 := cell_regrown (B1 2 _ rfl).1
  have k3 := cell_regrown (B1 3 _ rfl).1
  have k4 := cell_regrown (B1 4 _ rfl).1
  have f0 := cell_regrown (B2 0 _ rfl).1
  have g0 := cell_regrown (B3 0 _ rfl).1
  have f1 := cell_regrown (B2 1 _ rfl).1
  have g1 := cell_regrown (B3 1 _ rfl).1
  clear B1 B2 B3
  refine wp_region_quiet_below (by kernel_rfl) (by kernel_rfl) ?_
  repeat (first | go_big_quiet_step ((go_at_call 224; exact HT.out _ _ _)) | quiet_step ((go_at_call 224; exact HT.out _ _ _)))
  refine wpQuiet_nil ?_
  intro _ hw'
  obtain ⟨⟨dq, osq⟩, hw''⟩ := hw'
  subst hw''
  clear k0 k1 k2 k3 k4 f0 f1 g0 g1
  have hVE := below_regrown ((((w.alloc (.cells #[.int .i64 (p : Int), .int .i64 D, .int .i64 L, .int .i64 bx, .int .i64 cy] 37)).alloc (.cells #[.int .i64 x1, .int .i64 y1] 38)).alloc (.cells #[.int .i64 x2, .int .i64 y2] 38)).alloc (.cells #[.int .i64 0, .int .i64 0] 38)) dq osq
  generalize Sort.grow (redrawn ((((w.alloc (.cells #[.int .i64 (p : Int), .int .i64 D, .int .i64 L, .int .i64 bx, .int .i64 cy] 37)).alloc (.cells #[.int .i64 x1, .int .i64 y1] 38)).alloc (.cells #[.int .i64 x2, .int .i64 y2] 38)).alloc (.cells #[.int .i64 0, .int .i64 0] 38)) dq) osq = w2 at *
  obtain ⟨B1, B2, B3, B4, hE, hz⟩ := box4 w [.int .i64 (p : Int), .int .i64 D, .int .i64 L, .int .i64 bx, .int .i64 cy] [.int .i64 x1, .int .i64 y1] [.int .i64 x2, .int .i64 y2] [.int .i64 0, .int .i64 0] 37 38 38 38 hVE
  clear hVE
  go_wp2
  obtain ⟨X, hX⟩ : ∃ X : Nat → Prop, X = fun k => w.heap.size + 3 ≤ k := ⟨_, rfl⟩
  have x0 : ∀ k, k < w.heap.size + 3 → ¬ X k := fun k h => by rw [hX]; simp; omega
  have xC : X (w.heap.size + 1 + 1 + 1) := by rw [hX]; exact Nat.le_refl _
  clear hX
  have k0 := cell_reC (B1 0 _ rfl).1 (x0 _ (by first | omega | (simp only; omega)))
  have f0 := cell_reC (B2 0 _ rfl).1 (x0 _ (by first | omega | (simp only; omega)))
  have f1 := cell_reC (B2 1 _ rfl).1 (x0 _ (by first | omega | (simp only; omega)))
  have g0 := cell_reC (B3 0 _ rfl).1 (x0 _ (by first | omega | (simp only; omega)))
  have g1 := cell_reC (B3 1 _ rfl).1 (x0 _ (by first | omega | (simp only; omega)))
  clear a0 a1 a2 a3 b0 b1 b2 b3 q1 q2 q3 q4 q5 q6 q7 q8 u0 u1 v0 v1 m0 m1 hpr p5 pM hD0 hD hM B1 B2 B3 HT
  refine anyK_begin X 34 rfl (by kernel_rfl) ?_
  refine anyK_take 0 33 1 rfl (by decide) (by kernel_rfl) (fun _ _ d _ _ h => by cases d <;> exact h) ?_
  repeat (refine headC_step (fun K hK => ?_); go_simp; first | (refine hK _ ?_; clear hK K) | (apply Exists.intro; refine ⟨fun _ => ?_, hK _ ?_⟩; (first | (go_at_call_of 225 (A1); exact Calls.re_of (HQ1.out _)) | (go_at_call_of 225 (A2); exact Calls.re_of (HQ2.out _))); clear hK K))
  refine headC_nil ?_
  clear k0 f0 f1 g0 g1
  refine anyK_one 33 (by kernel_rfl) ?_
  refine stepK_run rfl ?_
  intro w3 h3 K hK
  have BZ := B4.ext h3 (by omega)
  have v0' := (BZ 0 _ rfl).1
  have v1' := (BZ 1 _ rfl).1
  have z0 := (BZ 0 _ rfl).2
  have z1 := (BZ 1 _ rfl).2
  go_simp
  refine hK _ _ (show Grw X w2 (putL (w.heap.size + 1 + 1 + 1) 0 [.int .i64 e1, .int .i64 e2] w3) from Grw.putL xC _ _ _ (.of_ext h3)) ?_
  clear hK K v0' v1' z0 z1
  refine anyK_done (by kernel_rfl) ?_ 0
  intro w4 h4
  replace h4 : Ext (putL (w.heap.size + 1 + 1 + 1) 0 [.int .i64 e1, .int .i64 e2] w3) w4 := h4
  have BW := (BZ.put [.int .i64 e1, .int .i64 e2] rfl).ext h4 (by rw [size_putL]; have := Below.size h3; omega)
  have hF : Ext w w4 := ((hE.trans h3).putL (by omega) [.int .i64 e1, .int .i64 e2]).trans h4
  clear h3 h4 BZ
  have j0 := (BW 0 _ rfl).1
  have j1 := (BW 1 _ rfl).1
  go_wp2
  refine bodyPost_ret (v := .agg #[.int .i64 e1, .int .i64 e2]) (by simp [results, Tryz.results167, go_sem, j0, j1]) rfl ⟨by rw [HV.out], hF⟩

theorem EvNum.nat {P D L : Int} (h : EvNum P D L) : ((P.toNat : Nat) : Int) = P := by have := h.p13; omega

theorem hasPr_at {P D L : Int} (bx cy : Int) (h : EvNum P D L) (a : Pr) (ok : Bool) (hk : ok = true ↔ OnE P.toNat D a) (w : World) : Calls Tryz.prog 166 #[.agg #[.int .i64 P, .int .i64 D, .int .i64 L, .int .i64 bx, .int .i64 cy], .agg #[.int .i64 a.x, .int .i64 a.y]] w fun r w' => r = .returned (.bool ok) ∧ Ext w w' :=
  (hasE_any P D L bx cy a.x a.y w (by have := h.p13; omega) h.pM (by have := h.d2; omega) (by have := h.d1; have := h.pM; omega)).mono fun r w' k => by
    obtain ⟨⟨b, rfl, hb⟩, hw⟩ := k
    exact ⟨by rw [show b = ok by rw [Bool.eq_iff_iff, hb, hk]], hw⟩

theorem hasPr_yes {P D L : Int} (bx cy : Int) (h : EvNum P D L) {a : Pr} (ha : OnE P.toNat D a) (w : World) : Calls Tryz.prog 166 #[.agg #[.int .i64 P, .int .i64 D, .int .i64 L, .int .i64 bx, .int .i64 cy], .agg #[.int .i64 a.x, .int .i64 a.y]] w fun r w' => r = .returned (.bool true) ∧ Ext w w' := hasPr_at bx cy h a true ⟨fun _ => ha, fun _ => rfl⟩ w

theorem hasPr_no {P D L : Int} (bx cy : Int) (h : EvNum P D L) {a : Pr} (ha : ¬ OnE P.toNat D a) (w : World) : Calls Tryz.prog 166 #[.agg #[.int .i64 P, .int .i64 D, .int .i64 L, .int .i64 bx, .int .i64 cy], .agg #[.int .i64 a.x, .int .i64 a.y]] w fun r w' => r = .returned (.bool false) ∧ Ext w w' := hasPr_at bx cy h a false ⟨fun k => by simp at k, fun k => absurd k ha⟩ w

theorem addPr_at {P D L : Int} (bx cy : Int) (h : EvNum P D L) {a b : Pr} (ha : OnE P.toNat D a) (hb : OnE P.toNat D b) (w : World) : Calls Tryz.prog 167 #[.agg #[.int .i64 P, .int .i64 D, .int .i64 L, .int .i64 bx, .int .i64 cy], .agg #[.int .i64 a.x, .int .i64 a.y], .agg #[.int .i64 b.x, .int .i64 b.y]] w fun r w' => r = .returned (.agg #[.int .i64 (addE P.toNat D a b).x, .int .i64 (addE P.toNat D a b).y]) ∧ Ext w w' := by
  have h13 := h.p13; have hM := h.pM; have h2 := h.d2; have h1 := h.d1
  have := addE_prog P.toNat D L bx cy a b w h.pp (by omega) (by omega) (by omega) (by omega) ha.inE hb.inE
  rwa [h.nat] at this

theorem EvNum.addPr_on {P D L : Int} (h : EvNum P D L) {a b : Pr} (ha : OnE P.toNat D a) (hb : OnE P.toNat D b) : OnE P.toNat D (addE P.toNat D a b) := addE_on h.edc ha hb

theorem EvNum.unitPr_on {P D L : Int} (h : EvNum P D L) : OnE P.toNat D oneE := one_on h.edc

set_option maxHeartbeats 800000 in
theorem knownPr_yes {P D L : Int} (bx cy : Int) (h : EvNum P D L) {a : Pr} (ha : OnE P.toNat D a) (w : World) :
    Calls Tryz.prog 120 #[.agg #[.int .i64 0, .int .i64 1, .int .i64 bx, .int .i64 cy, .func (.func 166) #[.agg #[.int .i64 P, .int .i64 D, .int .i64 L, .int .i64 bx, .int .i64 cy]] #[], .func (.func 167) #[.agg #[.int .i64 P, .int .i64 D, .int .i64 L, .int .i64 bx, .int .i64 cy]] #[], .func (.func 168) #[.agg #[.int .i64 P, .int .i64 D, .int .i64 L, .int .i64 bx, .int .i64 cy]] #[], .func (.func 169) #[.agg #[.int .i64 P, .int .i64 D, .int .i64 L, .int .i64 bx, .int .i64 cy]] #[], .func (.func 170) #[] #[]], .agg #[.int .i64 a.x, .int .i64 a.y]] w fun e w' => e = .returned (.agg #[.int .i64 a.x, .int .i64 a.y]) ∧ Ext w w' := by
  have HH := hide (hasPr_yes bx cy h ha)
  clear ha h
  go_enter Tryz.func120, Tryz.ntmps120
  go_wp2_with fail
  refine (HH.out _).mono ?_
  rintro r w1 ⟨rfl, hw1⟩
  obtain ⟨B1, B2, B3, hE, hz⟩ := box3 w [.int .i64 0, .int .i64 1, .int .i64 bx, .int .i64 cy, .func (.func 166) #[.agg #[.int .i64 P, .int .i64 D, .int .i64 L, .int .i64 bx, .int .i64 cy]] #[], .func (.func 167) #[.agg #[.int .i64 P, .int .i64 D, .int .i64 L, .int .i64 bx, .int .i64 cy]] #[], .func (.func 168) #[.agg #[.int .i64 P, .int .i64 D, .int .i64 L, .int .i64 bx, .int .i64 cy]] #[], .func (.func 169) #[.agg #[.int .i64 P, .int .i64 D, .int .i64 L, .int .i64 bx, .int .i64 cy]] #[], .func (.func 170) #[] #[]] [.int .i64 a.x, .int .i64 a.y] [.int .i64 0, .int .i64 0] 167 38 38 hw1
  clear hw1
  have c0 := (B2 0 _ rfl).1
  have c1 := (B2 1 _ rfl).1
  have d0 := (B3 0 _ rfl).1
  have d1 := (B3 1 _ rfl).1
  have z0 := (B3 0 _ rfl).2
  have z1 := (B3 1 _ rfl).2
  go_wp2_with fail
  refine (want_yes _).mono ?_
  rintro r w2 ⟨rfl, rfl⟩
  go_wp2
  obtain ⟨W, hW⟩ : ∃ W, putL (w.heap.size + 1 + 1) 0 [.int .i64 a.x, .int .i64 a.y] w2 = W := ⟨_, rfl⟩
  have BW := Blk.put B3 [.int .i64 a.x, .int .i64 a.y] rfl
  rw [hW] at BW
  have hF : Ext w W := hW ▸ hE.putL (by omega) _
  simp only [putL, Nat.zero_add] at hW
  simp only [hW]
  have q0 := (BW 0 _ rfl).1
  have q1 := (BW 1 _ rfl).1
  refine bodyPost_ret (v := .agg #[.int .i64 a.x, .int .i64 a.y]) (by simp [results, Tryz.results120, go_sem, q0, q1]) rfl ⟨rfl, hF⟩

set_option maxHeartbeats 800000 in
theorem knownPr_no {P D L : Int} (bx cy : Int) (h : EvNum P D L) {a : Pr} (ha : ¬ OnE P.toNat D a) (w : World) :
    Calls Tryz.prog 120 #[.agg #[.int .i64 0, .int .i64 1, .int .i64 bx, .int .i64 cy, .func (.func 166) #[.agg #[.int .i64 P, .int .i64 D, .int .i64 L, .int .i64 bx, .int .i64 cy]] #[], .func (.func 167) #[.agg #[.int .i64 P, .int .i64 D, .int .i64 L, .int .i64 bx, .int .i64 cy]] #[], .func (.func 168) #[.agg #[.int .i64 P, .int .i64 D, .int .i64 L, .int .i64 bx, .int .i64 cy]] #[], .func (.func 169) #[.agg #[.int .i64 P, .int .i64 D, .int .i64 L, .int .i64 bx, .int .i64 cy]] #[], .func (.func 170) #[] #[]], .agg #[.int .i64 a.x, .int .i64 a.y]] w fun e w' => e = .panicked [nrE] ∧ Ext w w' := by
  have HH := hide (hasPr_no bx cy h ha)
  clear ha h
  go_enter Tryz.func120, Tryz.ntmps120
  go_wp2_with fail
  refine (HH.out _).mono ?_
  rintro r w1 ⟨rfl, hw1⟩
  obtain ⟨B1, B2, B3, hE, hz⟩ := box3 w [.int .i64 0, .int .i64 1, .int .i64 bx, .int .i64 cy, .func (.func 166) #[.agg #[.int .i64 P, .int .i64 D, .int .i64 L, .int .i64 bx, .int .i64 cy]] #[], .func (.func 167) #[.agg #[.int .i64 P, .int .i64 D, .int .i64 L, .int .i64 bx, .int .i64 cy]] #[], .func (.func 168) #[.agg #[.int .i64 P, .int .i64 D, .int .i64 L, .int .i64 bx, .int .i64 cy]] #[], .func (.func 169) #[.agg #[.int .i64 P, .int .i64 D, .int .i64 L, .int .i64 bx, .int .i64 cy]] #[], .func (.func 170) #[] #[]] [.int .i64 a.x, .int .i64 a.y] [.int .i64 0, .int .i64 0] 167 38 38 hw1
  clear hw1
  have c0 := (B2 0 _ rfl).1
  have c1 := (B2 1 _ rfl).1
  have d0 := (B3 0 _ rfl).1
  have d1 := (B3 1 _ rfl).1
  have z0 := (B3 0 _ rfl).2
  have z1 := (B3 1 _ rfl).2
  go_wp2_with fail
  refine (want_no _).mono ?_
  rintro r w2 ⟨rfl, rfl⟩
  first | exact ⟨rfl, rfl, hE⟩ | (go_wp2; exact ⟨rfl, rfl, hE⟩)

/-- What fold's loop keeps: the group, the answer's block, the sum so far in block S, what is doubled in block T. -/
structure FoldPr (w wr : World) (S T : Nat) (P D L bx cy : Int) (b o : Pr) : Prop where
  gr : Blk wr w.heap.size [.int .i64 0, .int .i64 1, .int .i64 bx, .int .i64 cy, .func (.func 166) #[.agg #[.int .i64 P, .int .i64 D, .int .i64 L, .int .i64 bx, .int .i64 cy]] #[], .func (.func 167) #[.agg #[.int .i64 P, .int .i64 D, .int .i64 L, .int .i64 bx, .int .i64 cy]] #[], .func (.func 168) #[.agg #[.int .i64 P, .int .i64 D, .int .i64 L, .int .i64 bx, .int .i64 cy]] #[], .func (.func 169) #[.agg #[.int .i64 P, .int .i64 D, .int .i64 L, .int .i64 bx, .int .i64 cy]] #[], .func (.func 170) #[] #[]]
  rs : Blk wr (w.heap.size + 1 + 1) [.int .i64 0, .int .i64 0]
  ot : Blk wr S [.int .i64 o.x, .int .i64 o.y]
  pt : Blk wr T [.int .i64 b.x, .int .i64 b.y]
  lo : w.heap.size + 3 ≤ S
  lo2 : w.heap.size + 3 ≤ T
  ne : S ≠ T
  ext : Ext w wr
  big : S < wr.heap.size
  big2 : T < wr.heap.size

theorem FoldPr.call {w wr w1 : World} {S T : Nat} {P D L bx cy : Int} {b o : Pr} (h : FoldPr w wr S T P D L bx cy b o) (hb : Ext wr w1) : FoldPr w w1 S T P D L bx cy b o :=
  ⟨h.gr.ext hb (by have := h.big; have := h.lo; omega), h.rs.ext hb (by have := h.big; have := h.lo; omega), h.ot.ext hb h.big, h.pt.ext hb h.big2, h.lo, h.lo2, h.ne, h.ext.trans hb, Nat.lt_of_lt_of_le h.big (Below.size hb), Nat.lt_of_lt_of_le h.big2 (Below.size hb)⟩

theorem FoldPr.putO {w wr : World} {S T : Nat} {P D L bx cy : Int} {b o : Pr} (h : FoldPr w wr S T P D L bx cy b o) (c : Pr) : FoldPr w (putL S 0 [.int .i64 c.x, .int .i64 c.y] wr) S T P D L bx cy b c :=
  ⟨h.gr.put_other _ (by have := h.lo; omega), h.rs.put_other _ (by have := h.lo; omega), h.ot.put _ rfl, h.pt.put_other _ h.ne.symm, h.lo, h.lo2, h.ne, h.ext.putL (by have := h.lo; omega) _, by rw [size_putL]; exact h.big, by rw [size_putL]; exact h.big2⟩

theorem FoldPr.putB {w wr : World} {S T : Nat} {P D L bx cy : Int} {b o : Pr} (h : FoldPr w wr S T P D L bx cy b o) (c : Pr) : FoldPr w (putL T 0 [.int .i64 c.x, .int .i64 c.y] wr) S T P D L bx cy c o :=
  ⟨h.gr.put_other _ (by have := h.lo2; omega), h.rs.put_other _ (by have := h.lo2; omega), h.ot.put_other _ h.ne, h.pt.put _ rfl, h.lo, h.lo2, h.ne, h.ext.putL (by have := h.lo2; omega) _, by rw [size_putL]; exact h.big, by rw [size_putL]; exact h.big2⟩

set_option maxHeartbeats 3200000 in
set_option maxRecDepth 100000 in
theorem foldPr_yes {P D L : Int} (bx cy : Int) (h : EvNum P D L) {a R : Pr} (ha : OnE P.toNat D a) (n : Nat) (n1 : n ≤ 1099511627776) (hR : mulE P.toNat D n a = R) (w : World) :
    Calls Tryz.prog 227 #[.agg #[.int .i64 0, .int .i64 1, .int .i64 bx, .int .i64 cy, .func (.func 166) #[.agg #[.int .i64 P, .int .i64 D, .int .i64 L, .int .i64 bx, .int .i64 cy]] #[], .func (.func 167) #[.agg #[.int .i64 P, .int .i64 D, .int .i64 L, .int .i64 bx, .int .i64 cy]] #[], .func (.func 168) #[.agg #[.int .i64 P, .int .i64 D, .int .i64 L, .int .i64 bx, .int .i64 cy]] #[], .func (.func 169) #[.agg #[.int .i64 P, .int .i64 D, .int .i64 L, .int .i64 bx, .int .i64 cy]] #[], .func (.func 170) #[] #[]], .int .i64 n, .agg #[.int .i64 a.x, .int .i64 a.y]] w fun e w' => e = .returned (.agg #[.int .i64 R.x, .int .i64 R.y]) ∧ Ext w w' := by
  have Hadd : Hid (∀ (a b : Pr) (w : World), OnE P.toNat D a → OnE P.toNat D b → Calls Tryz.prog 167 #[.agg #[.int .i64 P, .int .i64 D, .int .i64 L, .int .i64 bx, .int .i64 cy], .agg #[.int .i64 a.x, .int .i64 a.y], .agg #[.int .i64 b.x, .int .i64 b.y]] w fun r w' => r = .returned (.agg #[.int .i64 (addE P.toNat D a b).x, .int .i64 (addE P.toNat D a b).y]) ∧ Ext w w') := fun a b w ha hb => addPr_at bx cy h ha hb w
  have Hin : Hid (∀ a b : Pr, OnE P.toNat D a → OnE P.toNat D b → OnE P.toNat D (addE P.toNat D a b)) := fun a b ha hb => EvNum.addPr_on h ha hb
  have Hs : Hid (accE P.toNat D 64 n oneE a = R) := hR
  have HK := hide (knownPr_yes bx cy h ha)
  have Ha : Hid (OnE P.toNat D a) := ha
  have Hf : Hid (OnE P.toNat D oneE) := EvNum.unitPr_on h
  have hlen := Lib.bitLen_le n 64 (by omega) (by omega)
  have Hlt := hide (bitLen_lt n (by omega))
  have n0 : (0 : Int) ≤ n := by omega
  have n2 : (n : Int) ≤ 1099511627776 := by omega
  clear h ha hR
  go_enter Tryz.func227, Tryz.ntmps227
  go_wp2_with fail
  refine (want_yes _).mono ?_
  rintro r w' ⟨rfl, rfl⟩
  obtain ⟨V, hV⟩ : ∃ V, ((w.alloc (.cells #[.int .i64 0, .int .i64 1, .int .i64 bx, .int .i64 cy, .func (.func 166) #[.agg #[.int .i64 P, .int .i64 D, .int .i64 L, .int .i64 bx, .int .i64 cy]] #[], .func (.func 167) #[.agg #[.int .i64 P, .int .i64 D, .int .i64 L, .int .i64 bx, .int .i64 cy]] #[], .func (.func 168) #[.agg #[.int .i64 P, .int .i64 D, .int .i64 L, .int .i64 bx, .int .i64 cy]] #[], .func (.func 169) #[.agg #[.int .i64 P, .int .i64 D, .int .i64 L, .int .i64 bx, .int .i64 cy]] #[], .func (.func 170) #[] #[]] 167)).alloc (.cells #[.int .i64 a.x, .int .i64 a.y] 38)).alloc (.cells #[.int .i64 0, .int .i64 0] 38) = V := ⟨_, rfl⟩
  obtain ⟨B1, B2, B3, hE, hz⟩ := box3 w [.int .i64 0, .int .i64 1, .int .i64 bx, .int .i64 cy, .func (.func 166) #[.agg #[.int .i64 P, .int .i64 D, .int .i64 L, .int .i64 bx, .int .i64 cy]] #[], .func (.func 167) #[.agg #[.int .i64 P, .int .i64 D, .int .i64 L, .int .i64 bx, .int .i64 cy]] #[], .func (.func 168) #[.agg #[.int .i64 P, .int .i64 D, .int .i64 L, .int .i64 bx, .int .i64 cy]] #[], .func (.func 169) #[.agg #[.int .i64 P, .int .i64 D, .int .i64 L, .int .i64 bx, .int .i64 cy]] #[], .func (.func 170) #[] #[]] [.int .i64 a.x, .int .i64 a.y] [.int .i64 0, .int .i64 0] 167 38 38 (hV ▸ Ext.refl _ : Ext (((w.alloc (.cells #[.int .i64 0, .int .i64 1, .int .i64 bx, .int .i64 cy, .func (.func 166) #[.agg #[.int .i64 P, .int .i64 D, .int .i64 L, .int .i64 bx, .int .i64 cy]] #[], .func (.func 167) #[.agg #[.int .i64 P, .int .i64 D, .int .i64 L, .int .i64 bx, .int .i64 cy]] #[], .func (.func 168) #[.agg #[.int .i64 P, .int .i64 D, .int .i64 L, .int .i64 bx, .int .i64 cy]] #[], .func (.func 169) #[.agg #[.int .i64 P, .int .i64 D, .int .i64 L, .int .i64 bx, .int .i64 cy]] #[], .func (.func 170) #[] #[]] 167)).alloc (.cells #[.int .i64 a.x, .int .i64 a.y] 38)).alloc (.cells #[.int .i64 0, .int .i64 0] 38)) V)
  simp only [hV]
  clear hV
  go_wp2
  obtain ⟨X, hX⟩ : ∃ X : Nat → Prop, X = fun k => V.heap.size ≤ k := ⟨_, rfl⟩
  have x0 : ∀ k, k < V.heap.size → ¬ X k := fun k h => by rw [hX]; simp; omega
  have x1 : ∀ k, V.heap.size ≤ k → X k := fun k h => by rw [hX]; exact h
  clear hX
  have g0 := cell_reC (B1 0 _ rfl).1 (x0 _ (by first | omega | (simp only; omega)))
  have g1 := cell_reC (B1 1 _ rfl).1 (x0 _ (by first | omega | (simp only; omega)))
  have g2 := cell_reC (B1 2 _ rfl).1 (x0 _ (by first | omega | (simp only; omega)))
  have g3 := cell_reC (B1 3 _ rfl).1 (x0 _ (by first | omega | (simp only; omega)))
  have g4 := cell_reC (B1 4 _ rfl).1 (x0 _ (by first | omega | (simp only; omega)))
  have g5 := cell_reC (B1 5 _ rfl).1 (x0 _ (by first | omega | (simp only; omega)))
  have g6 := cell_reC (B1 6 _ rfl).1 (x0 _ (by first | omega | (simp only; omega)))
  have g7 := cell_reC (B1 7 _ rfl).1 (x0 _ (by first | omega | (simp only; omega)))
  have g8 := cell_reC (B1 8 _ rfl).1 (x0 _ (by first | omega | (simp only; omega)))
  have c0 := cell_reC (B2 0 _ rfl).1 (x0 _ (by first | omega | (simp only; omega)))
  have c1 := cell_reC (B2 1 _ rfl).1 (x0 _ (by first | omega | (simp only; omega)))
  refine anyK_begin X 9 rfl (by kernel_rfl) ?_
  refine anyK_take 0 5 4 rfl (by decide) (by kernel_rfl) (fun _ _ d _ _ h => by cases d <;> exact h) ?_
  repeat (refine headC_step (fun K hK => ?_); go_simp; first | (refine hK _ ?_; clear hK K) | (apply Exists.intro; refine ⟨fun _ => ?_, hK _ ?_⟩; (exact Calls.re_of (HK.out _)); clear hK K))
  refine headC_nil ?_
  clear g0 g1 g2 g3 g4 g5 g6 g7 g8 c0 c1 HK
  refine anyK_two 5 6 (by kernel_rfl) ?_ ?_
  · refine stepK_run rfl ?_
    intro w2 h2 K hK
    go_simp
    refine hK _ _ (.of_ext (h2.trans (Ext.alloc _ _))) ?_
    clear hK K
    refine anyK_one 6 (by kernel_rfl) ?_
    refine stepK_run rfl ?_
    intro w3 h3 K hK
    go_simp
    refine hK _ _ (.of_ext (((h2.trans (Ext.alloc _ _)).trans h3).trans (Ext.alloc _ _))) ?_
    clear hK K
    refine anyK_one 7 (by kernel_rfl) ?_
    refine stepK_run rfl ?_
    intro w4 h4 K hK
    obtain ⟨BS, BT, hV4, lS, lT, ne, sS, sT⟩ := two_alloc (z := [.int .i64 0, .int .i64 0]) (z' := [.int .i64 0, .int .i64 0]) h2 h3 h4
    clear h2 h3 h4
    generalize w2.heap.size = S at *
    generalize w3.heap.size = T at *
    have s0 := (BS 0 _ rfl).1
    have s1 := (BS 1 _ rfl).1
    have y0 := (BS 0 _ rfl).2
    have y1 := (BS 1 _ rfl).2
    go_simp
    refine hK _ _ (show Grw X V (putL S 0 [.int .i64 0, .int .i64 1] w4) from Grw.putL (x1 _ lS) _ _ _ (.of_ext hV4)) ?_
    clear hK K s0 s1 y0 y1
    refine anyK_one 8 (by kernel_rfl) ?_
    refine stepK_run rfl ?_
    intro w5 h5 K hK
    replace h5 : Ext (putL S 0 [.int .i64 0, .int .i64 1] w4) w5 := h5
    have BT5 := (BT.put_other [.int .i64 0, .int .i64 1] ne.symm).ext h5 (by rw [size_putL]; exact sT)
    have s0 := (BT5 0 _ rfl).1
    have s1 := (BT5 1 _ rfl).1
    have y0 := (BT5 0 _ rfl).2
    have y1 := (BT5 1 _ rfl).2
    go_simp
    refine hK _ _ (show Grw X V (putL T 0 [.int .i64 a.x, .int .i64 a.y] w5) from Grw.putL (x1 _ lT) _ _ _ ((Grw.putL (x1 _ lS) _ _ _ (.of_ext hV4)).trans (.of_ext h5))) ?_
    clear hK K s0 s1 y0 y1 BT5
    refine anyK_done (by kernel_rfl) ?_ 0
    intro w6 h6
    replace h6 : Ext (putL T 0 [.int .i64 a.x, .int .i64 a.y] w5) w6 := h6
    obtain ⟨B4, B5, hV6, sS6, sT6⟩ := two_put (z := [.int .i64 0, .int .i64 0]) (u := [.int .i64 0, .int .i64 1]) (v := [.int .i64 a.x, .int .i64 a.y]) rfl rfl BS BT hV4 lS lT ne sS sT h5 h6
    have HF : Hid (FoldPr w w6 S T P D L bx cy a oneE) := ⟨B1.ext hV6 (by omega), B3.ext hV6 (by omega), B4, B5, by omega, by omega, ne, hE.trans hV6, sS6, sT6⟩
    clear BS BT hV4 lS lT ne sS sT h5 h6 B4 B5 hV6 sS6 sT6 x0 x1 X B1 B2 B3 hE hz w4 w5
    go_wp2_with fail
    refine (len_all (n : Int) _ (by omega) (by omega)).mono ?_
    rintro r w' ⟨rfl, hw⟩
    subst hw
    rw [Int.toNat_natCast]
    generalize Lib.bitLen n = Lb at *
    go_wp2
    go_loopw [25] (fun i wr => ∃ (K : Nat) (o b : Pr), i = .int .i64 K ∧ K ≤ Lb ∧ OnE P.toNat D o ∧ OnE P.toNat D b ∧ accE P.toNat D (64 - K) (n / 2 ^ K) o b = R ∧ FoldPr w wr S T P D L bx cy b o) (fun i _ => Lb - (intOf i).toNat)
    case atStart => exact ⟨0, oneE, a, rfl, by omega, Hf.out, Ha.out, by simpa using Hs.out, HF.out⟩
    case round =>
      obtain ⟨K, o, b, rfl, hK, ho, hb, hacc, hM⟩ := hrel
      have HM := hide hM
      have Hacc := hide hacc
      clear Hs Ha Hf hacc HF
      have KG := hM.gr
      have KO := hM.ot
      have KB := hM.pt
      have g0 := (KG 0 _ rfl).1
      have g1 := (KG 1 _ rfl).1
      have g2 := (KG 2 _ rfl).1
      have g3 := (KG 3 _ rfl).1
      have g4 := (KG 4 _ rfl).1
      have g5 := (KG 5 _ rfl).1
      have g6 := (KG 6 _ rfl).1
      have g7 := (KG 7 _ rfl).1
      have g8 := (KG 8 _ rfl).1
      have o0 := (KO 0 _ rfl).1
      have o1 := (KO 1 _ rfl).1
      have y0 := (KO 0 _ rfl).2
      have y1 := (KO 1 _ rfl).2
      have b0 := (KB 0 _ rfl).1
      have b1 := (KB 1 _ rfl).1
      have x0 := (KB 0 _ rfl).2
      have x1 := (KB 1 _ rfl).2
      clear KG KO KB
      have hlo := hM.lo
      have hlo2 := hM.lo2
      have ne := hM.ne
      have ne1 : ¬ S = w.heap.size + 1 + 1 := by omega
      have ne2 : ¬ w.heap.size + 1 + 1 = S := by omega
      have ne3 : ¬ T = w.heap.size + 1 + 1 := by omega
      have ne4 : ¬ w.heap.size + 1 + 1 = T := by omega
      have ne5 : ¬ S = w.heap.size := by omega
      have ne6 : ¬ w.heap.size = S := by omega
      have ne7 : ¬ T = w.heap.size := by omega
      have ne8 : ¬ w.heap.size = T := by omega
      have ne9 : ¬ T = S := by omega
      have neA : ¬ S = T := by omega
      clear hM ne
      by_cases hend : K = Lb
      · subst hend
        have e : o = R := by rw [← Hacc.out, Nat.div_eq_of_lt Hlt.out, accE_zero]
        subst e
        have B3 := HM.out.rs
        have hE := HM.out.ext
        have d0 := (B3 0 _ rfl).1
        have d1 := (B3 1 _ rfl).1
        have z0 := (B3 0 _ rfl).2
        have z1 := (B3 1 _ rfl).2
        go_wp2
        obtain ⟨W, hW⟩ : ∃ W, putL (w.heap.size + 1 + 1) 0 [.int .i64 o.x, .int .i64 o.y] wr = W := ⟨_, rfl⟩
        have BW := Blk.put B3 [.int .i64 o.x, .int .i64 o.y] rfl
        rw [hW] at BW
        have hF : Ext w W := hW ▸ hE.putL (by omega) _
        simp only [putL, Nat.zero_add] at hW
        simp only [hW]
        have q0 := (BW 0 _ rfl).1
        have q1 := (BW 1 _ rfl).1
        refine bodyPost_ret (v := .agg #[.int .i64 o.x, .int .i64 o.y]) (by simp [results, Tryz.results227, go_sem, q0, q1]) rfl ⟨rfl, hF⟩
      · have hlt : (K : Int) < (Lb : Int) := by omega
        obtain ⟨f', hf'⟩ : ∃ f', 64 - K = f' + 1 := ⟨63 - K, by omega⟩
        have Hac : Hid (accE P.toNat D (64 - (K + 1)) (n / 2 ^ (K + 1)) (if n / 2 ^ K % 2 = 1 then addE P.toNat D o b else o) (addE P.toNat D b b) = R) := by
          have := Hacc.out
          rw [hf', accE] at this
          rw [show 64 - (K + 1) = f' by omega, Nat.pow_succ, ← Nat.div_div_eq_div_mul]
          exact this
        have Hbb := hide (Hin.out b b hb hb)
        clear Hacc hf'
        by_cases hodd : n / 2 ^ K % 2 = 1
        · have hbt : (bits .and .i64 ((n : Int) / 2 ^ K) 1 == 1) = true := by rw [bit_test]; simpa using hodd
          have Hob := hide (Hin.out o b ho hb)
          have Ha2 : Hid (accE P.toNat D (64 - (K + 1)) (n / 2 ^ (K + 1)) (addE P.toNat D o b) (addE P.toNat D b b) = R) := by have := Hac.out; rwa [if_pos hodd] at this
          clear Hac hodd
          go_wp2_with fail
          refine (Hadd.out o b _ ho hb).mono ?_
          rintro e w3 ⟨rfl, hw3⟩
          generalize addE P.toNat D o b = c at *
          have M1 := HM.out.call hw3
          have HM1 := hide M1
          clear hw3 HM g0 g1 g2 g3 g4 g5 g6 g7 g8 o0 o1 y0 y1 b0 b1 x0 x1
          have KG := M1.gr
          have KO := M1.ot
          have KB := M1.pt
          have g0 := (KG 0 _ rfl).1
          have g1 := (KG 1 _ rfl).1
          have g2 := (KG 2 _ rfl).1
          have g3 := (KG 3 _ rfl).1
          have g4 := (KG 4 _ rfl).1
          have g5 := (KG 5 _ rfl).1
          have g6 := (KG 6 _ rfl).1
          have g7 := (KG 7 _ rfl).1
          have g8 := (KG 8 _ rfl).1
          have o0 := (KO 0 _ rfl).1
          have o1 := (KO 1 _ rfl).1
          have y0 := (KO 0 _ rfl).2
          have y1 := (KO 1 _ rfl).2
          have b0 := (KB 0 _ rfl).1
          have b1 := (KB 1 _ rfl).1
          have x0 := (KB 0 _ rfl).2
          have x1 := (KB 1 _ rfl).2
          clear KG KO KB
          clear M1
          go_wp2_with fail
          refine (Hadd.out b b _ hb hb).mono ?_
          rintro e w4 ⟨rfl, hw4⟩
          generalize addE P.toNat D b b = d at *
          have M2 := (HM1.out.putO c).call hw4
          have HM2 := hide M2
          clear hw4 HM1 g0 g1 g2 g3 g4 g5 g6 g7 g8 o0 o1 y0 y1 b0 b1 x0 x1
          have KG := M2.gr
          have KO := M2.ot
          have KB := M2.pt
          have g0 := (KG 0 _ rfl).1
          have g1 := (KG 1 _ rfl).1
          have g2 := (KG 2 _ rfl).1
          have g3 := (KG 3 _ rfl).1
          have g4 := (KG 4 _ rfl).1
          have g5 := (KG 5 _ rfl).1
          have g6 := (KG 6 _ rfl).1
          have g7 := (KG 7 _ rfl).1
          have g8 := (KG 8 _ rfl).1
          have o0 := (KO 0 _ rfl).1
          have o1 := (KO 1 _ rfl).1
          have y0 := (KO 0 _ rfl).2
          have y1 := (KO 1 _ rfl).2
          have b0 := (KB 0 _ rfl).1
          have b1 := (KB 1 _ rfl).1
          have x0 := (KB 0 _ rfl).2
          have x1 := (KB 1 _ rfl).2
          clear KG KO KB
          clear M2
          go_wp2
          go_roundw
          case rel => exact ⟨K + 1, c, d, by go_num, by omega, Hob.out, Hbb.out, Ha2.out, HM2.out.putB d⟩
          case measure => simp [intOf]; omega
        · have hbt : (bits .and .i64 ((n : Int) / 2 ^ K) 1 == 1) = false := by rw [bit_test]; simpa using hodd
          have Ha2 : Hid (accE P.toNat D (64 - (K + 1)) (n / 2 ^ (K + 1)) o (addE P.toNat D b b) = R) := by have := Hac.out; rwa [if_neg hodd] at this
          clear Hac hodd
          go_wp2_with fail
          refine (Hadd.out b b _ hb hb).mono ?_
          rintro e w4 ⟨rfl, hw4⟩
          generalize addE P.toNat D b b = d at *
          have M2 := HM.out.call hw4
          have HM2 := hide M2
          clear hw4 HM g0 g1 g2 g3 g4 g5 g6 g7 g8 o0 o1 y0 y1 b0 b1 x0 x1
          have KG := M2.gr
          have KO := M2.ot
          have KB := M2.pt
          have g0 := (KG 0 _ rfl).1
          have g1 := (KG 1 _ rfl).1
          have g2 := (KG 2 _ rfl).1
          have g3 := (KG 3 _ rfl).1
          have g4 := (KG 4 _ rfl).1
          have g5 := (KG 5 _ rfl).1
          have g6 := (KG 6 _ rfl).1
          have g7 := (KG 7 _ rfl).1
          have g8 := (KG 8 _ rfl).1
          have o0 := (KO 0 _ rfl).1
          have o1 := (KO 1 _ rfl).1
          have y0 := (KO 0 _ rfl).2
          have y1 := (KO 1 _ rfl).2
          have b0 := (KB 0 _ rfl).1
          have b1 := (KB 1 _ rfl).1
          have x0 := (KB 0 _ rfl).2
          have x1 := (KB 1 _ rfl).2
          clear KG KO KB
          clear M2
          go_wp2
          go_roundw
          case rel => exact ⟨K + 1, o, d, by go_num, by omega, ho, Hbb.out, Ha2.out, HM2.out.putB d⟩
          case measure => simp [intOf]; omega
  · refine stepK_run rfl ?_
    intro w2 h2 K hK
    go_simp
    refine hK _ _ (.of_ext (h2.trans (Ext.alloc _ _))) ?_
    clear hK K
    refine anyK_one 5 (by kernel_rfl) ?_
    refine stepK_run rfl ?_
    intro w3 h3 K hK
    go_simp
    refine hK _ _ (.of_ext (((h2.trans (Ext.alloc _ _)).trans h3).trans (Ext.alloc _ _))) ?_
    clear hK K
    refine anyK_one 7 (by kernel_rfl) ?_
    refine stepK_run rfl ?_
    intro w4 h4 K hK
    obtain ⟨BT, BS, hV4, lT, lS, ne', sT, sS⟩ := two_alloc (z := [.int .i64 0, .int .i64 0]) (z' := [.int .i64 0, .int .i64 0]) h2 h3 h4
    have ne := ne'.symm
    clear h2 h3 h4 ne'
    generalize w2.heap.size = T at *
    generalize w3.heap.size = S at *
    have s0 := (BS 0 _ rfl).1
    have s1 := (BS 1 _ rfl).1
    have y0 := (BS 0 _ rfl).2
    have y1 := (BS 1 _ rfl).2
    go_simp
    refine hK _ _ (show Grw X V (putL S 0 [.int .i64 0, .int .i64 1] w4) from Grw.putL (x1 _ lS) _ _ _ (.of_ext hV4)) ?_
    clear hK K s0 s1 y0 y1
    refine anyK_one 8 (by kernel_rfl) ?_
    refine stepK_run rfl ?_
    intro w5 h5 K hK
    replace h5 : Ext (putL S 0 [.int .i64 0, .int .i64 1] w4) w5 := h5
    have BT5 := (BT.put_other [.int .i64 0, .int .i64 1] ne.symm).ext h5 (by rw [size_putL]; exact sT)
    have s0 := (BT5 0 _ rfl).1
    have s1 := (BT5 1 _ rfl).1
    have y0 := (BT5 0 _ rfl).2
    have y1 := (BT5 1 _ rfl).2
    go_simp
    refine hK _ _ (show Grw X V (putL T 0 [.int .i64 a.x, .int .i64 a.y] w5) from Grw.putL (x1 _ lT) _ _ _ ((Grw.putL (x1 _ lS) _ _ _ (.of_ext hV4)).trans (.of_ext h5))) ?_
    clear hK K s0 s1 y0 y1 BT5
    refine anyK_done (by kernel_rfl) ?_ 0
    intro w6 h6
    replace h6 : Ext (putL T 0 [.int .i64 a.x, .int .i64 a.y] w5) w6 := h6
    obtain ⟨B4, B5, hV6, sS6, sT6⟩ := two_put (z := [.int .i64 0, .int .i64 0]) (u := [.int .i64 0, .int .i64 1]) (v := [.int .i64 a.x, .int .i64 a.y]) rfl rfl BS BT hV4 lS lT ne sS sT h5 h6
    have HF : Hid (FoldPr w w6 S T P D L bx cy a oneE) := ⟨B1.ext hV6 (by omega), B3.ext hV6 (by omega), B4, B5, by omega, by omega, ne, hE.trans hV6, sS6, sT6⟩
    clear BS BT hV4 lS lT ne sS sT h5 h6 B4 B5 hV6 sS6 sT6 x0 x1 X B1 B2 B3 hE hz w4 w5
    go_wp2_with fail
    refine (len_all (n : Int) _ (by omega) (by omega)).mono ?_
    rintro r w' ⟨rfl, hw⟩
    subst hw
    rw [Int.toNat_natCast]
    generalize Lib.bitLen n = Lb at *
    go_wp2
    go_loopw [25] (fun i wr => ∃ (K : Nat) (o b : Pr), i = .int .i64 K ∧ K ≤ Lb ∧ OnE P.toNat D o ∧ OnE P.toNat D b ∧ accE P.toNat D (64 - K) (n / 2 ^ K) o b = R ∧ FoldPr w wr S T P D L bx cy b o) (fun i _ => Lb - (intOf i).toNat)
    case atStart => exact ⟨0, oneE, a, rfl, by omega, Hf.out, Ha.out, by simpa using Hs.out, HF.out⟩
    case round =>
      obtain ⟨K, o, b, rfl, hK, ho, hb, hacc, hM⟩ := hrel
      have HM := hide hM
      have Hacc := hide hacc
      clear Hs Ha Hf hacc HF
      have KG := hM.gr
      have KO := hM.ot
      have KB := hM.pt
      have g0 := (KG 0 _ rfl).1
      have g1 := (KG 1 _ rfl).1
      have g2 := (KG 2 _ rfl).1
      have g3 := (KG 3 _ rfl).1
      have g4 := (KG 4 _ rfl).1
      have g5 := (KG 5 _ rfl).1
      have g6 := (KG 6 _ rfl).1
      have g7 := (KG 7 _ rfl).1
      have g8 := (KG 8 _ rfl).1
      have o0 := (KO 0 _ rfl).1
      have o1 := (KO 1 _ rfl).1
      have y0 := (KO 0 _ rfl).2
      have y1 := (KO 1 _ rfl).2
      have b0 := (KB 0 _ rfl).1
      have b1 := (KB 1 _ rfl).1
      have x0 := (KB 0 _ rfl).2
      have x1 := (KB 1 _ rfl).2
      clear KG KO KB
      have hlo := hM.lo
      have hlo2 := hM.lo2
      have ne := hM.ne
      have ne1 : ¬ S = w.heap.size + 1 + 1 := by omega
      have ne2 : ¬ w.heap.size + 1 + 1 = S := by omega
      have ne3 : ¬ T = w.heap.size + 1 + 1 := by omega
      have ne4 : ¬ w.heap.size + 1 + 1 = T := by omega
      have ne5 : ¬ S = w.heap.size := by omega
      have ne6 : ¬ w.heap.size = S := by omega
      have ne7 : ¬ T = w.heap.size := by omega
      have ne8 : ¬ w.heap.size = T := by omega
      have ne9 : ¬ T = S := by omega
      have neA : ¬ S = T := by omega
      clear hM ne
      by_cases hend : K = Lb
      · subst hend
        have e : o = R := by rw [← Hacc.out, Nat.div_eq_of_lt Hlt.out, accE_zero]
        subst e
        have B3 := HM.out.rs
        have hE := HM.out.ext
        have d0 := (B3 0 _ rfl).1
        have d1 := (B3 1 _ rfl).1
        have z0 := (B3 0 _ rfl).2
        have z1 := (B3 1 _ rfl).2
        go_wp2
        obtain ⟨W, hW⟩ : ∃ W, putL (w.heap.size + 1 + 1) 0 [.int .i64 o.x, .int .i64 o.y] wr = W := ⟨_, rfl⟩
        have BW := Blk.put B3 [.int .i64 o.x, .int .i64 o.y] rfl
        rw [hW] at BW
        have hF : Ext w W := hW ▸ hE.putL (by omega) _
        simp only [putL, Nat.zero_add] at hW
        simp only [hW]
        have q0 := (BW 0 _ rfl).1
        have q1 := (BW 1 _ rfl).1
        refine bodyPost_ret (v := .agg #[.int .i64 o.x, .int .i64 o.y]) (by simp [results, Tryz.results227, go_sem, q0, q1]) rfl ⟨rfl, hF⟩
      · have hlt : (K : Int) < (Lb : Int) := by omega
        obtain ⟨f', hf'⟩ : ∃ f', 64 - K = f' + 1 := ⟨63 - K, by omega⟩
        have Hac : Hid (accE P.toNat D (64 - (K + 1)) (n / 2 ^ (K + 1)) (if n / 2 ^ K % 2 = 1 then addE P.toNat D o b else o) (addE P.toNat D b b) = R) := by
          have := Hacc.out
          rw [hf', accE] at this
          rw [show 64 - (K + 1) = f' by omega, Nat.pow_succ, ← Nat.div_div_eq_div_mul]
          exact this
        have Hbb := hide (Hin.out b b hb hb)
        clear Hacc hf'
        by_cases hodd : n / 2 ^ K % 2 = 1
        · have hbt : (bits .and .i64 ((n : Int) / 2 ^ K) 1 == 1) = true := by rw [bit_test]; simpa using hodd
          have Hob := hide (Hin.out o b ho hb)
          have Ha2 : Hid (accE P.toNat D (64 - (K + 1)) (n / 2 ^ (K + 1)) (addE P.toNat D o b) (addE P.toNat D b b) = R) := by have := Hac.out; rwa [if_pos hodd] at this
          clear Hac hodd
          go_wp2_with fail
          refine (Hadd.out o b _ ho hb).mono ?_
          rintro e w3 ⟨rfl, hw3⟩
          generalize addE P.toNat D o b = c at *
          have M1 := HM.out.call hw3
          have HM1 := hide M1
          clear hw3 HM g0 g1 g2 g3 g4 g5 g6 g7 g8 o0 o1 y0 y1 b0 b1 x0 x1
          have KG := M1.gr
          have KO := M1.ot
          have KB := M1.pt
          have g0 := (KG 0 _ rfl).1
          have g1 := (KG 1 _ rfl).1
          have g2 := (KG 2 _ rfl).1
          have g3 := (KG 3 _ rfl).1
          have g4 := (KG 4 _ rfl).1
          have g5 := (KG 5 _ rfl).1
          have g6 := (KG 6 _ rfl).1
          have g7 := (KG 7 _ rfl).1
          have g8 := (KG 8 _ rfl).1
          have o0 := (KO 0 _ rfl).1
          have o1 := (KO 1 _ rfl).1
          have y0 := (KO 0 _ rfl).2
          have y1 := (KO 1 _ rfl).2
          have b0 := (KB 0 _ rfl).1
          have b1 := (KB 1 _ rfl).1
          have x0 := (KB 0 _ rfl).2
          have x1 := (KB 1 _ rfl).2
          clear KG KO KB
          clear M1
          go_wp2_with fail
          refine (Hadd.out b b _ hb hb).mono ?_
          rintro e w4 ⟨rfl, hw4⟩
          generalize addE P.toNat D b b = d at *
          have M2 := (HM1.out.putO c).call hw4
          have HM2 := hide M2
          clear hw4 HM1 g0 g1 g2 g3 g4 g5 g6 g7 g8 o0 o1 y0 y1 b0 b1 x0 x1
          have KG := M2.gr
          have KO := M2.ot
          have KB := M2.pt
          have g0 := (KG 0 _ rfl).1
          have g1 := (KG 1 _ rfl).1
          have g2 := (KG 2 _ rfl).1
          have g3 := (KG 3 _ rfl).1
          have g4 := (KG 4 _ rfl).1
          have g5 := (KG 5 _ rfl).1
          have g6 := (KG 6 _ rfl).1
          have g7 := (KG 7 _ rfl).1
          have g8 := (KG 8 _ rfl).1
          have o0 := (KO 0 _ rfl).1
          have o1 := (KO 1 _ rfl).1
          have y0 := (KO 0 _ rfl).2
          have y1 := (KO 1 _ rfl).2
          have b0 := (KB 0 _ rfl).1
          have b1 := (KB 1 _ rfl).1
          have x0 := (KB 0 _ rfl).2
          have x1 := (KB 1 _ rfl).2
          clear KG KO KB
          clear M2
          go_wp2
          go_roundw
          case rel => exact ⟨K + 1, c, d, by go_num, by omega, Hob.out, Hbb.out, Ha2.out, HM2.out.putB d⟩
          case measure => simp [intOf]; omega
        · have hbt : (bits .and .i64 ((n : Int) / 2 ^ K) 1 == 1) = false := by rw [bit_test]; simpa using hodd
          have Ha2 : Hid (accE P.toNat D (64 - (K + 1)) (n / 2 ^ (K + 1)) o (addE P.toNat D b b) = R) := by have := Hac.out; rwa [if_neg hodd] at this
          clear Hac hodd
          go_wp2_with fail
          refine (Hadd.out b b _ hb hb).mono ?_
          rintro e w4 ⟨rfl, hw4⟩
          generalize addE P.toNat D b b = d at *
          have M2 := HM.out.call hw4
          have HM2 := hide M2
          clear hw4 HM g0 g1 g2 g3 g4 g5 g6 g7 g8 o0 o1 y0 y1 b0 b1 x0 x1
          have KG := M2.gr
          have KO := M2.ot
          have KB := M2.pt
          have g0 := (KG 0 _ rfl).1
          have g1 := (KG 1 _ rfl).1
          have g2 := (KG 2 _ rfl).1
          have g3 := (KG 3 _ rfl).1
          have g4 := (KG 4 _ rfl).1
          have g5 := (KG 5 _ rfl).1
          have g6 := (KG 6 _ rfl).1
          have g7 := (KG 7 _ rfl).1
          have g8 := (KG 8 _ rfl).1
          have o0 := (KO 0 _ rfl).1
          have o1 := (KO 1 _ rfl).1
          have y0 := (KO 0 _ rfl).2
          have y1 := (KO 1 _ rfl).2
          have b0 := (KB 0 _ rfl).1
          have b1 := (KB 1 _ rfl).1
          have x0 := (KB 0 _ rfl).2
          have x1 := (KB 1 _ rfl).2
          clear KG KO KB
          clear M2
          go_wp2
          go_roundw
          case rel => exact ⟨K + 1, o, d, by go_num, by omega, ho, Hbb.out, Ha2.out, HM2.out.putB d⟩
          case measure => simp [intOf]; omega

theorem sepPr {bx cy : Int} (h : ¬ (bx = 0 ∧ cy = 1)) (w : World) : (binOp .neq 38 (.agg #[.int .i64 bx, .int .i64 cy]) (.agg #[.int .i64 0, .int .i64 1])).run Tryz.prog w = .ok (.bool true) w := nePr_yes h w

theorem samePr {bx cy : Int} (h : bx = 0 ∧ cy = 1) (w : World) : (binOp .neq 38 (.agg #[.int .i64 bx, .int .i64 cy]) (.agg #[.int .i64 0, .int .i64 1])).run Tryz.prog w = .ok (.bool false) w := nePr_no h w

theorem sameUnitPr (w : World) : (binOp .eql 38 (.agg #[.int .i64 0, .int .i64 1]) (.agg #[.int .i64 0, .int .i64 1])).run Tryz.prog w = .ok (.bool true) w := eqPr_yes w

theorem otherUnitPr {R : Pr} (h : R ≠ oneE) (w : World) : (binOp .eql 38 (.agg #[.int .i64 R.x, .int .i64 R.y]) (.agg #[.int .i64 0, .int .i64 1])).run Tryz.prog w = .ok (.bool false) w := eqPr_no h w

theorem EvNum.mulPr_on {P D L : Int} (h : EvNum P D L) {a : Pr} (ha : OnE P.toNat D a) {n : Nat} (hn : n ≤ 1099511627776) : OnE P.toNat D (mulE P.toNat D n a) := mulE_on h.edc (by omega) ha

theorem EvOk.parts {P D L bx cy : Int} (h : EvOk P D L bx cy) : OnE P.toNat D ⟨bx, cy⟩ ∧ ¬ (bx = 0 ∧ cy = 1) ∧ mulE P.toNat D L.toNat ⟨bx, cy⟩ = oneE := ⟨h.on, h.ne, h.fold⟩

theorem EvOk.of_parts {P D L bx cy : Int} (h : EvNum P D L) (k : OnE P.toNat D ⟨bx, cy⟩ ∧ ¬ (bx = 0 ∧ cy = 1) ∧ mulE P.toNat D L.toNat ⟨bx, cy⟩ = oneE) : EvOk P D L bx cy :=
  ⟨h.p13, h.pM, h.p8, h.pp, h.d2, h.d1, h.pw, h.l5, h.lM, h.lp, k.1, k.2.1, k.2.2⟩

set_option maxHeartbeats 1600000 in
set_option maxRecDepth 100000 in
theorem foldPr_no {P D L : Int} (bx cy : Int) (h : EvNum P D L) {a : Pr} (n : Int) (hn : ¬ (0 ≤ n ∧ n ≤ 1099511627776 ∧ OnE P.toNat D a)) (w : World) :
    Calls Tryz.prog 227 #[.agg #[.int .i64 0, .int .i64 1, .int .i64 bx, .int .i64 cy, .func (.func 166) #[.agg #[.int .i64 P, .int .i64 D, .int .i64 L, .int .i64 bx, .int .i64 cy]] #[], .func (.func 167) #[.agg #[.int .i64 P, .int .i64 D, .int .i64 L, .int .i64 bx, .int .i64 cy]] #[], .func (.func 168) #[.agg #[.int .i64 P, .int .i64 D, .int .i64 L, .int .i64 bx, .int .i64 cy]] #[], .func (.func 169) #[.agg #[.int .i64 P, .int .i64 D, .int .i64 L, .int .i64 bx, .int .i64 cy]] #[], .func (.func 170) #[] #[]], .int .i64 n, .agg #[.int .i64 a.x, .int .i64 a.y]] w fun e w' => e = .panicked [nrE] ∧ Ext w w' := by
  by_cases c1 : n < 0
  · clear hn h
    go_enter Tryz.func227, Tryz.ntmps227
    go_wp2_with fail
    refine (want_no _).mono ?_
    rintro r w' ⟨rfl, rfl⟩
    exact ⟨rfl, rfl, (box3 w [.int .i64 0, .int .i64 1, .int .i64 bx, .int .i64 cy, .func (.func 166) #[.agg #[.int .i64 P, .int .i64 D, .int .i64 L, .int .i64 bx, .int .i64 cy]] #[], .func (.func 167) #[.agg #[.int .i64 P, .int .i64 D, .int .i64 L, .int .i64 bx, .int .i64 cy]] #[], .func (.func 168) #[.agg #[.int .i64 P, .int .i64 D, .int .i64 L, .int .i64 bx, .int .i64 cy]] #[], .func (.func 169) #[.agg #[.int .i64 P, .int .i64 D, .int .i64 L, .int .i64 bx, .int .i64 cy]] #[], .func (.func 170) #[] #[]] [.int .i64 a.x, .int .i64 a.y] [.int .i64 0, .int .i64 0] 167 38 38 (Ext.refl _)).2.2.2.1⟩
  by_cases c2 : 1099511627776 < n
  · clear hn h
    have c3 : decide (n ≤ 1099511627776) = false := by simp; omega
    go_enter Tryz.func227, Tryz.ntmps227
    go_wp2_with fail
    refine (want_no _).mono ?_
    rintro r w' ⟨rfl, rfl⟩
    exact ⟨rfl, rfl, (box3 w [.int .i64 0, .int .i64 1, .int .i64 bx, .int .i64 cy, .func (.func 166) #[.agg #[.int .i64 P, .int .i64 D, .int .i64 L, .int .i64 bx, .int .i64 cy]] #[], .func (.func 167) #[.agg #[.int .i64 P, .int .i64 D, .int .i64 L, .int .i64 bx, .int .i64 cy]] #[], .func (.func 168) #[.agg #[.int .i64 P, .int .i64 D, .int .i64 L, .int .i64 bx, .int .i64 cy]] #[], .func (.func 169) #[.agg #[.int .i64 P, .int .i64 D, .int .i64 L, .int .i64 bx, .int .i64 cy]] #[], .func (.func 170) #[] #[]] [.int .i64 a.x, .int .i64 a.y] [.int .i64 0, .int .i64 0] 167 38 38 (Ext.refl _)).2.2.2.1⟩
  have HK := hide (knownPr_no bx cy h (fun k => hn ⟨by omega, by omega, k⟩))
  have n0 : 0 ≤ n := by omega
  have n2 : n ≤ 1099511627776 := by omega
  clear h hn c1 c2
  go_enter Tryz.func227, Tryz.ntmps227
  go_wp2_with fail
  refine (want_yes _).mono ?_
  rintro r w' ⟨rfl, rfl⟩
  obtain ⟨V, hV⟩ : ∃ V, ((w.alloc (.cells #[.int .i64 0, .int .i64 1, .int .i64 bx, .int .i64 cy, .func (.func 166) #[.agg #[.int .i64 P, .int .i64 D, .int .i64 L, .int .i64 bx, .int .i64 cy]] #[], .func (.func 167) #[.agg #[.int .i64 P, .int .i64 D, .int .i64 L, .int .i64 bx, .int .i64 cy]] #[], .func (.func 168) #[.agg #[.int .i64 P, .int .i64 D, .int .i64 L, .int .i64 bx, .int .i64 cy]] #[], .func (.func 169) #[.agg #[.int .i64 P, .int .i64 D, .int .i64 L, .int .i64 bx, .int .i64 cy]] #[], .func (.func 170) #[] #[]] 167)).alloc (.cells #[.int .i64 a.x, .int .i64 a.y] 38)).alloc (.cells #[.int .i64 0, .int .i64 0] 38) = V := ⟨_, rfl⟩
  obtain ⟨B1, B2, B3, hE, hz⟩ := box3 w [.int .i64 0, .int .i64 1, .int .i64 bx, .int .i64 cy, .func (.func 166) #[.agg #[.int .i64 P, .int .i64 D, .int .i64 L, .int .i64 bx, .int .i64 cy]] #[], .func (.func 167) #[.agg #[.int .i64 P, .int .i64 D, .int .i64 L, .int .i64 bx, .int .i64 cy]] #[], .func (.func 168) #[.agg #[.int .i64 P, .int .i64 D, .int .i64 L, .int .i64 bx, .int .i64 cy]] #[], .func (.func 169) #[.agg #[.int .i64 P, .int .i64 D, .int .i64 L, .int .i64 bx, .int .i64 cy]] #[], .func (.func 170) #[] #[]] [.int .i64 a.x, .int .i64 a.y] [.int .i64 0, .int .i64 0] 167 38 38 (hV ▸ Ext.refl _ : Ext (((w.alloc (.cells #[.int .i64 0, .int .i64 1, .int .i64 bx, .int .i64 cy, .func (.func 166) #[.agg #[.int .i64 P, .int .i64 D, .int .i64 L, .int .i64 bx, .int .i64 cy]] #[], .func (.func 167) #[.agg #[.int .i64 P, .int .i64 D, .int .i64 L, .int .i64 bx, .int .i64 cy]] #[], .func (.func 168) #[.agg #[.int .i64 P, .int .i64 D, .int .i64 L, .int .i64 bx, .int .i64 cy]] #[], .func (.func 169) #[.agg #[.int .i64 P, .int .i64 D, .int .i64 L, .int .i64 bx, .int .i64 cy]] #[], .func (.func 170) #[] #[]] 167)).alloc (.cells #[.int .i64 a.x, .int .i64 a.y] 38)).alloc (.cells #[.int .i64 0, .int .i64 0] 38)) V)
  simp only [hV]
  clear hV
  go_wp2
  obtain ⟨X, hX⟩ : ∃ X : Nat → Prop, X = fun _ => False := ⟨_, rfl⟩
  have x0 : ∀ k, k < V.heap.size → ¬ X k := fun k h => by rw [hX]; exact fun e => e
  clear hX
  have g0 := cell_reC (B1 0 _ rfl).1 (x0 _ (by first | omega | (simp only; omega)))
  have g1 := cell_reC (B1 1 _ rfl).1 (x0 _ (by first | omega | (simp only; omega)))
  have g2 := cell_reC (B1 2 _ rfl).1 (x0 _ (by first | omega | (simp only; omega)))
  have g3 := cell_reC (B1 3 _ rfl).1 (x0 _ (by first | omega | (simp only; omega)))
  have g4 := cell_reC (B1 4 _ rfl).1 (x0 _ (by first | omega | (simp only; omega)))
  have g5 := cell_reC (B1 5 _ rfl).1 (x0 _ (by first | omega | (simp only; omega)))
  have g6 := cell_reC (B1 6 _ rfl).1 (x0 _ (by first | omega | (simp only; omega)))
  have g7 := cell_reC (B1 7 _ rfl).1 (x0 _ (by first | omega | (simp only; omega)))
  have g8 := cell_reC (B1 8 _ rfl).1 (x0 _ (by first | omega | (simp only; omega)))
  have c0 := cell_reC (B2 0 _ rfl).1 (x0 _ (by first | omega | (simp only; omega)))
  have c1 := cell_reC (B2 1 _ rfl).1 (x0 _ (by first | omega | (simp only; omega)))
  refine anyK_begin X 9 rfl (by kernel_rfl) ?_
  refine anyK_take 0 4 5 rfl (by decide) (by kernel_rfl) (fun _ _ d _ _ h => by cases d <;> exact h) ?_
  repeat (refine headC_step (fun K hK => ?_); go_simp; first | (refine hK _ ?_; clear hK K) | (apply Exists.intro; refine ⟨fun _ => ?_, hK _ ?_⟩; (fail); clear hK K))
  refine headC_nil ?_
  clear g0 g1 g2 g3 g4 g5 g6 g7 g8 c0 c1
  refine anyK_all [4, 5, 6] (by kernel_rfl) (by simp) ?_
  intro i hi
  have hi' : i = 4 ∨ i = 5 ∨ i = 6 := by simpa using hi
  rcases hi' with rfl | rfl | rfl
  · refine stepK_run rfl ?_
    intro w2 h2 K hK
    go_simp
    refine (HK.out _).mono ?_
    rintro e w3 ⟨rfl, h3⟩
    exact ⟨rfl, rfl, (hE.trans h2).trans h3⟩
  · refine stepK_run rfl ?_
    intro w2 h2 K hK
    go_simp
    refine hK _ _ (.of_ext (h2.trans (Ext.alloc _ _))) ?_
    clear hK K
    refine anyK_two 4 6 (by kernel_rfl) ?_ ?_
    · refine stepK_run rfl ?_
      intro w3 h3 K hK
      go_simp
      refine (HK.out _).mono ?_
      rintro e w4 ⟨rfl, h4⟩
      exact ⟨rfl, rfl, (hE.trans ((h2.trans (Ext.alloc _ _)).trans h3)).trans h4⟩
    · refine stepK_run rfl ?_
      intro w3 h3 K hK
      go_simp
      refine hK _ _ (.of_ext (((h2.trans (Ext.alloc _ _)).trans h3).trans (Ext.alloc _ _))) ?_
      clear hK K
      refine anyK_one 4 (by kernel_rfl) ?_
      refine stepK_run rfl ?_
      intro w4 h4 K hK
      go_simp
      refine (HK.out _).mono ?_
      rintro e w5 ⟨rfl, h5⟩
      exact ⟨rfl, rfl, (hE.trans ((((h2.trans (Ext.alloc _ _)).trans h3).trans (Ext.alloc _ _)).trans h4)).trans h5⟩
  · refine stepK_run rfl ?_
    intro w2 h2 K hK
    go_simp
    refine hK _ _ (.of_ext (h2.trans (Ext.alloc _ _))) ?_
    clear hK K
    refine anyK_two 4 5 (by kernel_rfl) ?_ ?_
    · refine stepK_run rfl ?_
      intro w3 h3 K hK
      go_simp
      refine (HK.out _).mono ?_
      rintro e w4 ⟨rfl, h4⟩
      exact ⟨rfl, rfl, (hE.trans ((h2.trans (Ext.alloc _ _)).trans h3)).trans h4⟩
    · refine stepK_run rfl ?_
      intro w3 h3 K hK
      go_simp
      refine hK _ _ (.of_ext (((h2.trans (Ext.alloc _ _)).trans h3).trans (Ext.alloc _ _))) ?_
      clear hK K
      refine anyK_one 4 (by kernel_rfl) ?_
      refine stepK_run rfl ?_
      intro w4 h4 K hK
      go_simp
      refine (HK.out _).mono ?_
      rintro e w5 ⟨rfl, h5⟩
      exact ⟨rfl, rfl, (hE.trans ((((h2.trans (Ext.alloc _ _)).trans h3).trans (Ext.alloc _ _)).trans h4)).trans h5⟩

theorem want_ext (w : World) : Calls Tryz.prog 54 #[.bool true] w fun e w' => e = .returned (.tuple #[]) ∧ Ext w w' := (want_yes w).mono fun e w' k => ⟨k.1, k.2 ▸ Ext.refl _⟩

set_option maxHeartbeats 1600000 in
set_option maxRecDepth 100000 in
theorem genPr_yes {P D L : Int} (bx cy : Int) (h : EvNum P D L) (m : Nat) (m1 : m ≤ 1099511627776) (hp : OnE P.toNat D ⟨bx, cy⟩ ∧ ¬ (bx = 0 ∧ cy = 1) ∧ mulE P.toNat D m ⟨bx, cy⟩ = oneE) (w : World) :
    Calls Tryz.prog 171 #[.agg #[.int .i64 0, .int .i64 1, .int .i64 bx, .int .i64 cy, .func (.func 166) #[.agg #[.int .i64 P, .int .i64 D, .int .i64 L, .int .i64 bx, .int .i64 cy]] #[], .func (.func 167) #[.agg #[.int .i64 P, .int .i64 D, .int .i64 L, .int .i64 bx, .int .i64 cy]] #[], .func (.func 168) #[.agg #[.int .i64 P, .int .i64 D, .int .i64 L, .int .i64 bx, .int .i64 cy]] #[], .func (.func 169) #[.agg #[.int .i64 P, .int .i64 D, .int .i64 L, .int .i64 bx, .int .i64 cy]] #[], .func (.func 170) #[] #[]], .int .i64 m] w fun e w' => e = .returned (.agg #[.int .i64 0, .int .i64 1, .int .i64 bx, .int .i64 cy, .func (.func 166) #[.agg #[.int .i64 P, .int .i64 D, .int .i64 L, .int .i64 bx, .int .i64 cy]] #[], .func (.func 167) #[.agg #[.int .i64 P, .int .i64 D, .int .i64 L, .int .i64 bx, .int .i64 cy]] #[], .func (.func 168) #[.agg #[.int .i64 P, .int .i64 D, .int .i64 L, .int .i64 bx, .int .i64 cy]] #[], .func (.func 169) #[.agg #[.int .i64 P, .int .i64 D, .int .i64 L, .int .i64 bx, .int .i64 cy]] #[], .func (.func 170) #[] #[]]) ∧ Ext w w' := by
  have HF : Hid (∀ w : World, Calls Tryz.prog 227 #[.agg #[.int .i64 0, .int .i64 1, .int .i64 bx, .int .i64 cy, .func (.func 166) #[.agg #[.int .i64 P, .int .i64 D, .int .i64 L, .int .i64 bx, .int .i64 cy]] #[], .func (.func 167) #[.agg #[.int .i64 P, .int .i64 D, .int .i64 L, .int .i64 bx, .int .i64 cy]] #[], .func (.func 168) #[.agg #[.int .i64 P, .int .i64 D, .int .i64 L, .int .i64 bx, .int .i64 cy]] #[], .func (.func 169) #[.agg #[.int .i64 P, .int .i64 D, .int .i64 L, .int .i64 bx, .int .i64 cy]] #[], .func (.func 170) #[] #[]], .int .i64 m, .agg #[.int .i64 bx, .int .i64 cy]] w fun e w' => e = .returned (.agg #[.int .i64 0, .int .i64 1]) ∧ Ext w w') := fun w => foldPr_yes bx cy h (a := ⟨bx, cy⟩) (R := oneE) hp.1 m m1 hp.2.2 w
  have u1 := sepPr hp.2.1
  have u2 := sameUnitPr
  clear h hp
  go_enter Tryz.func171, Tryz.ntmps171
  go_wp2
  obtain ⟨V, hV⟩ : ∃ V, (w.alloc (.cells #[.int .i64 0, .int .i64 1, .int .i64 bx, .int .i64 cy, .func (.func 166) #[.agg #[.int .i64 P, .int .i64 D, .int .i64 L, .int .i64 bx, .int .i64 cy]] #[], .func (.func 167) #[.agg #[.int .i64 P, .int .i64 D, .int .i64 L, .int .i64 bx, .int .i64 cy]] #[], .func (.func 168) #[.agg #[.int .i64 P, .int .i64 D, .int .i64 L, .int .i64 bx, .int .i64 cy]] #[], .func (.func 169) #[.agg #[.int .i64 P, .int .i64 D, .int .i64 L, .int .i64 bx, .int .i64 cy]] #[], .func (.func 170) #[] #[]] 167)).alloc (.cells #[.int .i64 0, .int .i64 0, .int .i64 0, .int .i64 0, .nilFunc, .nilFunc, .nilFunc, .nilFunc, .nilFunc] 167) = V := ⟨_, rfl⟩
  obtain ⟨B1, B2, hE, hz⟩ := box2 w [.int .i64 0, .int .i64 1, .int .i64 bx, .int .i64 cy, .func (.func 166) #[.agg #[.int .i64 P, .int .i64 D, .int .i64 L, .int .i64 bx, .int .i64 cy]] #[], .func (.func 167) #[.agg #[.int .i64 P, .int .i64 D, .int .i64 L, .int .i64 bx, .int .i64 cy]] #[], .func (.func 168) #[.agg #[.int .i64 P, .int .i64 D, .int .i64 L, .int .i64 bx, .int .i64 cy]] #[], .func (.func 169) #[.agg #[.int .i64 P, .int .i64 D, .int .i64 L, .int .i64 bx, .int .i64 cy]] #[], .func (.func 170) #[] #[]] [.int .i64 0, .int .i64 0, .int .i64 0, .int .i64 0, .nilFunc, .nilFunc, .nilFunc, .nilFunc, .nilFunc] 167 167 (hV ▸ Ext.refl _ : Ext ((w.alloc (.cells #[.int .i64 0, .int .i64 1, .int .i64 bx, .int .i64 cy, .func (.func 166) #[.agg #[.int .i64 P, .int .i64 D, .int .i64 L, .int .i64 bx, .int .i64 cy]] #[], .func (.func 167) #[.agg #[.int .i64 P, .int .i64 D, .int .i64 L, .int .i64 bx, .int .i64 cy]] #[], .func (.func 168) #[.agg #[.int .i64 P, .int .i64 D, .int .i64 L, .int .i64 bx, .int .i64 cy]] #[], .func (.func 169) #[.agg #[.int .i64 P, .int .i64 D, .int .i64 L, .int .i64 bx, .int .i64 cy]] #[], .func (.func 170) #[] #[]] 167)).alloc (.cells #[.int .i64 0, .int .i64 0, .int .i64 0, .int .i64 0, .nilFunc, .nilFunc, .nilFunc, .nilFunc, .nilFunc] 167)) V)
  simp only [hV]
  clear hV
  obtain ⟨X, hX⟩ : ∃ X : Nat → Prop, X = fun _ => False := ⟨_, rfl⟩
  have x0 : ∀ k, k < V.heap.size → ¬ X k := fun k h => by rw [hX]; exact fun e => e
  clear hX
  have g0 := cell_reC (B1 0 _ rfl).1 (x0 _ (by first | omega | (simp only; omega)))
  have g1 := cell_reC (B1 1 _ rfl).1 (x0 _ (by first | omega | (simp only; omega)))
  have g2 := cell_reC (B1 2 _ rfl).1 (x0 _ (by first | omega | (simp only; omega)))
  have g3 := cell_reC (B1 3 _ rfl).1 (x0 _ (by first | omega | (simp only; omega)))
  have g4 := cell_reC (B1 4 _ rfl).1 (x0 _ (by first | omega | (simp only; omega)))
  have g5 := cell_reC (B1 5 _ rfl).1 (x0 _ (by first | omega | (simp only; omega)))
  have g6 := cell_reC (B1 6 _ rfl).1 (x0 _ (by first | omega | (simp only; omega)))
  have g7 := cell_reC (B1 7 _ rfl).1 (x0 _ (by first | omega | (simp only; omega)))
  have g8 := cell_reC (B1 8 _ rfl).1 (x0 _ (by first | omega | (simp only; omega)))
  refine anyK_begin X 16 rfl (by kernel_rfl) ?_
  refine anyK_take 0 16 0 rfl (by decide) (by kernel_rfl) (fun _ _ d _ _ h => by cases d <;> exact h) ?_
  repeat (refine headC_step (fun K hK => ?_); go_simp; first | (refine hK _ ?_; clear hK K) | (apply Exists.intro; refine ⟨fun _ => ?_, hK _ ?_⟩; (first | (go_at_call 227; exact Calls.re_of (HF.out _)) | (go_at_call 54; exact Calls.re_of (want_ext _))); clear hK K))
  refine headC_nil ?_
  clear g0 g1 g2 g3 g4 g5 g6 g7 g8
  refine anyK_done (by kernel_rfl) ?_ 0
  intro w1 h1
  have C1 := B1.ext h1 (by omega)
  have C2 := B2.ext h1 (by omega)
  have hE1 := hE.trans h1
  clear B1 B2 h1 x0 u1 u2 HF
  have g0 := (C1 0 _ rfl).1
  have g1 := (C1 1 _ rfl).1
  have g2 := (C1 2 _ rfl).1
  have g3 := (C1 3 _ rfl).1
  have g4 := (C1 4 _ rfl).1
  have g5 := (C1 5 _ rfl).1
  have g6 := (C1 6 _ rfl).1
  have g7 := (C1 7 _ rfl).1
  have g8 := (C1 8 _ rfl).1
  have d0 := (C2 0 _ rfl).1
  have d1 := (C2 1 _ rfl).1
  have d2 := (C2 2 _ rfl).1
  have d3 := (C2 3 _ rfl).1
  have d4 := (C2 4 _ rfl).1
  have d5 := (C2 5 _ rfl).1
  have d6 := (C2 6 _ rfl).1
  have d7 := (C2 7 _ rfl).1
  have d8 := (C2 8 _ rfl).1
  have z0 := (C2 0 _ rfl).2
  have z1 := (C2 1 _ rfl).2
  have z2 := (C2 2 _ rfl).2
  have z3 := (C2 3 _ rfl).2
  have z4 := (C2 4 _ rfl).2
  have z5 := (C2 5 _ rfl).2
  have z6 := (C2 6 _ rfl).2
  have z7 := (C2 7 _ rfl).2
  have z8 := (C2 8 _ rfl).2
  go_wp2
  obtain ⟨W, hW⟩ : ∃ W, putL (w.heap.size + 1) 0 [.int .i64 0, .int .i64 1, .int .i64 bx, .int .i64 cy, .func (.func 166) #[.agg #[.int .i64 P, .int .i64 D, .int .i64 L, .int .i64 bx, .int .i64 cy]] #[], .func (.func 167) #[.agg #[.int .i64 P, .int .i64 D, .int .i64 L, .int .i64 bx, .int .i64 cy]] #[], .func (.func 168) #[.agg #[.int .i64 P, .int .i64 D, .int .i64 L, .int .i64 bx, .int .i64 cy]] #[], .func (.func 169) #[.agg #[.int .i64 P, .int .i64 D, .int .i64 L, .int .i64 bx, .int .i64 cy]] #[], .func (.func 170) #[] #[]] w1 = W := ⟨_, rfl⟩
  have BW := Blk.put C2 [.int .i64 0, .int .i64 1, .int .i64 bx, .int .i64 cy, .func (.func 166) #[.agg #[.int .i64 P, .int .i64 D, .int .i64 L, .int .i64 bx, .int .i64 cy]] #[], .func (.func 167) #[.agg #[.int .i64 P, .int .i64 D, .int .i64 L, .int .i64 bx, .int .i64 cy]] #[], .func (.func 168) #[.agg #[.int .i64 P, .int .i64 D, .int .i64 L, .int .i64 bx, .int .i64 cy]] #[], .func (.func 169) #[.agg #[.int .i64 P, .int .i64 D, .int .i64 L, .int .i64 bx, .int .i64 cy]] #[], .func (.func 170) #[] #[]] rfl
  rw [hW] at BW
  have hF : Ext w W := hW ▸ hE1.putL (by omega) _
  simp only [putL, Nat.zero_add, Nat.reduceAdd] at hW
  simp only [hW]
  have q0 := (BW 0 _ rfl).1
  have q1 := (BW 1 _ rfl).1
  have q2 := (BW 2 _ rfl).1
  have q3 := (BW 3 _ rfl).1
  have q4 := (BW 4 _ rfl).1
  have q5 := (BW 5 _ rfl).1
  have q6 := (BW 6 _ rfl).1
  have q7 := (BW 7 _ rfl).1
  have q8 := (BW 8 _ rfl).1
  refine bodyPost_ret (v := .agg #[.int .i64 0, .int .i64 1, .int .i64 bx, .int .i64 cy, .func (.func 166) #[.agg #[.int .i64 P, .int .i64 D, .int .i64 L, .int .i64 bx, .int .i64 cy]] #[], .func (.func 167) #[.agg #[.int .i64 P, .int .i64 D, .int .i64 L, .int .i64 bx, .int .i64 cy]] #[], .func (.func 168) #[.agg #[.int .i64 P, .int .i64 D, .int .i64 L, .int .i64 bx, .int .i64 cy]] #[], .func (.func 169) #[.agg #[.int .i64 P, .int .i64 D, .int .i64 L, .int .i64 bx, .int .i64 cy]] #[], .func (.func 170) #[] #[]]) (by simp [results, Tryz.results171, go_sem, q0, q1, q2, q3, q4, q5, q6, q7, q8]) rfl ⟨rfl, hF⟩

set_option maxHeartbeats 1600000 in
set_option maxRecDepth 100000 in
theorem genPr_off {P D L : Int} (bx cy : Int) (h : EvNum P D L) (m : Nat) (m1 : m ≤ 1099511627776) (hb : ¬ OnE P.toNat D ⟨bx, cy⟩) (w : World) :
    Calls Tryz.prog 171 #[.agg #[.int .i64 0, .int .i64 1, .int .i64 bx, .int .i64 cy, .func (.func 166) #[.agg #[.int .i64 P, .int .i64 D, .int .i64 L, .int .i64 bx, .int .i64 cy]] #[], .func (.func 167) #[.agg #[.int .i64 P, .int .i64 D, .int .i64 L, .int .i64 bx, .int .i64 cy]] #[], .func (.func 168) #[.agg #[.int .i64 P, .int .i64 D, .int .i64 L, .int .i64 bx, .int .i64 cy]] #[], .func (.func 169) #[.agg #[.int .i64 P, .int .i64 D, .int .i64 L, .int .i64 bx, .int .i64 cy]] #[], .func (.func 170) #[] #[]], .int .i64 m] w fun e w' => e = .panicked [nrE] ∧ Ext w w' := by
  have HF : Hid (∀ w : World, Calls Tryz.prog 227 #[.agg #[.int .i64 0, .int .i64 1, .int .i64 bx, .int .i64 cy, .func (.func 166) #[.agg #[.int .i64 P, .int .i64 D, .int .i64 L, .int .i64 bx, .int .i64 cy]] #[], .func (.func 167) #[.agg #[.int .i64 P, .int .i64 D, .int .i64 L, .int .i64 bx, .int .i64 cy]] #[], .func (.func 168) #[.agg #[.int .i64 P, .int .i64 D, .int .i64 L, .int .i64 bx, .int .i64 cy]] #[], .func (.func 169) #[.agg #[.int .i64 P, .int .i64 D, .int .i64 L, .int .i64 bx, .int .i64 cy]] #[], .func (.func 170) #[] #[]], .int .i64 m, .agg #[.int .i64 bx, .int .i64 cy]] w fun e w' => e = .panicked [nrE] ∧ Ext w w') := fun w => foldPr_no bx cy h (a := ⟨bx, cy⟩) m (fun k => hb k.2.2) w
  have u1 := sepPr (fun (e : bx = 0 ∧ cy = 1) => hb (by rw [e.1, e.2]; exact EvNum.unitPr_on h))
  clear h hb
  go_enter Tryz.func171, Tryz.ntmps171
  go_wp2
  obtain ⟨V, hV⟩ : ∃ V, (w.alloc (.cells #[.int .i64 0, .int .i64 1, .int .i64 bx, .int .i64 cy, .func (.func 166) #[.agg #[.int .i64 P, .int .i64 D, .int .i64 L, .int .i64 bx, .int .i64 cy]] #[], .func (.func 167) #[.agg #[.int .i64 P, .int .i64 D, .int .i64 L, .int .i64 bx, .int .i64 cy]] #[], .func (.func 168) #[.agg #[.int .i64 P, .int .i64 D, .int .i64 L, .int .i64 bx, .int .i64 cy]] #[], .func (.func 169) #[.agg #[.int .i64 P, .int .i64 D, .int .i64 L, .int .i64 bx, .int .i64 cy]] #[], .func (.func 170) #[] #[]] 167)).alloc (.cells #[.int .i64 0, .int .i64 0, .int .i64 0, .int .i64 0, .nilFunc, .nilFunc, .nilFunc, .nilFunc, .nilFunc] 167) = V := ⟨_, rfl⟩
  obtain ⟨B1, B2, hE, hz⟩ := box2 w [.int .i64 0, .int .i64 1, .int .i64 bx, .int .i64 cy, .func (.func 166) #[.agg #[.int .i64 P, .int .i64 D, .int .i64 L, .int .i64 bx, .int .i64 cy]] #[], .func (.func 167) #[.agg #[.int .i64 P, .int .i64 D, .int .i64 L, .int .i64 bx, .int .i64 cy]] #[], .func (.func 168) #[.agg #[.int .i64 P, .int .i64 D, .int .i64 L, .int .i64 bx, .int .i64 cy]] #[], .func (.func 169) #[.agg #[.int .i64 P, .int .i64 D, .int .i64 L, .int .i64 bx, .int .i64 cy]] #[], .func (.func 170) #[] #[]] [.int .i64 0, .int .i64 0, .int .i64 0, .int .i64 0, .nilFunc, .nilFunc, .nilFunc, .nilFunc, .nilFunc] 167 167 (hV ▸ Ext.refl _ : Ext ((w.alloc (.cells #[.int .i64 0, .int .i64 1, .int .i64 bx, .int .i64 cy, .func (.func 166) #[.agg #[.int .i64 P, .int .i64 D, .int .i64 L, .int .i64 bx, .int .i64 cy]] #[], .func (.func 167) #[.agg #[.int .i64 P, .int .i64 D, .int .i64 L, .int .i64 bx, .int .i64 cy]] #[], .func (.func 168) #[.agg #[.int .i64 P, .int .i64 D, .int .i64 L, .int .i64 bx, .int .i64 cy]] #[], .func (.func 169) #[.agg #[.int .i64 P, .int .i64 D, .int .i64 L, .int .i64 bx, .int .i64 cy]] #[], .func (.func 170) #[] #[]] 167)).alloc (.cells #[.int .i64 0, .int .i64 0, .int .i64 0, .int .i64 0, .nilFunc, .nilFunc, .nilFunc, .nilFunc, .nilFunc] 167)) V)
  simp only [hV]
  clear hV
  obtain ⟨X, hX⟩ : ∃ X : Nat → Prop, X = fun _ => False := ⟨_, rfl⟩
  have x0 : ∀ k, k < V.heap.size → ¬ X k := fun k h => by rw [hX]; exact fun e => e
  clear hX
  have g0 := cell_reC (B1 0 _ rfl).1 (x0 _ (by first | omega | (simp only; omega)))
  have g1 := cell_reC (B1 1 _ rfl).1 (x0 _ (by first | omega | (simp only; omega)))
  have g2 := cell_reC (B1 2 _ rfl).1 (x0 _ (by first | omega | (simp only; omega)))
  have g3 := cell_reC (B1 3 _ rfl).1 (x0 _ (by first | omega | (simp only; omega)))
  have g4 := cell_reC (B1 4 _ rfl).1 (x0 _ (by first | omega | (simp only; omega)))
  have g5 := cell_reC (B1 5 _ rfl).1 (x0 _ (by first | omega | (simp only; omega)))
  have g6 := cell_reC (B1 6 _ rfl).1 (x0 _ (by first | omega | (simp only; omega)))
  have g7 := cell_reC (B1 7 _ rfl).1 (x0 _ (by first | omega | (simp only; omega)))
  have g8 := cell_reC (B1 8 _ rfl).1 (x0 _ (by first | omega | (simp only; omega)))
  refine anyK_begin X 16 rfl (by kernel_rfl) ?_
  refine anyK_take 0 10 6 rfl (by decide) (by kernel_rfl) (fun _ _ d _ _ h => by cases d <;> exact h) ?_
  repeat (refine headC_step (fun K hK => ?_); go_simp; first | (refine hK _ ?_; clear hK K) | (apply Exists.intro; refine ⟨fun _ => ?_, hK _ ?_⟩; (fail); clear hK K))
  refine headC_nil ?_
  refine anyK_take 11 2 4 rfl (by decide) (by kernel_rfl) (fun _ _ d _ _ h => by cases d <;> exact h) ?_
  repeat (refine headC_step (fun K hK => ?_); go_simp; first | (refine hK _ ?_; clear hK K) | (apply Exists.intro; refine ⟨fun _ => ?_, hK _ ?_⟩; (fail); clear hK K))
  refine headC_nil ?_
  clear g0 g1 g2 g3 g4 g5 g6 g7 g8
  refine anyK_one 10 (by kernel_rfl) ?_
  refine stepK_run rfl ?_
  intro w2 h2 K hK
  go_simp
  refine (HF.out _).mono ?_
  rintro e w3 ⟨rfl, h3⟩
  exact ⟨rfl, rfl, (hE.trans h2).trans h3⟩

set_option maxHeartbeats 1600000 in
set_option maxRecDepth 100000 in
theorem genPr_other {P D L : Int} (bx cy : Int) (h : EvNum P D L) (m : Nat) (m1 : m ≤ 1099511627776) (hb : OnE P.toNat D ⟨bx, cy⟩) (hne : ¬ (bx = 0 ∧ cy = 1)) (hR : mulE P.toNat D m ⟨bx, cy⟩ ≠ oneE) (w : World) :
    Calls Tryz.prog 171 #[.agg #[.int .i64 0, .int .i64 1, .int .i64 bx, .int .i64 cy, .func (.func 166) #[.agg #[.int .i64 P, .int .i64 D, .int .i64 L, .int .i64 bx, .int .i64 cy]] #[], .func (.func 167) #[.agg #[.int .i64 P, .int .i64 D, .int .i64 L, .int .i64 bx, .int .i64 cy]] #[], .func (.func 168) #[.agg #[.int .i64 P, .int .i64 D, .int .i64 L, .int .i64 bx, .int .i64 cy]] #[], .func (.func 169) #[.agg #[.int .i64 P, .int .i64 D, .int .i64 L, .int .i64 bx, .int .i64 cy]] #[], .func (.func 170) #[] #[]], .int .i64 m] w fun e w' => e = .panicked [nrE] ∧ Ext w w' := by
  have HF : Hid (∀ w : World, Calls Tryz.prog 227 #[.agg #[.int .i64 0, .int .i64 1, .int .i64 bx, .int .i64 cy, .func (.func 166) #[.agg #[.int .i64 P, .int .i64 D, .int .i64 L, .int .i64 bx, .int .i64 cy]] #[], .func (.func 167) #[.agg #[.int .i64 P, .int .i64 D, .int .i64 L, .int .i64 bx, .int .i64 cy]] #[], .func (.func 168) #[.agg #[.int .i64 P, .int .i64 D, .int .i64 L, .int .i64 bx, .int .i64 cy]] #[], .func (.func 169) #[.agg #[.int .i64 P, .int .i64 D, .int .i64 L, .int .i64 bx, .int .i64 cy]] #[], .func (.func 170) #[] #[]], .int .i64 m, .agg #[.int .i64 bx, .int .i64 cy]] w fun e w' => e = .returned (.agg #[.int .i64 (mulE P.toNat D m ⟨bx, cy⟩).x, .int .i64 (mulE P.toNat D m ⟨bx, cy⟩).y]) ∧ Ext w w') := fun w => foldPr_yes bx cy h (a := ⟨bx, cy⟩) hb m m1 rfl w
  have u1 := sepPr hne
  have u2 := otherUnitPr hR
  clear h hb hR
  generalize mulE P.toNat D m ⟨bx, cy⟩ = R at *
  go_enter Tryz.func171, Tryz.ntmps171
  go_wp2
  obtain ⟨V, hV⟩ : ∃ V, (w.alloc (.cells #[.int .i64 0, .int .i64 1, .int .i64 bx, .int .i64 cy, .func (.func 166) #[.agg #[.int .i64 P, .int .i64 D, .int .i64 L, .int .i64 bx, .int .i64 cy]] #[], .func (.func 167) #[.agg #[.int .i64 P, .int .i64 D, .int .i64 L, .int .i64 bx, .int .i64 cy]] #[], .func (.func 168) #[.agg #[.int .i64 P, .int .i64 D, .int .i64 L, .int .i64 bx, .int .i64 cy]] #[], .func (.func 169) #[.agg #[.int .i64 P, .int .i64 D, .int .i64 L, .int .i64 bx, .int .i64 cy]] #[], .func (.func 170) #[] #[]] 167)).alloc (.cells #[.int .i64 0, .int .i64 0, .int .i64 0, .int .i64 0, .nilFunc, .nilFunc, .nilFunc, .nilFunc, .nilFunc] 167) = V := ⟨_, rfl⟩
  obtain ⟨B1, B2, hE, hz⟩ := box2 w [.int .i64 0, .int .i64 1, .int .i64 bx, .int .i64 cy, .func (.func 166) #[.agg #[.int .i64 P, .int .i64 D, .int .i64 L, .int .i64 bx, .int .i64 cy]] #[], .func (.func 167) #[.agg #[.int .i64 P, .int .i64 D, .int .i64 L, .int .i64 bx, .int .i64 cy]] #[], .func (.func 168) #[.agg #[.int .i64 P, .int .i64 D, .int .i64 L, .int .i64 bx, .int .i64 cy]] #[], .func (.func 169) #[.agg #[.int .i64 P, .int .i64 D, .int .i64 L, .int .i64 bx, .int .i64 cy]] #[], .func (.func 170) #[] #[]] [.int .i64 0, .int .i64 0, .int .i64 0, .int .i64 0, .nilFunc, .nilFunc, .nilFunc, .nilFunc, .nilFunc] 167 167 (hV ▸ Ext.refl _ : Ext ((w.alloc (.cells #[.int .i64 0, .int .i64 1, .int .i64 bx, .int .i64 cy, .func (.func 166) #[.agg #[.int .i64 P, .int .i64 D, .int .i64 L, .int .i64 bx, .int .i64 cy]] #[], .func (.func 167) #[.agg #[.int .i64 P, .int .i64 D, .int .i64 L, .int .i64 bx, .int .i64 cy]] #[], .func (.func 168) #[.agg #[.int .i64 P, .int .i64 D, .int .i64 L, .int .i64 bx, .int .i64 cy]] #[], .func (.func 169) #[.agg #[.int .i64 P, .int .i64 D, .int .i64 L, .int .i64 bx, .int .i64 cy]] #[], .func (.func 170) #[] #[]] 167)).alloc (.cells #[.int .i64 0, .int .i64 0, .int .i64 0, .int .i64 0, .nilFunc, .nilFunc, .nilFunc, .nilFunc, .nilFunc] 167)) V)
  simp only [hV]
  clear hV
  obtain ⟨X, hX⟩ : ∃ X : Nat → Prop, X = fun _ => False := ⟨_, rfl⟩
  have x0 : ∀ k, k < V.heap.size → ¬ X k := fun k h => by rw [hX]; exact fun e => e
  clear hX
  have g0 := cell_reC (B1 0 _ rfl).1 (x0 _ (by first | omega | (simp only; omega)))
  have g1 := cell_reC (B1 1 _ rfl).1 (x0 _ (by first | omega | (simp only; omega)))
  have g2 := cell_reC (B1 2 _ rfl).1 (x0 _ (by first | omega | (simp only; omega)))
  have g3 := cell_reC (B1 3 _ rfl).1 (x0 _ (by first | omega | (simp only; omega)))
  have g4 := cell_reC (B1 4 _ rfl).1 (x0 _ (by first | omega | (simp only; omega)))
  have g5 := cell_reC (B1 5 _ rfl).1 (x0 _ (by first | omega | (simp only; omega)))
  have g6 := cell_reC (B1 6 _ rfl).1 (x0 _ (by first | omega | (simp only; omega)))
  have g7 := cell_reC (B1 7 _ rfl).1 (x0 _ (by first | omega | (simp only; omega)))
  have g8 := cell_reC (B1 8 _ rfl).1 (x0 _ (by first | omega | (simp only; omega)))
  refine anyK_begin X 16 rfl (by kernel_rfl) ?_
  refine anyK_take 0 15 1 rfl (by decide) (by kernel_rfl) (fun _ _ d _ _ h => by cases d <;> exact h) ?_
  repeat (refine headC_step (fun K hK => ?_); go_simp; first | (refine hK _ ?_; clear hK K) | (apply Exists.intro; refine ⟨fun _ => ?_, hK _ ?_⟩; (exact Calls.re_of (HF.out _)); clear hK K))
  refine headC_nil ?_
  clear g0 g1 g2 g3 g4 g5 g6 g7 g8
  refine anyK_one 15 (by kernel_rfl) ?_
  refine stepK_run rfl ?_
  intro w2 h2 K hK
  go_simp
  refine (want_no _).mono ?_
  rintro e w3 ⟨rfl, rfl⟩
  exact ⟨rfl, rfl, hE.trans h2⟩

set_option maxHeartbeats 1600000 in
set_option maxRecDepth 100000 in
theorem genPr_unit {P D L : Int} (bx cy : Int) (h : EvNum P D L) (m : Nat) (m1 : m ≤ 1099511627776) (hne : bx = 0 ∧ cy = 1) (w : World) :
    Calls Tryz.prog 171 #[.agg #[.int .i64 0, .int .i64 1, .int .i64 bx, .int .i64 cy, .func (.func 166) #[.agg #[.int .i64 P, .int .i64 D, .int .i64 L, .int .i64 bx, .int .i64 cy]] #[], .func (.func 167) #[.agg #[.int .i64 P, .int .i64 D, .int .i64 L, .int .i64 bx, .int .i64 cy]] #[], .func (.func 168) #[.agg #[.int .i64 P, .int .i64 D, .int .i64 L, .int .i64 bx, .int .i64 cy]] #[], .func (.func 169) #[.agg #[.int .i64 P, .int .i64 D, .int .i64 L, .int .i64 bx, .int .i64 cy]] #[], .func (.func 170) #[] #[]], .int .i64 m] w fun e w' => e = .panicked [nrE] ∧ Ext w w' := by
  have u1 := samePr hne
  clear h hne
  go_enter Tryz.func171, Tryz.ntmps171
  go_wp2
  obtain ⟨V, hV⟩ : ∃ V, (w.alloc (.cells #[.int .i64 0, .int .i64 1, .int .i64 bx, .int .i64 cy, .func (.func 166) #[.agg #[.int .i64 P, .int .i64 D, .int .i64 L, .int .i64 bx, .int .i64 cy]] #[], .func (.func 167) #[.agg #[.int .i64 P, .int .i64 D, .int .i64 L, .int .i64 bx, .int .i64 cy]] #[], .func (.func 168) #[.agg #[.int .i64 P, .int .i64 D, .int .i64 L, .int .i64 bx, .int .i64 cy]] #[], .func (.func 169) #[.agg #[.int .i64 P, .int .i64 D, .int .i64 L, .int .i64 bx, .int .i64 cy]] #[], .func (.func 170) #[] #[]] 167)).alloc (.cells #[.int .i64 0, .int .i64 0, .int .i64 0, .int .i64 0, .nilFunc, .nilFunc, .nilFunc, .nilFunc, .nilFunc] 167) = V := ⟨_, rfl⟩
  obtain ⟨B1, B2, hE, hz⟩ := box2 w [.int .i64 0, .int .i64 1, .int .i64 bx, .int .i64 cy, .func (.func 166) #[.agg #[.int .i64 P, .int .i64 D, .int .i64 L, .int .i64 bx, .int .i64 cy]] #[], .func (.func 167) #[.agg #[.int .i64 P, .int .i64 D, .int .i64 L, .int .i64 bx, .int .i64 cy]] #[], .func (.func 168) #[.agg #[.int .i64 P, .int .i64 D, .int .i64 L, .int .i64 bx, .int .i64 cy]] #[], .func (.func 169) #[.agg #[.int .i64 P, .int .i64 D, .int .i64 L, .int .i64 bx, .int .i64 cy]] #[], .func (.func 170) #[] #[]] [.int .i64 0, .int .i64 0, .int .i64 0, .int .i64 0, .nilFunc, .nilFunc, .nilFunc, .nilFunc, .nilFunc] 167 167 (hV ▸ Ext.refl _ : Ext ((w.alloc (.cells #[.int .i64 0, .int .i64 1, .int .i64 bx, .int .i64 cy, .func (.func 166) #[.agg #[.int .i64 P, .int .i64 D, .int .i64 L, .int .i64 bx, .int .i64 cy]] #[], .func (.func 167) #[.agg #[.int .i64 P, .int .i64 D, .int .i64 L, .int .i64 bx, .int .i64 cy]] #[], .func (.func 168) #[.agg #[.int .i64 P, .int .i64 D, .int .i64 L, .int .i64 bx, .int .i64 cy]] #[], .func (.func 169) #[.agg #[.int .i64 P, .int .i64 D, .int .i64 L, .int .i64 bx, .int .i64 cy]] #[], .func (.func 170) #[] #[]] 167)).alloc (.cells #[.int .i64 0, .int .i64 0, .int .i64 0, .int .i64 0, .nilFunc, .nilFunc, .nilFunc, .nilFunc, .nilFunc] 167)) V)
  simp only [hV]
  clear hV
  obtain ⟨X, hX⟩ : ∃ X : Nat → Prop, X = fun _ => False := ⟨_, rfl⟩
  have x0 : ∀ k, k < V.heap.size → ¬ X k := fun k h => by rw [hX]; exact fun e => e
  clear hX
  have g0 := cell_reC (B1 0 _ rfl).1 (x0 _ (by first | omega | (simp only; omega)))
  have g1 := cell_reC (B1 1 _ rfl).1 (x0 _ (by first | omega | (simp only; omega)))
  have g2 := cell_reC (B1 2 _ rfl).1 (x0 _ (by first | omega | (simp only; omega)))
  have g3 := cell_reC (B1 3 _ rfl).1 (x0 _ (by first | omega | (simp only; omega)))
  have g4 := cell_reC (B1 4 _ rfl).1 (x0 _ (by first | omega | (simp only; omega)))
  have g5 := cell_reC (B1 5 _ rfl).1 (x0 _ (by first | omega | (simp only; omega)))
  have g6 := cell_reC (B1 6 _ rfl).1 (x0 _ (by first | omega | (simp only; omega)))
  have g7 := cell_reC (B1 7 _ rfl).1 (x0 _ (by first | omega | (simp only; omega)))
  have g8 := cell_reC (B1 8 _ rfl).1 (x0 _ (by first | omega | (simp only; omega)))
  refine anyK_begin X 16 rfl (by kernel_rfl) ?_
  refine anyK_take 0 15 1 rfl (by decide) (by kernel_rfl) (fun _ _ d _ _ h => by cases d <;> exact h) ?_
  repeat (refine headC_step (fun K hK => ?_); go_simp; first | (refine hK _ ?_; clear hK K) | (apply Exists.intro; refine ⟨fun _ => ?_, hK _ ?_⟩; (fail); clear hK K))
  refine headC_nil ?_
  clear g0 g1 g2 g3 g4 g5 g6 g7 g8
  refine anyK_one 15 (by kernel_rfl) ?_
  refine stepK_run rfl ?_
  intro w2 h2 K hK
  go_simp
  refine (want_no _).mono ?_
  rintro e w3 ⟨rfl, rfl⟩
  exact ⟨rfl, rfl, hE.trans h2⟩

theorem genPr_no {P D L : Int} (bx cy : Int) (h : EvNum P D L) (m : Nat) (m1 : m ≤ 1099511627776) (hn : ¬ (OnE P.toNat D ⟨bx, cy⟩ ∧ ¬ (bx = 0 ∧ cy = 1) ∧ mulE P.toNat D m ⟨bx, cy⟩ = oneE)) (w : World) :
    Calls Tryz.prog 171 #[.agg #[.int .i64 0, .int .i64 1, .int .i64 bx, .int .i64 cy, .func (.func 166) #[.agg #[.int .i64 P, .int .i64 D, .int .i64 L, .int .i64 bx, .int .i64 cy]] #[], .func (.func 167) #[.agg #[.int .i64 P, .int .i64 D, .int .i64 L, .int .i64 bx, .int .i64 cy]] #[], .func (.func 168) #[.agg #[.int .i64 P, .int .i64 D, .int .i64 L, .int .i64 bx, .int .i64 cy]] #[], .func (.func 169) #[.agg #[.int .i64 P, .int .i64 D, .int .i64 L, .int .i64 bx, .int .i64 cy]] #[], .func (.func 170) #[] #[]], .int .i64 m] w fun e w' => e = .panicked [nrE] ∧ Ext w w' := by
  by_cases hb : OnE P.toNat D ⟨bx, cy⟩
  · by_cases hne : bx = 0 ∧ cy = 1
    · exact genPr_unit bx cy h m m1 hne w
    exact genPr_other bx cy h m m1 hb hne (fun e => hn ⟨hb, hne, e⟩) w
  · exact genPr_off bx cy h m m1 hb w

set_option maxHeartbeats 1600000 in
set_option maxRecDepth 100000 in
theorem groupPr_yes (P D L bx cy : Int) (hk : EvOk P D L bx cy) (w : World) :
    Calls Tryz.prog 119 #[.agg #[.int .i64 P, .int .i64 D, .int .i64 L, .int .i64 bx, .int .i64 cy]] w fun e w' => e = .returned (.agg #[.int .i64 0, .int .i64 1, .int .i64 bx, .int .i64 cy, .func (.func 166) #[.agg #[.int .i64 P, .int .i64 D, .int .i64 L, .int .i64 bx, .int .i64 cy]] #[], .func (.func 167) #[.agg #[.int .i64 P, .int .i64 D, .int .i64 L, .int .i64 bx, .int .i64 cy]] #[], .func (.func 168) #[.agg #[.int .i64 P, .int .i64 D, .int .i64 L, .int .i64 bx, .int .i64 cy]] #[], .func (.func 169) #[.agg #[.int .i64 P, .int .i64 D, .int .i64 L, .int .i64 bx, .int .i64 cy]] #[], .func (.func 170) #[] #[]]) ∧ Ext w w' := by
  have hmf : ∀ (fn : Fn) (first cap : Array Value) (w : World), (Instr.makeFunc fn first cap).run Tryz.prog w = .ok (.func fn first cap) w := fun _ _ _ _ => rfl
  have HN := hide (numPr_yes bx cy (EvOk.num hk))
  have HG : Hid (∀ w : World, Calls Tryz.prog 171 #[.agg #[.int .i64 0, .int .i64 1, .int .i64 bx, .int .i64 cy, .func (.func 166) #[.agg #[.int .i64 P, .int .i64 D, .int .i64 L, .int .i64 bx, .int .i64 cy]] #[], .func (.func 167) #[.agg #[.int .i64 P, .int .i64 D, .int .i64 L, .int .i64 bx, .int .i64 cy]] #[], .func (.func 168) #[.agg #[.int .i64 P, .int .i64 D, .int .i64 L, .int .i64 bx, .int .i64 cy]] #[], .func (.func 169) #[.agg #[.int .i64 P, .int .i64 D, .int .i64 L, .int .i64 bx, .int .i64 cy]] #[], .func (.func 170) #[] #[]], .int .i64 L] w fun e w' => e = .returned (.agg #[.int .i64 0, .int .i64 1, .int .i64 bx, .int .i64 cy, .func (.func 166) #[.agg #[.int .i64 P, .int .i64 D, .int .i64 L, .int .i64 bx, .int .i64 cy]] #[], .func (.func 167) #[.agg #[.int .i64 P, .int .i64 D, .int .i64 L, .int .i64 bx, .int .i64 cy]] #[], .func (.func 168) #[.agg #[.int .i64 P, .int .i64 D, .int .i64 L, .int .i64 bx, .int .i64 cy]] #[], .func (.func 169) #[.agg #[.int .i64 P, .int .i64 D, .int .i64 L, .int .i64 bx, .int .i64 cy]] #[], .func (.func 170) #[] #[]]) ∧ Ext w w') := fun w => by
    have h := EvOk.num hk
    have h5 := h.l5; have hM := h.lM
    have := genPr_yes bx cy h L.toNat (by omega) (EvOk.parts hk) w
    rwa [show ((L.toNat : Nat) : Int) = L by omega] at this
  clear hk
  go_enter Tryz.func119, Tryz.ntmps119
  go_wp2_with fail
  refine (HN.out _).mono ?_
  rintro r w1 ⟨rfl, hw1⟩
  obtain ⟨B1, B2, hE, hz⟩ := box2 w [.int .i64 P, .int .i64 D, .int .i64 L, .int .i64 bx, .int .i64 cy] [.int .i64 0, .int .i64 0, .int .i64 0, .int .i64 0, .nilFunc, .nilFunc, .nilFunc, .nilFunc, .nilFunc] 37 167 hw1
  clear hw1
  go_wp2_with fail
  refine (want_yes _).mono ?_
  rintro r w' ⟨rfl, rfl⟩
  have D2 := B2.ext (Ext.alloc w' (.cells #[.int .i64 0, .int .i64 1, .int .i64 bx, .int .i64 cy, .func (.func 166) #[.agg #[.int .i64 P, .int .i64 D, .int .i64 L, .int .i64 bx, .int .i64 cy]] #[], .func (.func 167) #[.agg #[.int .i64 P, .int .i64 D, .int .i64 L, .int .i64 bx, .int .i64 cy]] #[], .func (.func 168) #[.agg #[.int .i64 P, .int .i64 D, .int .i64 L, .int .i64 bx, .int .i64 cy]] #[], .func (.func 169) #[.agg #[.int .i64 P, .int .i64 D, .int .i64 L, .int .i64 bx, .int .i64 cy]] #[], .func (.func 170) #[] #[]] 167)) (by omega)
  have BA := B1.ext (Ext.alloc w' (.cells #[.int .i64 0, .int .i64 1, .int .i64 bx, .int .i64 cy, .func (.func 166) #[.agg #[.int .i64 P, .int .i64 D, .int .i64 L, .int .i64 bx, .int .i64 cy]] #[], .func (.func 167) #[.agg #[.int .i64 P, .int .i64 D, .int .i64 L, .int .i64 bx, .int .i64 cy]] #[], .func (.func 168) #[.agg #[.int .i64 P, .int .i64 D, .int .i64 L, .int .i64 bx, .int .i64 cy]] #[], .func (.func 169) #[.agg #[.int .i64 P, .int .i64 D, .int .i64 L, .int .i64 bx, .int .i64 cy]] #[], .func (.func 170) #[] #[]] 167)) (by omega)
  have hE4 := hE.trans (Ext.alloc w' (.cells #[.int .i64 0, .int .i64 1, .int .i64 bx, .int .i64 cy, .func (.func 166) #[.agg #[.int .i64 P, .int .i64 D, .int .i64 L, .int .i64 bx, .int .i64 cy]] #[], .func (.func 167) #[.agg #[.int .i64 P, .int .i64 D, .int .i64 L, .int .i64 bx, .int .i64 cy]] #[], .func (.func 168) #[.agg #[.int .i64 P, .int .i64 D, .int .i64 L, .int .i64 bx, .int .i64 cy]] #[], .func (.func 169) #[.agg #[.int .i64 P, .int .i64 D, .int .i64 L, .int .i64 bx, .int .i64 cy]] #[], .func (.func 170) #[] #[]] 167))
  have k0 := (B1 0 _ rfl).1
  have k1 := (B1 1 _ rfl).1
  have k2 := (B1 2 _ rfl).1
  have k3 := (B1 3 _ rfl).1
  have k4 := (B1 4 _ rfl).1
  have j0 := (BA 0 _ rfl).1
  have j1 := (BA 1 _ rfl).1
  have j2 := (BA 2 _ rfl).1
  have j3 := (BA 3 _ rfl).1
  have j4 := (BA 4 _ rfl).1
  clear BA
  go_wp2_with fail
  refine (HG.out _).mono ?_
  rintro r w5 ⟨rfl, hw5⟩
  have C2 := D2.ext hw5 (by first | omega | (simp; omega))
  have hE1 := hE4.trans hw5
  clear D2 hw5
  have d0 := (C2 0 _ rfl).1
  have d1 := (C2 1 _ rfl).1
  have d2 := (C2 2 _ rfl).1
  have d3 := (C2 3 _ rfl).1
  have d4 := (C2 4 _ rfl).1
  have d5 := (C2 5 _ rfl).1
  have d6 := (C2 6 _ rfl).1
  have d7 := (C2 7 _ rfl).1
  have d8 := (C2 8 _ rfl).1
  have z0 := (C2 0 _ rfl).2
  have z1 := (C2 1 _ rfl).2
  have z2 := (C2 2 _ rfl).2
  have z3 := (C2 3 _ rfl).2
  have z4 := (C2 4 _ rfl).2
  have z5 := (C2 5 _ rfl).2
  have z6 := (C2 6 _ rfl).2
  have z7 := (C2 7 _ rfl).2
  have z8 := (C2 8 _ rfl).2
  go_wp2
  obtain ⟨W, hW⟩ : ∃ W, putL (w.heap.size + 1) 0 [.int .i64 0, .int .i64 1, .int .i64 bx, .int .i64 cy, .func (.func 166) #[.agg #[.int .i64 P, .int .i64 D, .int .i64 L, .int .i64 bx, .int .i64 cy]] #[], .func (.func 167) #[.agg #[.int .i64 P, .int .i64 D, .int .i64 L, .int .i64 bx, .int .i64 cy]] #[], .func (.func 168) #[.agg #[.int .i64 P, .int .i64 D, .int .i64 L, .int .i64 bx, .int .i64 cy]] #[], .func (.func 169) #[.agg #[.int .i64 P, .int .i64 D, .int .i64 L, .int .i64 bx, .int .i64 cy]] #[], .func (.func 170) #[] #[]] w5 = W := ⟨_, rfl⟩
  have BW := Blk.put C2 [.int .i64 0, .int .i64 1, .int .i64 bx, .int .i64 cy, .func (.func 166) #[.agg #[.int .i64 P, .int .i64 D, .int .i64 L, .int .i64 bx, .int .i64 cy]] #[], .func (.func 167) #[.agg #[.int .i64 P, .int .i64 D, .int .i64 L, .int .i64 bx, .int .i64 cy]] #[], .func (.func 168) #[.agg #[.int .i64 P, .int .i64 D, .int .i64 L, .int .i64 bx, .int .i64 cy]] #[], .func (.func 169) #[.agg #[.int .i64 P, .int .i64 D, .int .i64 L, .int .i64 bx, .int .i64 cy]] #[], .func (.func 170) #[] #[]] rfl
  rw [hW] at BW
  have hF : Ext w W := hW ▸ hE1.putL (by omega) _
  simp only [putL, Nat.zero_add, Nat.reduceAdd] at hW
  simp only [hW]
  have q0 := (BW 0 _ rfl).1
  have q1 := (BW 1 _ rfl).1
  have q2 := (BW 2 _ rfl).1
  have q3 := (BW 3 _ rfl).1
  have q4 := (BW 4 _ rfl).1
  have q5 := (BW 5 _ rfl).1
  have q6 := (BW 6 _ rfl).1
  have q7 := (BW 7 _ rfl).1
  have q8 := (BW 8 _ rfl).1
  refine bodyPost_ret (v := .agg #[.int .i64 0, .int .i64 1, .int .i64 bx, .int .i64 cy, .func (.func 166) #[.agg #[.int .i64 P, .int .i64 D, .int .i64 L, .int .i64 bx, .int .i64 cy]] #[], .func (.func 167) #[.agg #[.int .i64 P, .int .i64 D, .int .i64 L, .int .i64 bx, .int .i64 cy]] #[], .func (.func 168) #[.agg #[.int .i64 P, .int .i64 D, .int .i64 L, .int .i64 bx, .int .i64 cy]] #[], .func (.func 169) #[.agg #[.int .i64 P, .int .i64 D, .int .i64 L, .int .i64 bx, .int .i64 cy]] #[], .func (.func 170) #[] #[]]) (by simp [results, Tryz.results119, go_sem, q0, q1, q2, q3, q4, q5, q6, q7, q8]) rfl ⟨rfl, hF⟩

set_option maxHeartbeats 1600000 in
set_option maxRecDepth 100000 in
theorem groupPr_no (P D L bx cy : Int) (hP1 : P ≤ 9223372036854775807) (hL1 : L ≤ 9223372036854775807) (hk : ¬ EvOk P D L bx cy) (w : World) :
    Calls Tryz.prog 119 #[.agg #[.int .i64 P, .int .i64 D, .int .i64 L, .int .i64 bx, .int .i64 cy]] w fun e w' => e = .panicked [nrE] ∧ Ext w w' := by
  have hmf : ∀ (fn : Fn) (first cap : Array Value) (w : World), (Instr.makeFunc fn first cap).run Tryz.prog w = .ok (.func fn first cap) w := fun _ _ _ _ => rfl
  by_cases h : EvNum P D L
  rotate_left
  · have HN := hide (numPr_no bx cy hP1 hL1 h)
    clear hk h
    go_enter Tryz.func119, Tryz.ntmps119
    go_wp2_with fail
    refine (HN.out _).mono ?_
    rintro r w1 ⟨rfl, hw1⟩
    obtain ⟨B1, B2, hE, hz⟩ := box2 w [.int .i64 P, .int .i64 D, .int .i64 L, .int .i64 bx, .int .i64 cy] [.int .i64 0, .int .i64 0, .int .i64 0, .int .i64 0, .nilFunc, .nilFunc, .nilFunc, .nilFunc, .nilFunc] 37 167 hw1
    clear hw1
    go_wp2_with fail
    refine (want_no _).mono ?_
    rintro r w' ⟨rfl, rfl⟩
    exact ⟨rfl, rfl, hE⟩
  have HN := hide (numPr_yes bx cy h)
  have HG : Hid (∀ w : World, Calls Tryz.prog 171 #[.agg #[.int .i64 0, .int .i64 1, .int .i64 bx, .int .i64 cy, .func (.func 166) #[.agg #[.int .i64 P, .int .i64 D, .int .i64 L, .int .i64 bx, .int .i64 cy]] #[], .func (.func 167) #[.agg #[.int .i64 P, .int .i64 D, .int .i64 L, .int .i64 bx, .int .i64 cy]] #[], .func (.func 168) #[.agg #[.int .i64 P, .int .i64 D, .int .i64 L, .int .i64 bx, .int .i64 cy]] #[], .func (.func 169) #[.agg #[.int .i64 P, .int .i64 D, .int .i64 L, .int .i64 bx, .int .i64 cy]] #[], .func (.func 170) #[] #[]], .int .i64 L] w fun e w' => e = .panicked [nrE] ∧ Ext w w') := fun w => by
    have h5 := h.l5; have hM := h.lM
    have := genPr_no bx cy h L.toNat (by omega) (fun k => hk (EvOk.of_parts h k)) w
    rwa [show ((L.toNat : Nat) : Int) = L by omega] at this
  clear hk h
  go_enter Tryz.func119, Tryz.ntmps119
  go_wp2_with fail
  refine (HN.out _).mono ?_
  rintro r w1 ⟨rfl, hw1⟩
  obtain ⟨B1, B2, hE, hz⟩ := box2 w [.int .i64 P, .int .i64 D, .int .i64 L, .int .i64 bx, .int .i64 cy] [.int .i64 0, .int .i64 0, .int .i64 0, .int .i64 0, .nilFunc, .nilFunc, .nilFunc, .nilFunc, .nilFunc] 37 167 hw1
  clear hw1
  go_wp2_with fail
  refine (want_yes _).mono ?_
  rintro r w' ⟨rfl, rfl⟩
  have D2 := B2.ext (Ext.alloc w' (.cells #[.int .i64 0, .int .i64 1, .int .i64 bx, .int .i64 cy, .func (.func 166) #[.agg #[.int .i64 P, .int .i64 D, .int .i64 L, .int .i64 bx, .int .i64 cy]] #[], .func (.func 167) #[.agg #[.int .i64 P, .int .i64 D, .int .i64 L, .int .i64 bx, .int .i64 cy]] #[], .func (.func 168) #[.agg #[.int .i64 P, .int .i64 D, .int .i64 L, .int .i64 bx, .int .i64 cy]] #[], .func (.func 169) #[.agg #[.int .i64 P, .int .i64 D, .int .i64 L, .int .i64 bx, .int .i64 cy]] #[], .func (.func 170) #[] #[]] 167)) (by omega)
  have BA := B1.ext (Ext.alloc w' (.cells #[.int .i64 0, .int .i64 1, .int .i64 bx, .int .i64 cy, .func (.func 166) #[.agg #[.int .i64 P, .int .i64 D, .int .i64 L, .int .i64 bx, .int .i64 cy]] #[], .func (.func 167) #[.agg #[.int .i64 P, .int .i64 D, .int .i64 L, .int .i64 bx, .int .i64 cy]] #[], .func (.func 168) #[.agg #[.int .i64 P, .int .i64 D, .int .i64 L, .int .i64 bx, .int .i64 cy]] #[], .func (.func 169) #[.agg #[.int .i64 P, .int .i64 D, .int .i64 L, .int .i64 bx, .int .i64 cy]] #[], .func (.func 170) #[] #[]] 167)) (by omega)
  have hE4 := hE.trans (Ext.alloc w' (.cells #[.int .i64 0, .int .i64 1, .int .i64 bx, .int .i64 cy, .func (.func 166) #[.agg #[.int .i64 P, .int .i64 D, .int .i64 L, .int .i64 bx, .int .i64 cy]] #[], .func (.func 167) #[.agg #[.int .i64 P, .int .i64 D, .int .i64 L, .int .i64 bx, .int .i64 cy]] #[], .func (.func 168) #[.agg #[.int .i64 P, .int .i64 D, .int .i64 L, .int .i64 bx, .int .i64 cy]] #[], .func (.func 169) #[.agg #[.int .i64 P, .int .i64 D, .int .i64 L, .int .i64 bx, .int .i64 cy]] #[], .func (.func 170) #[] #[]] 167))
  have k0 := (B1 0 _ rfl).1
  have k1 := (B1 1 _ rfl).1
  have k2 := (B1 2 _ rfl).1
  have k3 := (B1 3 _ rfl).1
  have k4 := (B1 4 _ rfl).1
  have j0 := (BA 0 _ rfl).1
  have j1 := (BA 1 _ rfl).1
  have j2 := (BA 2 _ rfl).1
  have j3 := (BA 3 _ rfl).1
  have j4 := (BA 4 _ rfl).1
  clear BA
  go_wp2_with fail
  refine (HG.out _).mono ?_
  rintro r w5 ⟨rfl, hw5⟩
  exact ⟨rfl, rfl, hE4.trans hw5⟩

end Go.Proofs.YtdaneanloknkpacGreatDoor
