/- Walks: the numbers of a twisted curve of the program; twisted, has. -/
import Derived.Test.YtejlgcnhfomadabDoorCurQ
import Derived.Test.YtejlgcnhfomadabDoorEdB
import Derived.Test.YtejlgcnhfomadabDoorRoot2
import Derived.Test.YtejlgcnhfomadabDoorBlk
namespace Go.Proofs.YtejlgcnhfomadabDoor
set_option linter.unusedVariables false
open Go.RowKit

/-- A twisted curve's numbers are as the document wants them. -/
structure EvNum (P D L : Int) : Prop where
  p13 : 13 ≤ P
  pM : P ≤ 1048576
  p8 : P % 8 = 5
  pp : Prime P.toNat
  d2 : 2 ≤ D
  d1 : D ≤ P - 1
  pw : D.toNat ^ ((P.toNat - 1) / 2) % P.toNat = P.toNat - 1
  l5 : 5 ≤ L
  lM : L ≤ 2097152
  lp : Prime L.toNat

theorem EvOk.num {P D L bx cy : Int} (h : EvOk P D L bx cy) : EvNum P D L := ⟨h.p13, h.pM, h.p8, h.pp, h.d2, h.d1, h.pw, h.l5, h.lM, h.lp⟩

theorem EvNum.edc {P D L : Int} (h : EvNum P D L) : EdC P.toNat D := by
  have h13 := h.p13; have h2 := h.d2; have h8 := h.p8
  obtain ⟨p, rfl⟩ := Int.eq_ofNat_of_zero_le (show 0 ≤ P by omega)
  obtain ⟨d, rfl⟩ := Int.eq_ofNat_of_zero_le (show 0 ≤ D by omega)
  have := h.pw; have hp := h.pp
  simp only [Int.toNat_natCast] at this hp ⊢
  exact edC_of hp (by omega) this

theorem pow_other {p d : Nat} (hp : Prime p) (ho : p % 2 = 1) (h0 : 0 < d) (h1 : d < p) (h3 : 3 ≤ p) : ¬ d ^ ((p - 1) / 2) % p = 1 ↔ d ^ ((p - 1) / 2) % p = p - 1 := by
  have hd : ¬ p ∣ d := fun k => by have := Nat.le_of_dvd h0 k; omega
  rcases hp.euler ho hd with k | k <;> omega

def GivesNumE (P D L : Int) (r : Ending) : Prop := ∃ ok : Bool, r = .returned (.bool ok) ∧ (ok = true ↔ EvNum P D L)

theorem givesNumE_no {P D L : Int} (h : ¬ EvNum P D L) : GivesNumE P D L (.returned (.bool false)) := ⟨false, rfl, ⟨fun k => by simp at k, fun k => absurd k h⟩⟩

set_option maxHeartbeats 1600000 in
theorem numbersOkE_any (P D L bx cy : Int) (w : World) (hP1 : P ≤ 9223372036854775807) (hL1 : L ≤ 9223372036854775807) : Calls Tryd.prog 78 #[.agg #[.int .i64 P, .int .i64 D, .int .i64 L, .int .i64 bx, .int .i64 cy]] w fun r w' => GivesNumE P D L r ∧ Ext w w' := by
  have Hno : Hid (¬ EvNum P D L → GivesNumE P D L (.returned (.bool false))) := givesNumE_no
  by_cases c1 : P < 13
  · go_enter Tryd.func78, Tryd.ntmps78
    go_wp2
    go_ret
    exact ⟨Hno.out fun k => by have := k.p13; omega, (Below.refl _ _).alloc (Nat.le_refl _) _⟩
  by_cases c3 : P % 8 = 5
  rotate_left
  · have hb : (P % 8 == 5) = false := by simpa using c3
    have Hc := hide c3
    clear c3
    go_enter Tryd.func78, Tryd.ntmps78
    go_wp2
    go_ret
    exact ⟨Hno.out fun k => Hc.out k.p8, (Below.refl _ _).alloc (Nat.le_refl _) _⟩
  have hb : (P % 8 == 5) = true := by simpa using c3
  have Hc3 := hide c3
  clear c3
  go_enter Tryd.func78, Tryd.ntmps78
  go_wp2_with fail
  clear hb
  refine (primeUpTo_any P 1048576 _ hP1 (by omega)).mono ?_
  rintro r w' ⟨⟨ok, rfl, h9⟩, hw⟩
  subst hw
  cases ok
  · have Hc : Hid (¬ (P ≤ 1048576 ∧ Prime P.toNat)) := fun k => by simpa using h9.2 ⟨k.1, by omega, k.2⟩
    clear h9
    go_wp2
    go_ret
    exact ⟨Hno.out fun k => Hc.out ⟨k.pM, k.pp⟩, (Below.refl _ _).alloc (Nat.le_refl _) _⟩
  obtain ⟨c2, -, c9⟩ := h9.1 rfl
  have Hc9 := hide c9
  clear h9 c9
  go_wp2_with fail
  refine (orderOk_any L _ hL1).mono ?_
  rintro r w' ⟨⟨ok, rfl, h9⟩, hw⟩
  subst hw
  cases ok
  · have Hc : Hid (¬ (5 ≤ L ∧ L ≤ 2097152 ∧ Prime L.toNat)) := fun k => by simpa using h9.2 k
    clear h9
    go_wp2
    go_ret
    exact ⟨Hno.out fun k => Hc.out ⟨k.l5, k.lM, k.lp⟩, (Below.refl _ _).alloc (Nat.le_refl _) _⟩
  have HcL := hide (h9.1 rfl)
  clear h9
  by_cases c5 : 2 ≤ D
  rotate_left
  · have c5' : decide (2 ≤ D) = false := by simpa using c5
    have Hc := hide c5
    go_wp2
    go_ret
    exact ⟨Hno.out fun k => by have := k.d2; have := Hc.out; omega, (Below.refl _ _).alloc (Nat.le_refl _) _⟩
  go_wp2_with fail
  by_cases c6 : D < P
  rotate_left
  · refine (inField_at D P false (by simp; omega) _).mono ?_
    rintro r w1 ⟨rfl, rfl⟩
    have Hc := hide c6
    clear c6
    go_wp2
    go_ret
    exact ⟨Hno.out fun k => by have := k.d1; have := Hc.out; omega, (Below.refl _ _).alloc (Nat.le_refl _) _⟩
  refine (inField_at D P true (by simp; omega) _).mono ?_
  rintro r w1 ⟨rfl, rfl⟩
  obtain ⟨p, rfl⟩ := Int.eq_ofNat_of_zero_le (show 0 ≤ P by omega)
  obtain ⟨d, rfl⟩ := Int.eq_ofNat_of_zero_le (show 0 ≤ D by omega)
  go_wp2_with fail
  refine (isSquare_any d p _ (by omega) (by omega) (by omega)).mono ?_
  rintro r w' ⟨rfl, hw⟩
  subst hw
  have HF : Hid (∀ v : Bool, v = !(decide (d ^ ((p - 1) / 2) % p = 1)) → GivesNumE p d L (.returned (.bool v))) := fun v e => ⟨v, rfl, by
    subst e
    have hpr := Hc9.out
    have h8 := Hc3.out
    rw [Int.toNat_natCast] at hpr
    have po := pow_other hpr (by omega) (show 0 < d by omega) (by omega) (by omega)
    constructor
    · intro k
      have k' : ¬ d ^ ((p - 1) / 2) % p = 1 := by simpa using k
      exact ⟨by omega, by omega, h8, Hc9.out, by omega, by omega, by simpa using po.1 k', HcL.out.1, HcL.out.2.1, HcL.out.2.2⟩
    · intro k
      have := k.pw
      simp only [Int.toNat_natCast] at this
      simpa using po.2 this⟩
  generalize decide (d ^ ((p - 1) / 2) % p = 1) = sq at *
  clear Hc9 HcL Hc3
  go_wp2
  go_ret
  exact ⟨HF.out _ (by simp), (Below.refl _ _).alloc (Nat.le_refl _) _⟩

theorem numPr_yes {P D L : Int} (bx cy : Int) (h : EvNum P D L) (w : World) : Calls Tryd.prog 78 #[.agg #[.int .i64 P, .int .i64 D, .int .i64 L, .int .i64 bx, .int .i64 cy]] w fun r w' => r = .returned (.bool true) ∧ Ext w w' :=
  (numbersOkE_any P D L bx cy w (by have := h.pM; omega) (by have := h.lM; omega)).mono fun r w' k => by
    obtain ⟨⟨ok, rfl, k1⟩, k2⟩ := k
    exact ⟨by rw [k1.2 h], k2⟩

theorem numPr_no {P D L : Int} (bx cy : Int) (hP1 : P ≤ 9223372036854775807) (hL1 : L ≤ 9223372036854775807) (h : ¬ EvNum P D L) (w : World) : Calls Tryd.prog 78 #[.agg #[.int .i64 P, .int .i64 D, .int .i64 L, .int .i64 bx, .int .i64 cy]] w fun r w' => r = .returned (.bool false) ∧ Ext w w' :=
  (numbersOkE_any P D L bx cy w hP1 hL1).mono fun r w' k => by
    obtain ⟨⟨ok, rfl, k1⟩, k2⟩ := k
    cases ok
    · exact ⟨rfl, k2⟩
    · exact absurd (k1.1 rfl) h

set_option maxHeartbeats 800000 in
theorem twisted_any (P D L bx cy a b : Int) (w : World) (p2 : 2 ≤ P) (pM : P ≤ 1048576) (d0 : 0 ≤ D) (d1 : D ≤ 1048576) (a0 : 0 ≤ a) (a1 : a < P) (b0 : 0 ≤ b) (b1 : b < P) :
    Calls Tryd.prog 97 #[.agg #[.int .i64 P, .int .i64 D, .int .i64 L, .int .i64 bx, .int .i64 cy], .int .i64 a, .int .i64 b] w fun r w' => r = .returned (.int .i64 (D * a % P * b % P)) ∧ Ext w w' := by
  have pp : 0 < P := by omega
  obtain ⟨s0, s1⟩ := mulBd d0 d1 a0 (show a ≤ 1048576 by omega)
  have u0 := Int.emod_nonneg (D * a) (show P ≠ 0 by omega)
  have u1 := Int.emod_lt_of_pos (D * a) pp
  obtain ⟨q0, q1⟩ := mulBd (x := D * a % P) (y := b) (p := 1048576) (q := 1048576) u0 (by omega) b0 (by omega)
  go_enter Tryd.func97, Tryd.ntmps97
  go_wp2
  go_quiet (fail)
  go_wp2
  go_ret
  exact ⟨rfl, below_drewN ((Below.refl _ _).alloc (Nat.le_refl _) _) _⟩

theorem has_progE {P D x y : Int} (hp : 0 < P) (x0 : 0 ≤ x) (x1 : x ≤ P - 1) (y0 : 0 ≤ y) (y1 : y ≤ P - 1) : (y * y % P - x * x % P - 1 - D * (x * x % P) % P * (y * y % P) % P) % P = 0 ↔ OnE P.toNat D ⟨x, y⟩ := by
  rw [← onE_model hp x0 x1 y0 y1]
  generalize y * y % P = u
  generalize D * (x * x % P) % P = e
  generalize x * x % P = v
  have h1 := mod_dvd P (e * u)
  constructor
  · intro h
    have h2 := Int.dvd_of_emod_eq_zero h
    exact mod_eq (comb2 h2 h1 1 1 (by grind))
  · intro h
    have h2 : P ∣ (u - v) - (1 + e * u) := Int.dvd_of_emod_eq_zero (Int.emod_eq_emod_iff_emod_sub_eq_zero.1 h)
    exact Int.emod_eq_zero_of_dvd (comb2 h2 h1 1 (-1) (by grind))

end Go.Proofs.YtejlgcnhfomadabDoor
