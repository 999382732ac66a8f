/- Division, plain: a digit times a list, one digit more, a guess of a digit. Nothing of the program. -/
import Derived.Test.YtmkmojcefgcmlaaMulM
namespace Go.Proofs.Ytmkmojcefgcmlaa
set_option linter.unusedVariables false

/-- The carry when A is taken d times. -/
def tmC (A : Nat → Int) (d : Int) : Nat → Int
  | 0 => 0
  | k + 1 => (A k * d + tmC A d k) / 65536

/-- The digit of A taken d times. -/
def tmD (A : Nat → Int) (d : Int) (k : Nat) : Int := (A k * d + tmC A d k) % 65536

theorem tmC_bd {A : Nat → Int} {d : Int} (ha : ∀ i, 0 ≤ A i ∧ A i ≤ 65535) (h0 : 0 ≤ d) (h1 : d ≤ 65535) (k : Nat) : 0 ≤ tmC A d k ∧ tmC A d k ≤ 65535 := by
  induction k with
  | zero => exact ⟨Int.le_refl _, by show (0 : Int) ≤ 65535; omega⟩
  | succ k ih =>
    have p := prod_bd (ha k).1 (ha k).2 h0 h1
    simp only [tmC]
    generalize A k * d = x at *
    omega

theorem tmD_bd (A : Nat → Int) (d : Int) (k : Nat) : 0 ≤ tmD A d k ∧ tmD A d k ≤ 65535 := by unfold tmD; omega

theorem tm_inv (A : Nat → Int) (d : Int) (k : Nat) : val (tmD A d) k + tmC A d k * pw k = val A k * d := by
  induction k with
  | zero => simp [val, tmC]
  | succ k ih =>
    have e : A k * d + tmC A d k = tmD A d k + 65536 * tmC A d (k + 1) := by simp only [tmD, tmC]; omega
    simp only [val, pw]
    generalize tmC A d (k + 1) = c2 at *
    generalize tmC A d k = c1 at *
    generalize tmD A d k = x at *
    grind

/-- A digit ahead at the low end. -/
def consF (x : Int) (f : Nat → Int) : Nat → Int := fun j => if j = 0 then x else f (j - 1)

theorem val_consF (x : Int) (f : Nat → Int) (m : Nat) : val (consF x f) (m + 1) = x + 65536 * val f m := by
  rw [val_cons]
  rw [val_congr (f := fun j => consF x f (j + 1)) (g := f) (fun i _ => by simp [consF])]
  simp [consF]

theorem consF_digs {x : Int} {f : Nat → Int} {m : Nat} (h0 : 0 ≤ x) (h1 : x ≤ 65535) (hf : Digs f m) : Digs (consF x f) (m + 1) := by
  intro i hi
  by_cases e : i = 0
  · subst e; simp [consF]; omega
  · simp only [consF, if_neg e]; exact hf _ (by omega)

/-- A quotient is told by two bounds. -/
theorem quo_eq {r v q : Int} (hv : 0 < v) (h1 : q * v ≤ r) (h2 : r < (q + 1) * v) : r / v = q := by
  have a := Int.le_ediv_of_mul_le hv h1
  have b := Int.ediv_lt_of_lt_mul hv h2
  omega

/-- The guess by the two highest digits is right, or one too high. -/
theorem guess_ok {A3 B2 P al bl : Int} (hP : 0 < P) (ha0 : 0 ≤ al) (ha1 : al < P) (hb0 : 0 ≤ bl) (hb1 : bl < P) (hB : 65536 ≤ B2) (hA : 0 ≤ A3) (hlt : A3 * P + al < 65536 * (B2 * P + bl)) :
    A3 / B2 = (A3 * P + al) / (B2 * P + bl) ∨ A3 / B2 = (A3 * P + al) / (B2 * P + bl) + 1 := by
  have hBP : 0 < B2 * P := Int.mul_pos (by omega) hP
  have hv : 0 < B2 * P + bl := by omega
  have hAP : 0 ≤ A3 * P := Int.mul_nonneg hA (by omega)
  have q0 : 0 ≤ (A3 * P + al) / (B2 * P + bl) := Int.ediv_nonneg (by omega) (by omega)
  have q1 : (A3 * P + al) / (B2 * P + bl) < 65536 := Int.ediv_lt_of_lt_mul hv (by omega)
  have q2 := Int.mul_ediv_self_le (x := A3 * P + al) (k := B2 * P + bl) (by omega)
  have q3 := Int.lt_mul_ediv_self_add (x := A3 * P + al) (k := B2 * P + bl) hv
  generalize hQ : (A3 * P + al) / (B2 * P + bl) = Q at *
  -- Q B2 ≤ A3
  have u1 : Q * B2 ≤ A3 := by
    have e : (Q * B2) * P ≤ A3 * P + al := by
      have : Q * (B2 * P + bl) = Q * B2 * P + Q * bl := by grind
      have n := Int.mul_nonneg q0 hb0
      rw [Int.mul_comm] at q2
      omega
    by_cases h : Q * B2 ≤ A3
    · exact h
    · have m := Int.mul_le_mul_of_nonneg_right (show A3 + 1 ≤ Q * B2 by omega) (Int.le_of_lt hP)
      rw [Int.add_mul, Int.one_mul] at m
      omega
  -- A3 < (Q + 2) B2
  have u2 : A3 < (Q + 2) * B2 := by
    by_cases h : A3 < (Q + 2) * B2
    · exact h
    · have m := Int.mul_le_mul_of_nonneg_right (show (Q + 2) * B2 ≤ A3 by omega) (Int.le_of_lt hP)
      have n := Int.mul_le_mul_of_nonneg_left (show bl ≤ P by omega) (show 0 ≤ Q + 1 by omega)
      have e1 : (B2 * P + bl) * Q + (B2 * P + bl) = (Q + 1) * B2 * P + (Q + 1) * bl := by grind
      have e2 : (Q + 2) * B2 * P = (Q + 1) * B2 * P + B2 * P := by grind
      have e3 := Int.mul_le_mul_of_nonneg_right (show Q + 1 ≤ B2 by omega) (Int.le_of_lt hP)
      omega
  have g1 := Int.le_ediv_of_mul_le (show 0 < B2 by omega) u1
  have g2 := Int.ediv_lt_of_lt_mul (show 0 < B2 by omega) u2
  omega

end Go.Proofs.Ytmkmojcefgcmlaa
