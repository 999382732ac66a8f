/- Twisted curves: what the model's l4On and l4Add reckon. Nothing of the program. -/
import Derived.Test.YtdaneanloknkpacGreatDoorCurveA
import Derived.Test.YtdaneanloknkpacGreatDoorEdN
namespace Go.Proofs.YtdaneanloknkpacGreatDoor
set_option linter.unusedVariables false
open Go.RowKit

def prV (a : Pr) : Value := .agg #[.int .i64 a.x, .int .i64 a.y]

/-- A call's answer is whether the pair is of the curve. -/
def GivesOnE (p D : Int) (a : Pr) (r : Ending) : Prop := ∃ ok : Bool, r = .returned (.bool ok) ∧ (ok = true ↔ OnE p.toNat D a)

theorem givesOnE_no {p D x y : Int} (h : ¬ (0 ≤ x ∧ x ≤ p - 1 ∧ 0 ≤ y ∧ y ≤ p - 1)) (hp : 0 ≤ p) : GivesOnE p D ⟨x, y⟩ (.returned (.bool false)) :=
  ⟨false, rfl, ⟨fun k => by simp at k, fun k => absurd ⟨k.x0, by have := k.x1; simp only at this; omega, k.y0, by have := k.y1; simp only at this; omega⟩ h⟩⟩

theorem onE_model {p D x y : Int} (hp : 0 < p) (hx0 : 0 ≤ x) (hx : x ≤ p - 1) (hy0 : 0 ≤ y) (hy : y ≤ p - 1) : ((y * y % p - x * x % p) % p = (1 + D * (x * x % p) % p * (y * y % p)) % p) ↔ OnE p.toNat D ⟨x, y⟩ := by
  have e : ((p.toNat : Nat) : Int) = p := by omega
  have h1 := mod_dvd p (x * x)
  have h2 := mod_dvd p (y * y)
  have h3 := mod_dvd p (D * (x * x % p))
  generalize D * (x * x % p) % p = d at *
  generalize x * x % p = u at *
  generalize y * y % p = v at *
  constructor
  · intro h
    refine ⟨hx0, by simp only; omega, hy0, by simp only; omega, ?_⟩
    rw [e]
    have h4 := Int.dvd_of_emod_eq_zero (Int.emod_eq_emod_iff_emod_sub_eq_zero.1 h)
    exact comb4 h4 h1 h2 h3 1 (1 + D * v) (-1 + D * (x * x)) v (by grind)
  · intro h
    have h4 := h.on
    rw [e] at h4
    exact mod_eq (comb4 h4 h1 h2 h3 1 (-(1 + D * v)) (1 - D * (x * x)) (-v) (by grind))

theorem givesOnE_eq {p D x y : Int} (hp : 0 < p) (hx0 : 0 ≤ x) (hx : x ≤ p - 1) (hy0 : 0 ≤ y) (hy : y ≤ p - 1) {ok : Bool} (h : ok = ((y * y % p - x * x % p) % p == (1 + D * (x * x % p) % p * (y * y % p)) % p)) : GivesOnE p D ⟨x, y⟩ (.returned (.bool ok)) :=
  ⟨ok, rfl, by rw [h, beq_iff_eq]; exact onE_model hp hx0 hx hy0 hy⟩

/-- Both numbers in the range. -/
structure InE (p : Nat) (a : Pr) : Prop where
  x0 : 0 ≤ a.x
  x1 : a.x < p
  y0 : 0 ≤ a.y
  y1 : a.y < p

theorem addE_inE {p : Nat} (hp : 0 < p) (D : Int) (a b : Pr) : InE p (addE p D a b) :=
  ⟨Int.emod_nonneg _ (by omega), Int.emod_lt_of_pos _ (by omega), Int.emod_nonneg _ (by omega), Int.emod_lt_of_pos _ (by omega)⟩

theorem OnE.inE {p : Nat} {D : Int} {a : Pr} (h : OnE p D a) : InE p a := ⟨h.x0, h.x1, h.y0, h.y1⟩

theorem iv_congr {p : Nat} {a b : Int} (h : (p : Int) ∣ a - b) : iv p a = iv p b := by
  unfold iv
  rw [mod_eq h]

theorem mulmod (p a b : Int) : a * b % p = a % p * b % p := by
  have h := mod_dvd p a
  generalize a % p = r at *
  exact mod_eq (comb1 h (-b) (by grind))

/-- The model's sum is the rule's. -/
theorem addE_model (p : Nat) (D x1 y1 x2 y2 m : Int) (hm : m = D * (x1 * x2 % p) % p * (y1 * y2 % p) % p) :
    addE p D ⟨x1, y1⟩ ⟨x2, y2⟩ = ⟨(x1 * y2 + y1 * x2) % p * iv p (1 + m) % p, (y1 * y2 % p + x1 * x2 % p) % p * iv p (1 - m) % p⟩ := by
  have h1 := mod_dvd (p : Int) (x1 * x2)
  have h2 := mod_dvd (p : Int) (y1 * y2)
  have h3 := mod_dvd (p : Int) (D * (x1 * x2 % p))
  have h4 := mod_dvd (p : Int) (D * (x1 * x2 % p) % p * (y1 * y2 % p))
  rw [← hm] at h4
  have hd : (p : Int) ∣ m - mE D ⟨x1, y1⟩ ⟨x2, y2⟩ := by
    show (p : Int) ∣ m - D * x1 * x2 * y1 * y2
    generalize D * (x1 * x2 % p) % p = d at *
    generalize x1 * x2 % (p : Int) = u at *
    generalize y1 * y2 % (p : Int) = v at *
    exact comb4 h4 h3 h1 h2 1 v (D * v) (D * (x1 * x2)) (by grind)
  have e1 : iv p (1 + mE D ⟨x1, y1⟩ ⟨x2, y2⟩) = iv p (1 + m) := iv_congr (comb1 hd (-1) (by grind))
  have e2 : iv p (1 - mE D ⟨x1, y1⟩ ⟨x2, y2⟩) = iv p (1 - m) := iv_congr (comb1 hd 1 (by grind))
  unfold addE
  rw [e1, e2]
  refine Pr.ext' ?_ ?_
  · show _ % (p : Int) = _ % (p : Int)
    exact mulmod _ _ _
  · show _ % (p : Int) = _ % (p : Int)
    have e3 : (y1 * y2 % (p : Int) + x1 * x2 % (p : Int)) % p = (y1 * y2 + x1 * x2) % p := (Int.add_emod _ _ _).symm
    rw [e3]
    exact mulmod _ _ _

end Go.Proofs.YtdaneanloknkpacGreatDoor
