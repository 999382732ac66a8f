/- Twisted curves: D is no square just when the model's power says so; roots by a prime number that leaves 5 by 8. Nothing of the program. -/
import Derived.Test.YtdaneanloknkpacGreatDoorEdM
namespace Go.Proofs.YtdaneanloknkpacGreatDoor
set_option linter.unusedVariables false

/-- Numbers that leave the same, as a divisibility. -/
theorem nat_cong {p x y : Nat} (h : x % p = y % p) : (p : Int) ∣ (x : Int) - (y : Int) := by
  have h1 := mod_dvd (p : Int) (x : Int)
  have h2 := mod_dvd (p : Int) (y : Int)
  rw [← Int.natCast_emod] at h1 h2
  rw [h] at h1
  exact comb2 h1 h2 (-1) 1 (by grind)

theorem cong_nat {p x y : Nat} (hp : 0 < p) (h : (p : Int) ∣ (x : Int) - (y : Int)) : x % p = y % p := by
  have := mod_eq h
  omega

theorem less_cong {p x : Nat} (hp : 2 ≤ p) (h : x % p = p - 1) : (p : Int) ∣ (x : Int) + 1 := by
  have h1 := mod_dvd (p : Int) (x : Int)
  rw [← Int.natCast_emod, h] at h1
  have h2 : (p : Int) ∣ (p : Int) := Int.dvd_refl _
  exact comb2 h1 h2 (-1) 1 (by omega)

theorem cong_less {p x : Nat} (hp : 2 ≤ p) (h : (p : Int) ∣ (x : Int) + 1) : x % p = p - 1 := by
  have h2 : (p : Int) ∣ (p : Int) := Int.dvd_refl _
  have h1 : (p : Int) ∣ (x : Int) - ((p - 1 : Nat) : Int) := comb2 h h2 1 (-1) (by omega)
  have := cong_nat (by omega) h1
  rwa [Nat.mod_eq_of_lt (by omega : p - 1 < p)] at this

section
variable {p : Nat}

theorem Prime.minus_one (hp : Prime p) (h8 : p % 8 = 5) {n : Nat} (e : n ^ ((p - 1) / 2) % p = p - 1) : (p : Int) ∣ ((n ^ ((p - 1) / 4) : Nat) : Int) * ((n ^ ((p - 1) / 4) : Nat) : Int) + 1 := by
  have := less_cong hp.1 e
  rw [show (p - 1) / 2 = (p - 1) / 4 + (p - 1) / 4 by omega, Nat.pow_add, Int.natCast_mul] at this
  exact this

/-- No square: the power to half of p - 1 is -1. -/
theorem Prime.no_square (hp : Prime p) (ho : p % 2 = 1) (h3 : 3 ≤ p) {n : Nat} (e : n ^ ((p - 1) / 2) % p = p - 1) (u v : Int) (h : (p : Int) ∣ u * u - (n : Int) * (v * v)) : (p : Int) ∣ v := by
  rcases Classical.em ((p : Int) ∣ v) with k | hv
  · exact k
  exfalso
  have hn : ¬ p ∣ n := by
    intro k
    have : n ^ ((p - 1) / 2) % p = 0 := by
      obtain ⟨c, rfl⟩ := k
      rw [Nat.mul_pow, show (p - 1) / 2 = ((p - 1) / 2 - 1) + 1 by omega, Nat.pow_succ, Nat.mul_assoc, Nat.mul_comm (p ^ _) , Nat.mul_assoc, Nat.mul_mod_right]
    omega
  have hi := iv_spec hp hv
  have r0 := Int.emod_nonneg (u * iv p v) (show (p : Int) ≠ 0 by omega)
  have h1 := mod_dvd (p : Int) (u * iv p v)
  obtain ⟨z, hz⟩ := Int.eq_ofNat_of_zero_le r0
  rw [hz] at h1
  have key : (p : Int) ∣ ((z * z : Nat) : Int) - (n : Int) := by
    rw [Int.natCast_mul]
    generalize iv p v = w at *
    exact comb3 h hi h1 (w * w) ((n : Int) * (v * w + 1)) ((z : Int) + u * w) (by grind)
  have := hp.euler_square ho hn (cong_nat (by omega) key)
  omega

theorem edC_of (hp : Prime p) (h8 : p % 8 = 5) {n : Nat} (e : n ^ ((p - 1) / 2) % p = p - 1) : EdC p (n : Int) :=
  ⟨hp, by omega, fun u v h => hp.no_square (by omega) (by omega) e u v h, ⟨_, hp.minus_one h8 e⟩⟩

/-- 2 is no square by a prime number that leaves 5 by 8. -/
theorem Prime.two_less (hp : Prime p) (h8 : p % 8 = 5) {i : Nat} (hi : (p : Int) ∣ (i : Int) * i + 1) : 2 ^ ((p - 1) / 2) % p = p - 1 := by
  have h2 := hp.1
  have hn : ¬ p ∣ i + 1 := by
    intro k
    have k' : (p : Int) ∣ (i : Int) + 1 := by have := Int.natCast_dvd_natCast.2 k; rwa [Int.natCast_add] at this
    have : (p : Int) ∣ 2 := comb2 hi k' 1 (1 - (i : Int)) (by grind)
    have := Int.le_of_dvd (by omega) this
    omega
  have hf := hp.fermat hn
  have f1 : (p : Int) ∣ (((i + 1) ^ (p - 1) : Nat) : Int) - 1 := by
    have := nat_cong (show (i + 1) ^ (p - 1) % p = 1 % p by rw [hf, Nat.mod_eq_of_lt (by omega)])
    simpa using this
  -- (1 + i)^2 leaves 2 i
  have s1 : (p : Int) ∣ (((i + 1) * (i + 1) : Nat) : Int) - ((2 * i : Nat) : Int) := by
    rw [Int.natCast_mul, Int.natCast_add, Int.natCast_mul]
    exact comb1 hi 1 (by grind)
  have c1 := cong_nat (by omega) s1
  have e1 : (i + 1) ^ (p - 1) % p = (2 * i) ^ ((p - 1) / 2) % p := by
    rw [show p - 1 = 2 * ((p - 1) / 2) by omega, Nat.pow_mul, Nat.pow_two, show 2 * ((p - 1) / 2) / 2 = (p - 1) / 2 by omega, Nat.pow_mod, c1, ← Nat.pow_mod]
  -- i to half of p - 1 is -1
  have s2 : (p : Int) ∣ ((i * i : Nat) : Int) + 1 := by rw [Int.natCast_mul]; exact hi
  have c2 := cong_less h2 s2
  have e2 : i ^ ((p - 1) / 2) % p = p - 1 := by
    rw [show (p - 1) / 2 = 2 * ((p - 1) / 4) by omega, Nat.pow_mul, Nat.pow_two, Nat.pow_mod, c2]
    rw [show (p - 1) / 4 = 2 * ((p - 5) / 8) + 1 by omega, Nat.pow_succ, Nat.pow_mul, Nat.pow_two, Nat.mul_mod, Nat.pow_mod, less_sq h2, Nat.one_pow]
    rw [Nat.mod_eq_of_lt (by omega : 1 < p), Nat.one_mul, Nat.mod_mod, Nat.mod_eq_of_lt (by omega)]
  rw [hf, Nat.mul_pow, Nat.mul_mod, e2] at e1
  generalize 2 ^ ((p - 1) / 2) = t at *
  have k : (p : Int) ∣ ((t % p * (p - 1) : Nat) : Int) - 1 := by
    have := nat_cong (show t % p * (p - 1) % p = 1 % p by rw [← e1, Nat.mod_eq_of_lt (by omega)])
    simpa using this
  have k2 := mod_dvd (p : Int) (t : Int)
  rw [← Int.natCast_emod] at k2
  rw [Int.natCast_mul, show ((p - 1 : Nat) : Int) = (p : Int) - 1 by omega] at k
  have k3 : (p : Int) ∣ (p : Int) := Int.dvd_refl _
  refine cong_less h2 (comb3 k k2 k3 (-1) (-1) ((t % p : Nat) : Int) ?_)
  generalize ((t % p : Nat) : Int) = q at *
  grind

/-- A root, as the model reckons it. -/
def root5 (p w : Nat) : Nat :=
  if (w ^ ((p + 3) / 8) % p) * (w ^ ((p + 3) / 8) % p) % p = w % p then w ^ ((p + 3) / 8) % p else (w ^ ((p + 3) / 8) % p) * (2 ^ ((p - 1) / 4) % p) % p

theorem Prime.root5 (hp : Prime p) (h8 : p % 8 = 5) (ht : 2 ^ ((p - 1) / 2) % p = p - 1) {w z : Nat} (e : z * z % p = w % p) : root5 p w * root5 p w % p = w % p := by
  have h2 := hp.1
  unfold Proofs.YtdaneanloknkpacGreatDoor.root5
  by_cases c : (w ^ ((p + 3) / 8) % p) * (w ^ ((p + 3) / 8) % p) % p = w % p
  · rw [if_pos c]; exact c
  rw [if_neg c]
  have sq : (w ^ ((p + 3) / 8) % p) * (w ^ ((p + 3) / 8) % p) % p = w * w ^ ((p - 1) / 4) % p := by
    rw [← Nat.mul_mod, ← Nat.pow_add, show (p + 3) / 8 + (p + 3) / 8 = (p - 1) / 4 + 1 by omega, Nat.pow_succ, Nat.mul_comm]
  have hw : ¬ p ∣ w := by
    intro k
    apply c
    rw [sq, Nat.mul_mod, Nat.mod_eq_zero_of_dvd k, Nat.zero_mul, Nat.zero_mod]
  have hz : ¬ p ∣ z := by
    intro k
    apply hw
    have : z * z % p = 0 := Nat.mod_eq_zero_of_dvd (Nat.dvd_trans k (Nat.dvd_mul_right _ _))
    exact Nat.dvd_of_mod_eq_zero (by rw [← e, this])
  have q : w ^ ((p - 1) / 4) % p = z ^ ((p - 1) / 2) % p := by
    rw [Nat.pow_mod, ← e, ← Nat.pow_mod, ← Nat.pow_two, ← Nat.pow_mul, show 2 * ((p - 1) / 4) = (p - 1) / 2 by omega]
  rcases hp.euler (by omega) hz with k | k
  · exfalso
    apply c
    rw [sq, Nat.mul_mod, q, k, Nat.mul_one, Nat.mod_mod]
  · have t2 : (2 ^ ((p - 1) / 4) % p) * (2 ^ ((p - 1) / 4) % p) % p = p - 1 := by
      rw [← Nat.mul_mod, ← Nat.pow_add, show (p - 1) / 4 + (p - 1) / 4 = (p - 1) / 2 by omega, ht]
    generalize w ^ ((p + 3) / 8) % p = x at *
    generalize 2 ^ ((p - 1) / 4) % p = t at *
    rw [← Nat.mul_mod, show x * t * (x * t) = (x * x) * (t * t) by grind, Nat.mul_mod, sq, t2, Nat.mul_mod w, q, k, Nat.mod_mul_mod, Nat.mul_assoc, Nat.mul_mod, less_sq h2, Nat.mod_mod, Nat.mul_one, Nat.mod_mod]

end

end Go.Proofs.YtdaneanloknkpacGreatDoor
