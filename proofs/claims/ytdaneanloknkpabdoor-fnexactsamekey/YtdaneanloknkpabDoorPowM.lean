/- Plain numbers: powers by squaring, inverses by Euclid's rule. Nothing of the program. -/
namespace Go.Proofs.YtdaneanloknkpabDoor
set_option linter.unusedVariables false

/-- A step of a power by squaring, at an odd exponent. -/
theorem pow_odd (o b x m : Nat) (h : x % 2 = 1) : (o * b % m) * (b * b % m) ^ (x / 2) % m = o * b ^ x % m := by
  have e : b ^ x = b * (b * b) ^ (x / 2) := by
    conv => lhs; rw [show x = 1 + 2 * (x / 2) by omega, Nat.pow_add, Nat.pow_mul, Nat.pow_two, Nat.pow_one]
  rw [e, Nat.mul_mod, Nat.mod_mod, ← Nat.pow_mod, ← Nat.mul_mod, ← Nat.mul_assoc]

/-- A step at an even exponent. -/
theorem pow_even (o b x m : Nat) (h : x % 2 = 0) : o * (b * b % m) ^ (x / 2) % m = o * b ^ x % m := by
  have e : b ^ x = (b * b) ^ (x / 2) := by
    conv => lhs; rw [show x = 2 * (x / 2) by omega, Nat.pow_mul, Nat.pow_two]
  rw [e, Nat.mul_mod, ← Nat.pow_mod, ← Nat.mul_mod]

theorem pow_start (a e m : Nat) : 1 % m * (a % m) ^ e % m = a ^ e % m := by
  rw [Nat.mul_mod, Nat.mod_mod, ← Nat.pow_mod, ← Nat.mul_mod, Nat.one_mul]

/-- A product of two below 2^30. -/
theorem mul_small {x y m : Nat} (hm : m ≤ 1073741824) (hx : x < m) (hy : y < m) : (x : Int) * (y : Int) ≤ 1152921504606846976 := by
  have : x * y ≤ 1073741824 * 1073741824 := Nat.mul_le_mul (by omega) (by omega)
  have h2 : ((x * y : Nat) : Int) ≤ 1152921504606846976 := by omega
  rwa [Int.natCast_mul] at h2

/-- What the rule of Euclid keeps, to and fro: R and S are what is left, X and Y by m times a leave them, one of them with its sign turned. -/
structure Euclid (m a R S : Nat) (X Y : Int) : Prop where
  lt : S < R
  gcd : Nat.gcd R S = Nat.gcd m a
  dx : (m : Int) ∣ X * a - R
  dy : (m : Int) ∣ Y * a - S
  bd : ∃ U V : Nat, ((X = U ∧ Y = -(V : Int)) ∨ (X = -(U : Int) ∧ Y = V)) ∧ U * S + V * R = m ∧ U ≤ V

theorem euclid_start {m a : Nat} (h : a < m) : Euclid m a m a 0 1 :=
  ⟨h, rfl, ⟨-1, by omega⟩, ⟨0, by omega⟩, 0, 1, Or.inr ⟨by omega, by omega⟩, by omega, by omega⟩

theorem Euclid.step {m a R S : Nat} {X Y : Int} (h : Euclid m a R S X Y) (hS : 0 < S) : Euclid m a S (R % S) Y (X - (R / S : Nat) * Y) := by
  refine ⟨Nat.mod_lt _ hS, ?_, h.dy, ?_, ?_⟩
  · rw [← h.gcd, Nat.gcd_comm R S, Nat.gcd_rec S R, Nat.gcd_comm]
  · obtain ⟨c, hc⟩ := h.dx
    obtain ⟨d, hd⟩ := h.dy
    refine ⟨c - (R / S : Nat) * d, ?_⟩
    have e : (R : Int) = S * (R / S : Nat) + (R % S : Nat) := by
      have := Nat.div_add_mod R S
      rw [← Int.natCast_mul]; omega
    grind
  · obtain ⟨U, V, hs, hm, hle⟩ := h.bd
    have hq : 1 ≤ R / S := (Nat.le_div_iff_mul_le hS).2 (by have := h.lt; omega)
    refine ⟨V, U + R / S * V, ?_, ?_, ?_⟩
    · rcases hs with ⟨rfl, rfl⟩ | ⟨rfl, rfl⟩
      · right
        refine ⟨rfl, ?_⟩
        rw [Int.natCast_add, Int.natCast_mul]; grind
      · left
        refine ⟨rfl, ?_⟩
        rw [Int.natCast_add, Int.natCast_mul]; grind
    · have := Nat.div_add_mod R S
      generalize R / S = q at *
      generalize R % S = t at *
      subst this
      grind
    · have : 1 * V ≤ R / S * V := Nat.mul_le_mul_right V hq
      omega

/-- The numbers are never longer than m. -/
theorem Euclid.small {m a R S : Nat} {X Y : Int} (h : Euclid m a R S X Y) : X ≤ m ∧ -(m : Int) ≤ X ∧ Y ≤ m ∧ -(m : Int) ≤ Y := by
  obtain ⟨U, V, hs, hm, hle⟩ := h.bd
  have hV : V * 1 ≤ V * R := Nat.mul_le_mul_left V (by have := h.lt; omega)
  have : V ≤ m := by omega
  rcases hs with ⟨rfl, rfl⟩ | ⟨rfl, rfl⟩ <;> omega

theorem Euclid.small_mul {m a R S : Nat} {X Y : Int} (h : Euclid m a R S X Y) (hS : 0 < S) : (R / S : Nat) * Y ≤ m ∧ -(m : Int) ≤ (R / S : Nat) * Y := by
  have k := (h.step hS).small
  have l := h.small
  obtain ⟨U, V, hs, hm, hle⟩ := h.bd
  have z : 0 ≤ ((R / S : Nat) : Int) * (V : Int) := Int.mul_nonneg (Int.natCast_nonneg _) (Int.natCast_nonneg _)
  rcases hs with ⟨rfl, rfl⟩ | ⟨rfl, rfl⟩
  · rw [Int.mul_neg] at *; omega
  · omega

/-- The number below m whose product with a leaves 1, if there is one. -/
structure IsInv (m a : Nat) (v : Int) (ok : Bool) : Prop where
  yes : ok = true → 0 ≤ v ∧ v < m ∧ v * a % m = 1
  no : ok = false → v = 0
  dec : ok = decide (Nat.gcd m a = 1)

theorem IsInv.unique {m a : Nat} {v v' : Int} {ok ok' : Bool} (h : IsInv m a v ok) (h' : IsInv m a v' ok') : v = v' ∧ ok = ok' := by
  have e : ok = ok' := by rw [h.dec, h'.dec]
  subst e
  refine ⟨?_, rfl⟩
  cases ok with
  | false => rw [h.no rfl, h'.no rfl]
  | true =>
    obtain ⟨a0, a1, a2⟩ := h.yes rfl
    obtain ⟨b0, b1, b2⟩ := h'.yes rfl
    have e1 : v * (v' * a) % m = v := by
      rw [Int.mul_emod, b2, Int.mul_one, Int.emod_emod, Int.emod_eq_of_lt a0 a1]
    have e2 : v' * (v * a) % m = v' := by
      rw [Int.mul_emod, a2, Int.mul_one, Int.emod_emod, Int.emod_eq_of_lt b0 b1]
    rw [← e1, ← e2]
    congr 1
    grind

theorem Euclid.done {m a R : Nat} {X Y : Int} (h : Euclid m a R 0 X Y) (hm : 2 ≤ m) (h1 : R = 1) : IsInv m a (X % m) true ∧ 0 < X % m := by
  subst h1
  have hg := h.gcd
  rw [Nat.gcd_zero_right] at hg
  have hx : X % m * a % m = 1 := by
    rw [Int.mul_emod, Int.emod_emod, ← Int.mul_emod]
    have hd := h.dx
    have := Int.emod_eq_emod_iff_emod_sub_eq_zero.2 (Int.emod_eq_zero_of_dvd hd)
    rw [this, show ((1 : Nat) : Int) = 1 from rfl, Int.emod_eq_of_lt (by omega) (by omega)]
  have h0 := Int.emod_nonneg X (show (m : Int) ≠ 0 by omega)
  have h1 := Int.emod_lt_of_pos X (show (0 : Int) < m by omega)
  refine ⟨⟨fun _ => ⟨h0, h1, hx⟩, fun h => by simp at h, by simp [← hg]⟩, ?_⟩
  rcases Int.lt_or_eq_of_le h0 with h2 | h2
  · exact h2
  · rw [← h2] at hx; simp at hx

theorem Euclid.done_no {m a R : Nat} {X Y : Int} (h : Euclid m a R 0 X Y) (h1 : R ≠ 1) : IsInv m a 0 false := by
  have hg := h.gcd
  rw [Nat.gcd_zero_right] at hg
  refine ⟨fun h => by simp at h, fun _ => rfl, ?_⟩
  have : ¬ Nat.gcd m a = 1 := by omega
  simp [this]

end Go.Proofs.YtdaneanloknkpabDoor
