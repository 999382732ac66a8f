/- Walks: curves of the program: farPoint, inField, base, flat, square, opposite, divide, foldOk. -/
import Derived.Test.YtejlgcnhfomadacDoorCurveP
import Derived.Deep.RegionHeld3
namespace Go.Proofs.YtejlgcnhfomadacDoor
set_option linter.unusedVariables false
open Go.RowKit

theorem inField_any (n P : Int) (w : World) : Calls Tryd.prog 65 #[.int .i64 n, .int .i64 P] w fun r w' => r = .returned (.bool (decide (0 ≤ n) && decide (n < P))) ∧ w' = w := by
  by_cases h1 : 0 ≤ n
  · by_cases h2 : n < P
    · go_enter Tryd.func65, Tryd.ntmps65
      go_wp2
      go_ret
      exact ⟨ret_bool (by rw [decide_eq_true h1, decide_eq_true h2]; rfl), rfl⟩
    · go_enter Tryd.func65, Tryd.ntmps65
      go_wp2
      go_ret
      exact ⟨ret_bool (by simp; omega), rfl⟩
  · go_enter Tryd.func65, Tryd.ntmps65
    go_wp2
    go_ret
    exact ⟨ret_bool (by rw [decide_eq_false (by omega : ¬ 0 ≤ n)]; rfl), rfl⟩

theorem disc_prog {p A B : Int} : (4 * (A * A % p * A) + 27 * B * B) % p = 0 ↔ p ∣ 4 * (A * A * A) + 27 * (B * B) := by
  have h1 := mod_dvd p (A * A)
  generalize A * A % p = u at *
  constructor
  · intro h
    exact comb2 (Int.dvd_of_emod_eq_zero h) h1 1 (-4 * A) (by grind)
  · intro h
    exact Int.emod_eq_zero_of_dvd (comb2 h h1 1 (4 * A) (by grind))

/-- What Y^2 is at x. -/
def sqV (p A B x : Int) : Int := (x * x * x + A * x + B) % p

theorem sq_prog {p A B x : Int} : ((x * x + A) % p * x + B) % p = sqV p A B x := by
  have h1 := mod_dvd p (x * x + A)
  generalize (x * x + A) % p = u at *
  exact mod_eq (comb1 h1 x (by grind))

theorem implInvInt_iv (a : Int) (p : Nat) (w : World) (h0 : -9223372036854775808 ≤ a) (h1 : a ≤ 9223372036854775807) (hp : Prime p) (h3 : 3 ≤ p) (hm : p ≤ 1073741824) :
    Calls Tryd.prog 75 #[.int .i64 a, .int .i64 (p : Int)] w fun r w' => (∃ ok, r = .returned (.tuple #[.int .i64 (iv p a), .bool ok])) ∧ w' = w := by
  refine (implInvInt_any a p w h0 h1).mono ?_
  rintro r w' ⟨⟨v, ok, rfl, hI⟩, hq⟩
  have := hI.2 (by omega) (by omega)
  rw [Int.toNat_natCast] at this
  rw [iv_of_isInv hp h3 this]
  exact ⟨⟨ok, rfl⟩, hq⟩

set_option maxHeartbeats 400000 in
theorem quotient_any (p : Nat) (a b : Int) (w : World) (hpr : Prime p) (p5 : 5 ≤ p) (pM : p ≤ 1048576) (a0 : -9223372036854775808 ≤ a) (a1 : a ≤ 9223372036854775807) (b0 : -9223372036854775808 ≤ b) (b1 : b ≤ 9223372036854775807) : Calls Tryd.prog 69 #[.int .i64 a, .int .i64 b, .int .i64 p] w fun r w' => r = .returned (.int .i64 (a % p * iv p b % p)) ∧ w' = w := by
  have pp : (0 : Int) < p := by omega
  have u0 := Int.emod_nonneg a (show (p : Int) ≠ 0 by omega)
  have u1 := Int.emod_lt_of_pos a pp
  obtain ⟨i0, i1⟩ := iv_range (show 0 < p by omega) b
  obtain ⟨q0, q1⟩ := mulBd (x := a % p) (y := iv p b) (p := 1048576) (q := 1048576) u0 (by omega) i0 (by omega)
  go_enter Tryd.func69, Tryd.ntmps69
  go_wp2_with fail
  refine (implInvInt_iv b p _ b0 b1 hpr (by omega) (by omega)).mono ?_
  rintro r w' ⟨⟨ok, rfl⟩, hw⟩
  subst hw
  go_wp2_with fail
  refine (intRest_any _ _ _ a0 a1 (by omega) (by omega)).mono ?_
  rintro r w' ⟨rfl, rfl⟩
  go_wp2
  go_ret
  exact ⟨rfl, rfl⟩

end Go.Proofs.YtejlgcnhfomadacDoor
