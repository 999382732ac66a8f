/- Walks: curves of the program: farPoint, inField, base, flat, square, opposite, divide, foldOk. -/
import Derived.Deep.RegionHeld3
import Derived.Test.YtollgoadgjlccaaGreatDoorCz09
namespace Go.Proofs.YtollgoadgjlccaaGreatDoor

section
set_option linter.unusedVariables false

open Go.RowKit

set_option maxHeartbeats 400000 in
theorem farPoint_any (w : World) : Calls Tryz.prog 240 #[] w fun r w' => r = .returned (ptV farP) ∧ Below w.heap.size w w' := by
  go_enter Tryz.func240, Tryz.ntmps240
  go_wp2
  refine bodyPost_ret (v := .agg #[.int .i64 0, .int .i64 0, .bool true]) (by simp [results, Tryz.results240, go_sem]) rfl ⟨rfl, ?_⟩
  repeat (first | exact Below.refl _ _ | refine Below.setCell ?_ (by simp <;> omega) _ | refine Below.alloc ?_ (by simp <;> omega) _)

theorem inField_any (n P : Int) (w : World) : Calls Tryz.prog 263 #[.int .i64 n, .int .i64 P] w fun r w' => r = .returned (.bool (decide (0 ≤ n) && decide (n < P))) ∧ w' = w := by
  by_cases h1 : 0 ≤ n
  · by_cases h2 : n < P
    · go_enter Tryz.func263, Tryz.ntmps263
      go_wp2
      go_ret
      exact ⟨ret_bool (by rw [decide_eq_true h1, decide_eq_true h2]; rfl), rfl⟩
    · go_enter Tryz.func263, Tryz.ntmps263
      go_wp2
      go_ret
      exact ⟨ret_bool (by simp; omega), rfl⟩
  · go_enter Tryz.func263, Tryz.ntmps263
    go_wp2
    go_ret
    exact ⟨ret_bool (by rw [decide_eq_false (by omega : ¬ 0 ≤ n)]; rfl), rfl⟩

theorem disc_prog {p A B : Int} : (4 * (A * A % p * A) + 27 * B * B) % p = 0 ↔ p ∣ 4 * (A * A * A) + 27 * (B * B) := by
  have h1 := mod_dvd p (A * A)
  generalize A * A % p = u at *
  constructor
  · intro h
    exact comb2 (Int.dvd_of_emod_eq_zero h) h1 1 (-4 * A) (by grind)
  · intro h
    exact Int.emod_eq_zero_of_dvd (comb2 h h1 1 (4 * A) (by grind))

set_option maxHeartbeats 400000 in
theorem flat_any (P A B N gx gy : Int) (w : World) (p5 : 5 ≤ P) (pM : P ≤ 1048576) (a0 : 0 ≤ A) (a1 : A < P) (b0 : 0 ≤ B) (b1 : B < P) : Calls Tryz.prog 278 #[.agg #[.int .i64 P, .int .i64 A, .int .i64 B, .int .i64 N, .int .i64 gx, .int .i64 gy]] w fun r w' => (∃ ok : Bool, r = .returned (.bool ok) ∧ (ok = true ↔ P ∣ 4 * (A * A * A) + 27 * (B * B))) ∧ Below w.heap.size w w' := by
  have pp : 0 < P := by omega
  have u0 := Int.emod_nonneg (A * A) (show P ≠ 0 by omega)
  have u1 := Int.emod_lt_of_pos (A * A) pp
  obtain ⟨s0, s1⟩ := mulBd a0 (show A ≤ 1048576 by omega) a0 (show A ≤ 1048576 by omega)
  obtain ⟨t0, t1⟩ := mulBd (x := 27 * B) (y := B) (p := 28311552) (q := 1048576) (by omega) (by omega) b0 (by omega)
  obtain ⟨q0, q1⟩ := mulBd (x := A * A % P) (y := A) (p := 1048576) (q := 1048576) u0 (by omega) a0 (by omega)
  have Hd := hide (disc_prog (p := P) (A := A) (B := B))
  go_enter Tryz.func278, Tryz.ntmps278
  go_wp2
  go_quiet (fail)
  go_wp2
  go_ret
  refine ⟨⟨_, rfl, ?_⟩, below_drewN ((Below.refl _ _).alloc (Nat.le_refl _) _) _⟩
  rw [← Hd.out, beq_iff_eq]

/-- What Y^2 is at x. -/
def sqV (p A B x : Int) : Int := (x * x * x + A * x + B) % p

theorem sq_prog {p A B x : Int} : ((x * x + A) % p * x + B) % p = sqV p A B x := by
  have h1 := mod_dvd p (x * x + A)
  generalize (x * x + A) % p = u at *
  exact mod_eq (comb1 h1 x (by grind))

set_option maxHeartbeats 400000 in
theorem square_any (P A B N gx gy x : Int) (w : World) (p5 : 5 ≤ P) (pM : P ≤ 1048576) (a0 : 0 ≤ A) (a1 : A < P) (b0 : 0 ≤ B) (b1 : B < P) (x0 : 0 ≤ x) (x1 : x < P) : Calls Tryz.prog 279 #[.agg #[.int .i64 P, .int .i64 A, .int .i64 B, .int .i64 N, .int .i64 gx, .int .i64 gy], .int .i64 x] w fun r w' => r = .returned (.int .i64 (sqV P A B x)) ∧ Below w.heap.size w w' := by
  have pp : 0 < P := by omega
  obtain ⟨s0, s1⟩ := mulBd x0 (show x ≤ 1048576 by omega) x0 (show x ≤ 1048576 by omega)
  have u0 := Int.emod_nonneg (x * x + A) (show P ≠ 0 by omega)
  have u1 := Int.emod_lt_of_pos (x * x + A) pp
  obtain ⟨q0, q1⟩ := mulBd (x := (x * x + A) % P) (y := x) (p := 1048576) (q := 1048576) u0 (by omega) x0 (by omega)
  have Hd := hide (sq_prog (p := P) (A := A) (B := B) (x := x))
  go_enter Tryz.func279, Tryz.ntmps279
  go_wp2
  go_quiet (fail)
  go_wp2
  go_ret
  exact ⟨ret_int Hd.out, below_drewN ((Below.refl _ _).alloc (Nat.le_refl _) _) _⟩

theorem implInvInt_iv (a : Int) (p : Nat) (w : World) (h0 : -9223372036854775808 ≤ a) (h1 : a ≤ 9223372036854775807) (hp : Prime p) (h3 : 3 ≤ p) (hm : p ≤ 1073741824) :
    Calls Tryz.prog 283 #[.int .i64 a, .int .i64 (p : Int)] w fun r w' => (∃ ok, r = .returned (.tuple #[.int .i64 (iv p a), .bool ok])) ∧ w' = w := by
  refine (implInvInt_any a p w h0 h1).mono ?_
  rintro r w' ⟨⟨v, ok, rfl, hI⟩, hq⟩
  have := hI.2 (by omega) (by omega)
  rw [Int.toNat_natCast] at this
  rw [iv_of_isInv hp h3 this]
  exact ⟨⟨ok, rfl⟩, hq⟩

set_option maxHeartbeats 400000 in
theorem quotient_any (p : Nat) (a b : Int) (w : World) (hpr : Prime p) (p5 : 5 ≤ p) (pM : p ≤ 1048576) (a0 : -9223372036854775808 ≤ a) (a1 : a ≤ 9223372036854775807) (b0 : -9223372036854775808 ≤ b) (b1 : b ≤ 9223372036854775807) : Calls Tryz.prog 267 #[.int .i64 a, .int .i64 b, .int .i64 p] w fun r w' => r = .returned (.int .i64 (a % p * iv p b % p)) ∧ w' = w := by
  have pp : (0 : Int) < p := by omega
  have u0 := Int.emod_nonneg a (show (p : Int) ≠ 0 by omega)
  have u1 := Int.emod_lt_of_pos a pp
  obtain ⟨i0, i1⟩ := iv_range (show 0 < p by omega) b
  obtain ⟨q0, q1⟩ := mulBd (x := a % p) (y := iv p b) (p := 1048576) (q := 1048576) u0 (by omega) i0 (by omega)
  go_enter Tryz.func267, Tryz.ntmps267
  go_wp2_with fail
  refine (implInvInt_iv b p _ b0 b1 hpr (by omega) (by omega)).mono ?_
  rintro r w' ⟨⟨ok, rfl⟩, hw⟩
  subst hw
  go_wp2_with fail
  refine (intRest_any _ _ _ a0 a1 (by omega) (by omega)).mono ?_
  rintro r w' ⟨rfl, rfl⟩
  go_wp2
  go_ret
  exact ⟨rfl, rfl⟩

set_option maxHeartbeats 400000 in
theorem opposite_any (p : Nat) (A B N gx gy : Int) (a : Pt) (w : World) (p5 : 5 ≤ p) (pM : p ≤ 1048576) (y0 : 0 ≤ a.y) (y1 : a.y < p) : Calls Tryz.prog 257 #[.agg #[.int .i64 p, .int .i64 A, .int .i64 B, .int .i64 N, .int .i64 gx, .int .i64 gy], .agg #[.int .i64 a.x, .int .i64 a.y, .bool a.far]] w fun r w' => r = .returned (ptV ⟨a.x, (-a.y) % p, false⟩) ∧ Below w.heap.size w w' := by
  have hwr : IntKind.i64.wrap (-a.y) = -a.y := by rw [IntKind.wrap_i64]; omega
  go_enter Tryz.func257, Tryz.ntmps257
  go_wp2
  go_region_with ((go_at_call 265; refine (intRest_any _ _ _ (by omega) (by omega) (by omega) (by omega)).mono ?_; rintro r w' ⟨rfl, rfl⟩))
  all_goals go_wp2
  all_goals
    refine bodyPost_ret (v := .agg #[.int .i64 a.x, .int .i64 ((-a.y) % p), .bool false]) (by simp [results, Tryz.results257, go_sem]) rfl ⟨rfl, ?_⟩
    repeat (first | exact Below.refl _ _ | refine Below.drew ?_ | refine Below.setCell ?_ (by simp <;> omega) _ | refine Below.alloc ?_ (by simp <;> omega) _)
end

end Go.Proofs.YtollgoadgjlccaaGreatDoor
