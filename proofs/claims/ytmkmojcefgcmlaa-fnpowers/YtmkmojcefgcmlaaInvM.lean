/- Plain numbers: inverses by Euclid's rule, in naturals. Nothing of the program. -/
namespace Go.Proofs.Ytmkmojcefgcmlaa
set_option linter.unusedVariables false

/-- The inverse of A by M, if there is one. -/
def invQ (M A : Nat) : Option Int := ((List.range M).find? (fun v => v * A % M == 1)).map (fun v => (v : Int))

theorem inv_unique {M A v u : Nat} (hv : v < M) (e : v * A % M = 1) (hu : u < M) (e2 : u * A % M = 1) : v = u := by
  have e1 : v * (u * A) % M = v := by rw [Nat.mul_mod, e2, Nat.mul_one, Nat.mod_mod, Nat.mod_eq_of_lt hv]
  have e3 : u * (v * A) % M = u := by rw [Nat.mul_mod, e, Nat.mul_one, Nat.mod_mod, Nat.mod_eq_of_lt hu]
  rw [← e1, ← e3]
  congr 1
  grind

theorem invQ_yes {M A v : Nat} (hv : v < M) (e : v * A % M = 1) : invQ M A = some (v : Int) := by
  unfold invQ
  cases h : (List.range M).find? (fun v => v * A % M == 1) with
  | none =>
    have := List.find?_eq_none.1 h v (List.mem_range.2 hv)
    simp [e] at this
  | some u =>
    have h1 := List.find?_some h
    have h2 := List.mem_range.1 (List.mem_of_find?_eq_some h)
    simp only [beq_iff_eq] at h1
    rw [inv_unique h2 h1 hv e]
    rfl

theorem invQ_no {M A : Nat} (hM : 2 ≤ M) (g : Nat.gcd M A ≠ 1) : invQ M A = none := by
  unfold invQ
  cases h : (List.range M).find? (fun v => v * A % M == 1) with
  | none => rfl
  | some u =>
    have h1 := List.find?_some h
    simp only [beq_iff_eq] at h1
    exfalso
    apply g
    have d1 := Nat.gcd_dvd_left M A
    have d2 : Nat.gcd M A ∣ u * A := Nat.dvd_trans (Nat.gcd_dvd_right M A) (Nat.dvd_mul_left A u)
    have d3 : Nat.gcd M A ∣ u * A % M := (Nat.dvd_mod_iff d1).2 d2
    rw [h1] at d3
    exact Nat.dvd_one.1 d3

/-- From a whole number's multiple to what is left. -/
theorem mod_of_dvd {M A v : Nat} (hM : 2 ≤ M) (h : (M : Int) ∣ (v : Int) * A - 1) : v * A % M = 1 := by
  have := Int.emod_eq_emod_iff_emod_sub_eq_zero.2 (Int.emod_eq_zero_of_dvd h)
  rw [Int.emod_eq_of_lt (a := 1) (by omega) (by omega), ← Int.natCast_mul, ← Int.natCast_emod] at this
  omega

/-- What the model keeps: X and Y, times A, leave R and S by M. -/
structure Left (M A R S X Y : Nat) : Prop where
  lt : S < R
  le : R ≤ M
  gcd : Nat.gcd R S = Nat.gcd M A
  dx : (M : Int) ∣ (X : Int) * A - R
  dy : (M : Int) ∣ (Y : Int) * A - S
  xl : X < M
  yl : Y < M

theorem left_start {M A : Nat} (hM : 2 ≤ M) (h : A < M) : Left M A M A 0 1 :=
  ⟨h, Nat.le_refl _, rfl, ⟨-1, by omega⟩, ⟨0, by omega⟩, by omega, by omega⟩

theorem Left.step {M A R S X Y : Nat} (h : Left M A R S X Y) (hS : 0 < S) : Left M A S (R % S) Y ((X + (M - R / S * Y % M)) % M) := by
  have hM : 0 < M := by have := h.lt; have := h.le; omega
  refine ⟨Nat.mod_lt _ hS, by have := h.lt; have := h.le; omega, ?_, h.dy, ?_, h.yl, Nat.mod_lt _ hM⟩
  · rw [← h.gcd, Nat.gcd_comm R S, Nat.gcd_rec S R, Nat.gcd_comm]
  · obtain ⟨c, hc⟩ := h.dx
    obtain ⟨d, hd⟩ := h.dy
    have e1 := Nat.div_add_mod R S
    have e2 := Nat.div_add_mod (R / S * Y) M
    have e3 := Nat.div_add_mod (X + (M - R / S * Y % M)) M
    have l := Nat.mod_lt (R / S * Y) hM
    generalize R % S = T at *
    generalize R / S = Q at *
    generalize hz : (X + (M - Q * Y % M)) % M = Z at *
    generalize (X + (M - Q * Y % M)) / M = k1 at *
    generalize Q * Y / M = k2 at *
    generalize Q * Y % M = t at *
    have f1 : (R : Int) = S * Q + T := by rw [← Int.natCast_mul]; omega
    have f2 : (Q : Int) * Y = M * k2 + t := by rw [← Int.natCast_mul, ← Int.natCast_mul]; omega
    have f3 : (X : Int) + M - t = M * k1 + Z := by rw [← Int.natCast_mul]; omega
    refine ⟨c - Q * d + A - k1 * A + k2 * A, ?_⟩
    grind

theorem Left.done {M A R X Y : Nat} (h : Left M A R 0 X Y) (hM : 2 ≤ M) (h1 : R = 1) : invQ M A = some (X : Int) := by
  subst h1
  exact invQ_yes h.xl (mod_of_dvd hM (by simpa using h.dx))

theorem Left.done_no {M A R X Y : Nat} (h : Left M A R 0 X Y) (hM : 2 ≤ M) (h1 : R ≠ 1) : invQ M A = none := by
  have hg := h.gcd
  rw [Nat.gcd_zero_right] at hg
  exact invQ_no hM (by omega)

/-- What the program keeps: U and V, one of them with its sign turned (t tells which), times A, leave R and S by M. -/
structure Turns (M A R S U V : Nat) (t : Bool) : Prop where
  lt : S < R
  le : R ≤ M
  gcd : Nat.gcd R S = Nat.gcd M A
  dx : (M : Int) ∣ (if t then -(U : Int) else U) * A - R
  dy : (M : Int) ∣ (if t then (V : Int) else -(V : Int)) * A - S
  eq : U * S + V * R = M
  uv : U ≤ V

theorem turns_start {M A : Nat} (h : A < M) : Turns M A M A 0 1 true :=
  ⟨h, Nat.le_refl _, rfl, ⟨-1, by simp⟩, ⟨0, by simp⟩, by omega, by omega⟩

theorem Turns.step {M A R S U V : Nat} {t : Bool} (h : Turns M A R S U V t) (hS : 0 < S) : Turns M A S (R % S) V (U + R / S * V) (!t) := by
  have hq : 1 ≤ R / S := (Nat.le_div_iff_mul_le hS).2 (by have := h.lt; omega)
  have e1 := Nat.div_add_mod R S
  refine ⟨Nat.mod_lt _ hS, by have := h.lt; have := h.le; omega, ?_, ?_, ?_, ?_, ?_⟩
  · rw [← h.gcd, Nat.gcd_comm R S, Nat.gcd_rec S R, Nat.gcd_comm]
  · have := h.dy
    cases t <;> simpa using this
  · obtain ⟨c, hc⟩ := h.dx
    obtain ⟨d, hd⟩ := h.dy
    generalize R % S = T at *
    generalize R / S = Q at *
    have f1 : (R : Int) = S * Q + T := by rw [← Int.natCast_mul]; omega
    refine ⟨c - Q * d, ?_⟩
    rw [Int.natCast_add, Int.natCast_mul]
    cases t
    · simp only [Bool.not_false, if_true, Bool.false_eq_true, if_false] at *
      grind
    · simp only [Bool.not_true, if_true, Bool.false_eq_true, if_false] at *
      grind
  · have := h.eq
    generalize R % S = T at *
    generalize R / S = Q at *
    subst e1
    grind
  · have : 1 * V ≤ R / S * V := Nat.mul_le_mul_right V hq
    omega

/-- None of the program's numbers is above M. -/
theorem Turns.small {M A R S U V : Nat} {t : Bool} (h : Turns M A R S U V t) : U ≤ M ∧ V ≤ M := by
  have hV : V * 1 ≤ V * R := Nat.mul_le_mul_left V (by have := h.lt; omega)
  have := h.eq
  have := h.uv
  omega

theorem Turns.small_mul {M A R S U V : Nat} {t : Bool} (h : Turns M A R S U V t) (hS : 0 < S) : R / S * V ≤ M ∧ U + R / S * V ≤ M ∧ R / S ≤ M := by
  have k := (h.step hS).small
  have := Nat.div_le_self R S
  have := h.le
  omega

theorem Turns.done {M A R U V : Nat} {t : Bool} (h : Turns M A R 0 U V t) (hM : 2 ≤ M) (h1 : R = 1) : U < M ∧ invQ M A = some (if t then ((M - U : Nat) : Int) else (U : Int)) := by
  subst h1
  have hd := h.dx
  have hu := h.small.1
  have no : ∀ z : Int, ¬ (M : Int) ∣ M * z - ((1 : Nat) : Int) := by
    intro z hz
    have h1 : (M : Int) ∣ ((1 : Nat) : Int) := by
      have := Int.dvd_sub (Int.dvd_mul_right (M : Int) z) hz
      rwa [show (M : Int) * z - (M * z - ((1 : Nat) : Int)) = ((1 : Nat) : Int) by omega] at this
    have := Int.le_of_dvd (by omega) h1
    omega
  have hne : U ≠ M := by
    rintro rfl
    cases t
    · exact no A (by simpa using hd)
    · exact no (-A) (by
        have e : (U : Int) * -(A : Int) - ((1 : Nat) : Int) = (if true = true then -(U : Int) else U) * A - ((1 : Nat) : Int) := by simp; grind
        rw [e]; exact hd)
  have hne0 : U ≠ 0 := by
    rintro rfl
    exact no 0 (by cases t <;> simpa using hd)
  refine ⟨by omega, ?_⟩
  cases t
  · exact invQ_yes (by omega) (mod_of_dvd hM (by simpa using hd))
  · refine invQ_yes (by omega) (mod_of_dvd hM ?_)
    obtain ⟨c, hc⟩ := hd
    refine ⟨A + c, ?_⟩
    have e : ((M - U : Nat) : Int) = M - U := by omega
    rw [e]
    simp only [if_true] at hc
    have hc' : -(U : Int) * A - 1 = M * c := hc
    grind

theorem Turns.done_no {M A R U V : Nat} {t : Bool} (h : Turns M A R 0 U V t) (hM : 2 ≤ M) (h1 : R ≠ 1) : invQ M A = none := by
  have hg := h.gcd
  rw [Nat.gcd_zero_right] at hg
  exact invQ_no hM (by omega)

end Go.Proofs.Ytmkmojcefgcmlaa
