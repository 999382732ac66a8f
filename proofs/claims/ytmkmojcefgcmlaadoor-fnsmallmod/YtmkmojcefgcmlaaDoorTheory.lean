/- Plain numbers: powers by squaring, inverses by Euclid's rule. Nothing of the program. Plain numbers: inverses by Euclid's rule, in naturals. Nothing of the program. Plain numbers: Fermat's theorem, Euler's rule and square roots by a prime number. Nothing of the program. -/
namespace Go.Proofs.YtmkmojcefgcmlaaDoor
set_option linter.unusedVariables false

/-- A step of a power by squaring, at an odd exponent. -/
theorem pow_odd (o b x m : Nat) (h : x % 2 = 1) : (o * b % m) * (b * b % m) ^ (x / 2) % m = o * b ^ x % m := by
  have e : b ^ x = b * (b * b) ^ (x / 2) := by
    conv => lhs; rw [show x = 1 + 2 * (x / 2) by omega, Nat.pow_add, Nat.pow_mul, Nat.pow_two, Nat.pow_one]
  rw [e, Nat.mul_mod, Nat.mod_mod, ← Nat.pow_mod, ← Nat.mul_mod, ← Nat.mul_assoc]

/-- A step at an even exponent. -/
theorem pow_even (o b x m : Nat) (h : x % 2 = 0) : o * (b * b % m) ^ (x / 2) % m = o * b ^ x % m := by
  have e : b ^ x = (b * b) ^ (x / 2) := by
    conv => lhs; rw [show x = 2 * (x / 2) by omega, Nat.pow_mul, Nat.pow_two]
  rw [e, Nat.mul_mod, ← Nat.pow_mod, ← Nat.mul_mod]

theorem pow_start (a e m : Nat) : 1 % m * (a % m) ^ e % m = a ^ e % m := by
  rw [Nat.mul_mod, Nat.mod_mod, ← Nat.pow_mod, ← Nat.mul_mod, Nat.one_mul]

/-- A product of two below 2^30. -/
theorem mul_small {x y m : Nat} (hm : m ≤ 1073741824) (hx : x < m) (hy : y < m) : (x : Int) * (y : Int) ≤ 1152921504606846976 := by
  have : x * y ≤ 1073741824 * 1073741824 := Nat.mul_le_mul (by omega) (by omega)
  have h2 : ((x * y : Nat) : Int) ≤ 1152921504606846976 := by omega
  rwa [Int.natCast_mul] at h2

/-- What the rule of Euclid keeps, to and fro: R and S are what is left, X and Y by m times a leave them, one of them with its sign turned. -/
structure Euclid (m a R S : Nat) (X Y : Int) : Prop where
  lt : S < R
  gcd : Nat.gcd R S = Nat.gcd m a
  dx : (m : Int) ∣ X * a - R
  dy : (m : Int) ∣ Y * a - S
  bd : ∃ U V : Nat, ((X = U ∧ Y = -(V : Int)) ∨ (X = -(U : Int) ∧ Y = V)) ∧ U * S + V * R = m ∧ U ≤ V

theorem euclid_start {m a : Nat} (h : a < m) : Euclid m a m a 0 1 :=
  ⟨h, rfl, ⟨-1, by omega⟩, ⟨0, by omega⟩, 0, 1, Or.inr ⟨by omega, by omega⟩, by omega, by omega⟩

theorem Euclid.step {m a R S : Nat} {X Y : Int} (h : Euclid m a R S X Y) (hS : 0 < S) : Euclid m a S (R % S) Y (X - (R / S : Nat) * Y) := by
  refine ⟨Nat.mod_lt _ hS, ?_, h.dy, ?_, ?_⟩
  · rw [← h.gcd, Nat.gcd_comm R S, Nat.gcd_rec S R, Nat.gcd_comm]
  · obtain ⟨c, hc⟩ := h.dx
    obtain ⟨d, hd⟩ := h.dy
    refine ⟨c - (R / S : Nat) * d, ?_⟩
    have e : (R : Int) = S * (R / S : Nat) + (R % S : Nat) := by
      have := Nat.div_add_mod R S
      rw [← Int.natCast_mul]; omega
    grind
  · obtain ⟨U, V, hs, hm, hle⟩ := h.bd
    have hq : 1 ≤ R / S := (Nat.le_div_iff_mul_le hS).2 (by have := h.lt; omega)
    refine ⟨V, U + R / S * V, ?_, ?_, ?_⟩
    · rcases hs with ⟨rfl, rfl⟩ | ⟨rfl, rfl⟩
      · right
        refine ⟨rfl, ?_⟩
        rw [Int.natCast_add, Int.natCast_mul]; grind
      · left
        refine ⟨rfl, ?_⟩
        rw [Int.natCast_add, Int.natCast_mul]; grind
    · have := Nat.div_add_mod R S
      generalize R / S = q at *
      generalize R % S = t at *
      subst this
      grind
    · have : 1 * V ≤ R / S * V := Nat.mul_le_mul_right V hq
      omega

/-- The numbers are never longer than m. -/
theorem Euclid.small {m a R S : Nat} {X Y : Int} (h : Euclid m a R S X Y) : X ≤ m ∧ -(m : Int) ≤ X ∧ Y ≤ m ∧ -(m : Int) ≤ Y := by
  obtain ⟨U, V, hs, hm, hle⟩ := h.bd
  have hV : V * 1 ≤ V * R := Nat.mul_le_mul_left V (by have := h.lt; omega)
  have : V ≤ m := by omega
  rcases hs with ⟨rfl, rfl⟩ | ⟨rfl, rfl⟩ <;> omega

theorem Euclid.small_mul {m a R S : Nat} {X Y : Int} (h : Euclid m a R S X Y) (hS : 0 < S) : (R / S : Nat) * Y ≤ m ∧ -(m : Int) ≤ (R / S : Nat) * Y := by
  have k := (h.step hS).small
  have l := h.small
  obtain ⟨U, V, hs, hm, hle⟩ := h.bd
  have z : 0 ≤ ((R / S : Nat) : Int) * (V : Int) := Int.mul_nonneg (Int.natCast_nonneg _) (Int.natCast_nonneg _)
  rcases hs with ⟨rfl, rfl⟩ | ⟨rfl, rfl⟩
  · rw [Int.mul_neg] at *; omega
  · omega

/-- The number below m whose product with a leaves 1, if there is one. -/
structure IsInv (m a : Nat) (v : Int) (ok : Bool) : Prop where
  yes : ok = true → 0 ≤ v ∧ v < m ∧ v * a % m = 1
  no : ok = false → v = 0
  dec : ok = decide (Nat.gcd m a = 1)

theorem IsInv.unique {m a : Nat} {v v' : Int} {ok ok' : Bool} (h : IsInv m a v ok) (h' : IsInv m a v' ok') : v = v' ∧ ok = ok' := by
  have e : ok = ok' := by rw [h.dec, h'.dec]
  subst e
  refine ⟨?_, rfl⟩
  cases ok with
  | false => rw [h.no rfl, h'.no rfl]
  | true =>
    obtain ⟨a0, a1, a2⟩ := h.yes rfl
    obtain ⟨b0, b1, b2⟩ := h'.yes rfl
    have e1 : v * (v' * a) % m = v := by
      rw [Int.mul_emod, b2, Int.mul_one, Int.emod_emod, Int.emod_eq_of_lt a0 a1]
    have e2 : v' * (v * a) % m = v' := by
      rw [Int.mul_emod, a2, Int.mul_one, Int.emod_emod, Int.emod_eq_of_lt b0 b1]
    rw [← e1, ← e2]
    congr 1
    grind

theorem Euclid.done {m a R : Nat} {X Y : Int} (h : Euclid m a R 0 X Y) (hm : 2 ≤ m) (h1 : R = 1) : IsInv m a (X % m) true ∧ 0 < X % m := by
  subst h1
  have hg := h.gcd
  rw [Nat.gcd_zero_right] at hg
  have hx : X % m * a % m = 1 := by
    rw [Int.mul_emod, Int.emod_emod, ← Int.mul_emod]
    have hd := h.dx
    have := Int.emod_eq_emod_iff_emod_sub_eq_zero.2 (Int.emod_eq_zero_of_dvd hd)
    rw [this, show ((1 : Nat) : Int) = 1 from rfl, Int.emod_eq_of_lt (by omega) (by omega)]
  have h0 := Int.emod_nonneg X (show (m : Int) ≠ 0 by omega)
  have h1 := Int.emod_lt_of_pos X (show (0 : Int) < m by omega)
  refine ⟨⟨fun _ => ⟨h0, h1, hx⟩, fun h => by simp at h, by simp [← hg]⟩, ?_⟩
  rcases Int.lt_or_eq_of_le h0 with h2 | h2
  · exact h2
  · rw [← h2] at hx; simp at hx

theorem Euclid.done_no {m a R : Nat} {X Y : Int} (h : Euclid m a R 0 X Y) (h1 : R ≠ 1) : IsInv m a 0 false := by
  have hg := h.gcd
  rw [Nat.gcd_zero_right] at hg
  refine ⟨fun h => by simp at h, fun _ => rfl, ?_⟩
  have : ¬ Nat.gcd m a = 1 := by omega
  simp [this]

/-- The inverse of A by M, if there is one. -/
def invQ (M A : Nat) : Option Int := ((List.range M).find? (fun v => v * A % M == 1)).map (fun v => (v : Int))

theorem inv_unique {M A v u : Nat} (hv : v < M) (e : v * A % M = 1) (hu : u < M) (e2 : u * A % M = 1) : v = u := by
  have e1 : v * (u * A) % M = v := by rw [Nat.mul_mod, e2, Nat.mul_one, Nat.mod_mod, Nat.mod_eq_of_lt hv]
  have e3 : u * (v * A) % M = u := by rw [Nat.mul_mod, e, Nat.mul_one, Nat.mod_mod, Nat.mod_eq_of_lt hu]
  rw [← e1, ← e3]
  congr 1
  grind

theorem invQ_yes {M A v : Nat} (hv : v < M) (e : v * A % M = 1) : invQ M A = some (v : Int) := by
  unfold invQ
  cases h : (List.range M).find? (fun v => v * A % M == 1) with
  | none =>
    have := List.find?_eq_none.1 h v (List.mem_range.2 hv)
    simp [e] at this
  | some u =>
    have h1 := List.find?_some h
    have h2 := List.mem_range.1 (List.mem_of_find?_eq_some h)
    simp only [beq_iff_eq] at h1
    rw [inv_unique h2 h1 hv e]
    rfl

theorem invQ_no {M A : Nat} (hM : 2 ≤ M) (g : Nat.gcd M A ≠ 1) : invQ M A = none := by
  unfold invQ
  cases h : (List.range M).find? (fun v => v * A % M == 1) with
  | none => rfl
  | some u =>
    have h1 := List.find?_some h
    simp only [beq_iff_eq] at h1
    exfalso
    apply g
    have d1 := Nat.gcd_dvd_left M A
    have d2 : Nat.gcd M A ∣ u * A := Nat.dvd_trans (Nat.gcd_dvd_right M A) (Nat.dvd_mul_left A u)
    have d3 : Nat.gcd M A ∣ u * A % M := (Nat.dvd_mod_iff d1).2 d2
    rw [h1] at d3
    exact Nat.dvd_one.1 d3

/-- From a whole number's multiple to what is left. -/
theorem mod_of_dvd {M A v : Nat} (hM : 2 ≤ M) (h : (M : Int) ∣ (v : Int) * A - 1) : v * A % M = 1 := by
  have := Int.emod_eq_emod_iff_emod_sub_eq_zero.2 (Int.emod_eq_zero_of_dvd h)
  rw [Int.emod_eq_of_lt (a := 1) (by omega) (by omega), ← Int.natCast_mul, ← Int.natCast_emod] at this
  omega

/-- What the model keeps: X and Y, times A, leave R and S by M. -/
structure Left (M A R S X Y : Nat) : Prop where
  lt : S < R
  le : R ≤ M
  gcd : Nat.gcd R S = Nat.gcd M A
  dx : (M : Int) ∣ (X : Int) * A - R
  dy : (M : Int) ∣ (Y : Int) * A - S
  xl : X < M
  yl : Y < M

theorem left_start {M A : Nat} (hM : 2 ≤ M) (h : A < M) : Left M A M A 0 1 :=
  ⟨h, Nat.le_refl _, rfl, ⟨-1, by omega⟩, ⟨0, by omega⟩, by omega, by omega⟩

theorem Left.step {M A R S X Y : Nat} (h : Left M A R S X Y) (hS : 0 < S) : Left M A S (R % S) Y ((X + (M - R / S * Y % M)) % M) := by
  have hM : 0 < M := by have := h.lt; have := h.le; omega
  refine ⟨Nat.mod_lt _ hS, by have := h.lt; have := h.le; omega, ?_, h.dy, ?_, h.yl, Nat.mod_lt _ hM⟩
  · rw [← h.gcd, Nat.gcd_comm R S, Nat.gcd_rec S R, Nat.gcd_comm]
  · obtain ⟨c, hc⟩ := h.dx
    obtain ⟨d, hd⟩ := h.dy
    have e1 := Nat.div_add_mod R S
    have e2 := Nat.div_add_mod (R / S * Y) M
    have e3 := Nat.div_add_mod (X + (M - R / S * Y % M)) M
    have l := Nat.mod_lt (R / S * Y) hM
    generalize R % S = T at *
    generalize R / S = Q at *
    generalize hz : (X + (M - Q * Y % M)) % M = Z at *
    generalize (X + (M - Q * Y % M)) / M = k1 at *
    generalize Q * Y / M = k2 at *
    generalize Q * Y % M = t at *
    have f1 : (R : Int) = S * Q + T := by rw [← Int.natCast_mul]; omega
    have f2 : (Q : Int) * Y = M * k2 + t := by rw [← Int.natCast_mul, ← Int.natCast_mul]; omega
    have f3 : (X : Int) + M - t = M * k1 + Z := by rw [← Int.natCast_mul]; omega
    refine ⟨c - Q * d + A - k1 * A + k2 * A, ?_⟩
    grind

theorem Left.done {M A R X Y : Nat} (h : Left M A R 0 X Y) (hM : 2 ≤ M) (h1 : R = 1) : invQ M A = some (X : Int) := by
  subst h1
  exact invQ_yes h.xl (mod_of_dvd hM (by simpa using h.dx))

theorem Left.done_no {M A R X Y : Nat} (h : Left M A R 0 X Y) (hM : 2 ≤ M) (h1 : R ≠ 1) : invQ M A = none := by
  have hg := h.gcd
  rw [Nat.gcd_zero_right] at hg
  exact invQ_no hM (by omega)

/-- What the program keeps: U and V, one of them with its sign turned (t tells which), times A, leave R and S by M. -/
structure Turns (M A R S U V : Nat) (t : Bool) : Prop where
  lt : S < R
  le : R ≤ M
  gcd : Nat.gcd R S = Nat.gcd M A
  dx : (M : Int) ∣ (if t then -(U : Int) else U) * A - R
  dy : (M : Int) ∣ (if t then (V : Int) else -(V : Int)) * A - S
  eq : U * S + V * R = M
  uv : U ≤ V

theorem turns_start {M A : Nat} (h : A < M) : Turns M A M A 0 1 true :=
  ⟨h, Nat.le_refl _, rfl, ⟨-1, by simp⟩, ⟨0, by simp⟩, by omega, by omega⟩

theorem Turns.step {M A R S U V : Nat} {t : Bool} (h : Turns M A R S U V t) (hS : 0 < S) : Turns M A S (R % S) V (U + R / S * V) (!t) := by
  have hq : 1 ≤ R / S := (Nat.le_div_iff_mul_le hS).2 (by have := h.lt; omega)
  have e1 := Nat.div_add_mod R S
  refine ⟨Nat.mod_lt _ hS, by have := h.lt; have := h.le; omega, ?_, ?_, ?_, ?_, ?_⟩
  · rw [← h.gcd, Nat.gcd_comm R S, Nat.gcd_rec S R, Nat.gcd_comm]
  · have := h.dy
    cases t <;> simpa using this
  · obtain ⟨c, hc⟩ := h.dx
    obtain ⟨d, hd⟩ := h.dy
    generalize R % S = T at *
    generalize R / S = Q at *
    have f1 : (R : Int) = S * Q + T := by rw [← Int.natCast_mul]; omega
    refine ⟨c - Q * d, ?_⟩
    rw [Int.natCast_add, Int.natCast_mul]
    cases t
    · simp only [Bool.not_false, if_true, Bool.false_eq_true, if_false] at *
      grind
    · simp only [Bool.not_true, if_true, Bool.false_eq_true, if_false] at *
      grind
  · have := h.eq
    generalize R % S = T at *
    generalize R / S = Q at *
    subst e1
    grind
  · have : 1 * V ≤ R / S * V := Nat.mul_le_mul_right V hq
    omega

/-- None of the program's numbers is above M. -/
theorem Turns.small {M A R S U V : Nat} {t : Bool} (h : Turns M A R S U V t) : U ≤ M ∧ V ≤ M := by
  have hV : V * 1 ≤ V * R := Nat.mul_le_mul_left V (by have := h.lt; omega)
  have := h.eq
  have := h.uv
  omega

theorem Turns.small_mul {M A R S U V : Nat} {t : Bool} (h : Turns M A R S U V t) (hS : 0 < S) : R / S * V ≤ M ∧ U + R / S * V ≤ M ∧ R / S ≤ M := by
  have k := (h.step hS).small
  have := Nat.div_le_self R S
  have := h.le
  omega

theorem Turns.done {M A R U V : Nat} {t : Bool} (h : Turns M A R 0 U V t) (hM : 2 ≤ M) (h1 : R = 1) : U < M ∧ invQ M A = some (if t then ((M - U : Nat) : Int) else (U : Int)) := by
  subst h1
  have hd := h.dx
  have hu := h.small.1
  have no : ∀ z : Int, ¬ (M : Int) ∣ M * z - ((1 : Nat) : Int) := by
    intro z hz
    have h1 : (M : Int) ∣ ((1 : Nat) : Int) := by
      have := Int.dvd_sub (Int.dvd_mul_right (M : Int) z) hz
      rwa [show (M : Int) * z - (M * z - ((1 : Nat) : Int)) = ((1 : Nat) : Int) by omega] at this
    have := Int.le_of_dvd (by omega) h1
    omega
  have hne : U ≠ M := by
    rintro rfl
    cases t
    · exact no A (by simpa using hd)
    · exact no (-A) (by
        have e : (U : Int) * -(A : Int) - ((1 : Nat) : Int) = (if true = true then -(U : Int) else U) * A - ((1 : Nat) : Int) := by simp; grind
        rw [e]; exact hd)
  have hne0 : U ≠ 0 := by
    rintro rfl
    exact no 0 (by cases t <;> simpa using hd)
  refine ⟨by omega, ?_⟩
  cases t
  · exact invQ_yes (by omega) (mod_of_dvd hM (by simpa using hd))
  · refine invQ_yes (by omega) (mod_of_dvd hM ?_)
    obtain ⟨c, hc⟩ := hd
    refine ⟨A + c, ?_⟩
    have e : ((M - U : Nat) : Int) = M - U := by omega
    rw [e]
    simp only [if_true] at hc
    have hc' : -(U : Int) * A - 1 = M * c := hc
    grind

theorem Turns.done_no {M A R U V : Nat} {t : Bool} (h : Turns M A R 0 U V t) (hM : 2 ≤ M) (h1 : R ≠ 1) : invQ M A = none := by
  have hg := h.gcd
  rw [Nat.gcd_zero_right] at hg
  exact invQ_no hM (by omega)

/-- A prime number, as trial division tells it. -/
def Prime (p : Nat) : Prop := 2 ≤ p ∧ ∀ d, 2 ≤ d → d * d ≤ p → ¬ d ∣ p

theorem Prime.no_div {p : Nat} (h : Prime p) {d : Nat} (h1 : 2 ≤ d) (h2 : d < p) : ¬ d ∣ p := by
  intro hd
  by_cases hq : d * d ≤ p
  · exact h.2 d h1 hq hd
  · obtain ⟨c, rfl⟩ := hd
    have hc : c < d := by
      rcases Nat.lt_or_ge c d with h | h
      · exact h
      · exact absurd (Nat.mul_le_mul_left d h) hq
    have hc2 : 2 ≤ c := by
      rcases Nat.lt_or_ge c 2 with h' | h'
      · have : c = 0 ∨ c = 1 := by omega
        rcases this with rfl | rfl <;> omega
      · exact h'
    refine h.2 c hc2 ?_ ⟨d, Nat.mul_comm _ _⟩
    exact Nat.mul_le_mul_right c (Nat.le_of_lt hc)

theorem Prime.coprime {p : Nat} (h : Prime p) {n : Nat} (hn : ¬ p ∣ n) : Nat.Coprime p n := by
  have hg := Nat.gcd_dvd_left p n
  have hn' := Nat.gcd_dvd_right p n
  have hle := Nat.le_of_dvd (by have := h.1; omega) hg
  have hpos : 0 < Nat.gcd p n := Nat.gcd_pos_of_pos_left _ (by have := h.1; omega)
  rcases Nat.lt_or_ge (Nat.gcd p n) 2 with hlt | hge
  · show Nat.gcd p n = 1
    omega
  · rcases Nat.lt_or_ge (Nat.gcd p n) p with h1 | h1
    · exact absurd hg (h.no_div hge h1)
    · have e : Nat.gcd p n = p := by omega
      rw [e] at hn'
      exact absurd hn' hn

theorem Prime.dvd_mul {p : Nat} (h : Prime p) {a b : Nat} (hd : p ∣ a * b) : p ∣ a ∨ p ∣ b := by
  by_cases ha : p ∣ a
  · exact Or.inl ha
  · exact Or.inr ((h.coprime ha).dvd_of_dvd_mul_left hd)

/-- Pascal's numbers. -/
def ch : Nat → Nat → Nat
  | _, 0 => 1
  | 0, _ + 1 => 0
  | n + 1, k + 1 => ch n k + ch n (k + 1)

theorem ch_zero (n : Nat) : ch n 0 = 1 := by cases n <;> rfl
theorem ch_succ (n k : Nat) : ch (n + 1) (k + 1) = ch n k + ch n (k + 1) := rfl

theorem ch_big (n : Nat) : ∀ k, n < k → ch n k = 0 := by
  induction n with
  | zero => intro k hk; obtain ⟨j, rfl⟩ : ∃ j, k = j + 1 := ⟨k - 1, by omega⟩; rfl
  | succ n ih => intro k hk; obtain ⟨j, rfl⟩ : ∃ j, k = j + 1 := ⟨k - 1, by omega⟩; rw [ch_succ, ih _ (by omega), ih _ (by omega)]

theorem ch_self (n : Nat) : ch n n = 1 := by
  induction n with
  | zero => rfl
  | succ n ih => rw [ch_succ, ih, ch_big n (n + 1) (by omega)]

theorem ch_absorb (n : Nat) : ∀ k, (k + 1) * ch (n + 1) (k + 1) = (n + 1) * ch n k := by
  induction n with
  | zero =>
    intro k
    cases k with
    | zero => rfl
    | succ k => simp [ch]
  | succ n ih =>
    intro k
    cases k with
    | zero => simp only [ch_succ (n + 1) 0, ch_zero]; have := ih 0; simp only [ch_zero] at this; simp only [Nat.zero_add] at *; omega
    | succ k =>
      have h1 := ih k
      have h2 := ih (k + 1)
      rw [ch_succ (n + 1) (k + 1)]
      have e := ch_succ n k
      have : (k + 1 + 1) * (ch (n + 1) (k + 1) + ch (n + 1) (k + 1 + 1)) = (k + 1) * ch (n + 1) (k + 1) + ch (n + 1) (k + 1) + (k + 1 + 1) * ch (n + 1) (k + 1 + 1) := by
        rw [Nat.mul_add, Nat.add_mul (k + 1) 1, Nat.one_mul]
      rw [this, h1, h2, e]
      grind

theorem Prime.ch_dvd {p : Nat} (h : Prime p) {k : Nat} (h0 : 0 < k) (h1 : k < p) : p ∣ ch p k := by
  obtain ⟨q, rfl⟩ : ∃ q, p = q + 1 := ⟨p - 1, by omega⟩
  obtain ⟨j, rfl⟩ : ∃ j, k = j + 1 := ⟨k - 1, by omega⟩
  have e := ch_absorb q j
  rcases h.dvd_mul (a := j + 1) (b := ch (q + 1) (j + 1)) ⟨ch q j, e⟩ with hd | hd
  · exact absurd (Nat.le_of_dvd (by omega) hd) (by omega)
  · exact hd

/-- The first m rows of a power of x + 1. -/
def bin (n x : Nat) : Nat → Nat
  | 0 => 0
  | m + 1 => bin n x m + ch n m * x ^ m

theorem bin_step (n x : Nat) : ∀ m, bin (n + 1) x (m + 1) = bin n x (m + 1) + x * bin n x m := by
  intro m
  induction m with
  | zero => simp [bin, ch_zero]
  | succ m ih =>
    rw [bin, ih, ch_succ]
    conv => rhs; rw [bin]
    have e : x * bin n x (m + 1) = x * bin n x m + ch n m * x ^ (m + 1) := by
      rw [bin, Nat.mul_add, Nat.pow_succ]; grind
    rw [e, Nat.add_mul]
    omega

theorem bin_all (n x : Nat) : bin n x (n + 1) = (x + 1) ^ n := by
  induction n with
  | zero => simp [bin, ch_zero]
  | succ n ih =>
    rw [bin_step, bin, ch_big n (n + 1) (by omega), ih, Nat.pow_succ]
    grind

theorem Prime.bin_mid {p : Nat} (h : Prime p) (x : Nat) : ∀ m, m < p → bin p x (m + 1) % p = 1 % p := by
  intro m
  induction m with
  | zero => intro _; simp [bin, ch_zero]
  | succ m ih =>
    intro hm
    rw [bin, Nat.add_mod, ih (by omega)]
    have hd : p ∣ ch p (m + 1) * x ^ (m + 1) := Nat.dvd_trans (h.ch_dvd (by omega) hm) (Nat.dvd_mul_right _ _)
    rw [Nat.mod_eq_zero_of_dvd hd]
    simp

theorem Prime.dream {p : Nat} (h : Prime p) (x : Nat) : (x + 1) ^ p % p = (x ^ p + 1) % p := by
  obtain ⟨q, rfl⟩ : ∃ q, p = q + 1 := ⟨p - 1, by have := h.1; omega⟩
  rw [← bin_all, bin, Nat.add_mod, h.bin_mid x q (by omega), ch_self, Nat.one_mul, ← Nat.add_mod, Nat.add_comm]

theorem Prime.fermat' {p : Nat} (h : Prime p) (x : Nat) : x ^ p % p = x % p := by
  induction x with
  | zero => rw [Nat.zero_pow (by have := h.1; omega)]
  | succ x ih => rw [h.dream, Nat.add_mod, ih, ← Nat.add_mod]

/-- What is equal by p stays so without a factor that p does not divide. -/
theorem Prime.cancel {p : Nat} (h : Prime p) {c a b : Nat} (hc : ¬ p ∣ c) (e : c * a % p = c * b % p) : a % p = b % p := by
  have key : ∀ a b : Nat, a ≤ b → c * a % p = c * b % p → a % p = b % p := by
    intro a b hab e
    have hd : p ∣ c * (b - a) := by
      rw [Nat.mul_sub]
      exact Nat.dvd_of_mod_eq_zero (Nat.sub_mod_eq_zero_of_mod_eq e.symm)
    have hd2 : p ∣ b - a := (h.dvd_mul hd).resolve_left hc
    obtain ⟨t, ht⟩ := hd2
    rw [show b = a + p * t by omega, Nat.add_mul_mod_self_left]
  rcases Nat.le_total a b with hab | hab
  · exact key a b hab e
  · exact (key b a hab e.symm).symm

theorem Prime.fermat {p : Nat} (h : Prime p) {x : Nat} (hx : ¬ p ∣ x) : x ^ (p - 1) % p = 1 := by
  have e := h.fermat' x
  obtain ⟨q, rfl⟩ : ∃ q, p = q + 1 := ⟨p - 1, by have := h.1; omega⟩
  rw [Nat.pow_succ, Nat.mul_comm] at e
  have := h.cancel hx (a := x ^ q) (b := 1) (by rw [e, Nat.mul_one])
  simp only [Nat.add_sub_cancel]
  rw [this, Nat.mod_eq_of_lt (by have := h.1; omega)]

/-- What is squared to 1 by a prime number is 1 or the number below it. -/
theorem Prime.root_one {p : Nat} (h : Prime p) {y : Nat} (hy : y < p) (e : y * y % p = 1) : y = 1 ∨ y = p - 1 := by
  have hp := h.1
  have hd : p ∣ y * y - 1 := by
    apply Nat.dvd_of_mod_eq_zero
    apply Nat.sub_mod_eq_zero_of_mod_eq
    rw [e, Nat.mod_eq_of_lt (by omega)]
  have hy0 : 0 < y := by
    rcases Nat.eq_zero_or_pos y with rfl | h0
    · simp at e
    · exact h0
  have e2 : y * y - 1 = (y - 1) * (y + 1) := by
    obtain ⟨z, rfl⟩ : ∃ z, y = z + 1 := ⟨y - 1, by omega⟩
    simp only [Nat.add_sub_cancel]
    have : (z + 1) * (z + 1) = z * (z + 1 + 1) + 1 := by grind
    omega
  rw [e2] at hd
  rcases h.dvd_mul hd with h1 | h1
  · left
    rcases Nat.eq_zero_or_pos (y - 1) with h0 | h0
    · omega
    · have := Nat.le_of_dvd h0 h1; omega
  · right
    have := Nat.le_of_dvd (by omega) h1; omega

/-- Two whose squares leave the same are each other, or together the prime number. -/
theorem Prime.two_roots {p : Nat} (h : Prime p) {x y : Nat} (hx : x < p) (hy : y < p) (e : x * x % p = y * y % p) : x = y ∨ x + y = p ∨ (x = 0 ∧ y = 0) := by
  have key : ∀ x y : Nat, x ≤ y → x < p → y < p → x * x % p = y * y % p → x = y ∨ x + y = p ∨ (x = 0 ∧ y = 0) := by
    intro x y hxy hx hy e
    have hd : p ∣ y * y - x * x := Nat.dvd_of_mod_eq_zero (Nat.sub_mod_eq_zero_of_mod_eq e.symm)
    have e2 : y * y - x * x = (y - x) * (y + x) := by
      obtain ⟨z, rfl⟩ : ∃ z, y = x + z := ⟨y - x, by omega⟩
      have : (x + z) * (x + z) = (x + z - x) * (x + z + x) + x * x := by
        rw [Nat.add_sub_cancel_left]; grind
      omega
    rw [e2] at hd
    rcases h.dvd_mul hd with h1 | h1
    · rcases Nat.eq_zero_or_pos (y - x) with h0 | h0
      · left; omega
      · have := Nat.le_of_dvd h0 h1; omega
    · rcases Nat.eq_zero_or_pos (y + x) with h0 | h0
      · left; omega
      · obtain ⟨c, hc⟩ := h1
        have hc1 : c = 1 := by
          rcases Nat.lt_or_ge c 2 with h2 | h2
          · rcases (show c = 0 ∨ c = 1 by omega) with rfl | rfl
            · omega
            · rfl
          · have := Nat.mul_le_mul_left p h2; omega
        subst hc1
        right; left; omega
  rcases Nat.le_total x y with hxy | hxy
  · exact key x y hxy hx hy e
  · rcases key y x hxy hy hx e.symm with h | h | h
    · exact Or.inl h.symm
    · exact Or.inr (Or.inl (by omega))
    · exact Or.inl (by omega)

/-- A function that is told by a polynomial of degree d whose leading number is 1. -/
def IsPoly : Nat → (Int → Int) → Prop
  | 0, F => ∀ x, F x = 1
  | d + 1, F => ∀ r, ∃ Q, IsPoly d Q ∧ ∀ x, F x - F r = (x - r) * Q x

theorem isPoly_step : ∀ (d : Nat) (F : Int → Int) (c : Int), IsPoly d F → IsPoly (d + 1) (fun x => x * F x + c) := by
  intro d
  induction d with
  | zero =>
    intro F c h r
    refine ⟨fun _ => 1, fun _ => rfl, fun x => ?_⟩
    simp only [h x, h r]; grind
  | succ d ih =>
    intro F c h r
    obtain ⟨Q, hQ, e⟩ := h r
    refine ⟨fun x => x * Q x + F r, ih Q (F r) hQ, fun x => ?_⟩
    have e1 := e x
    have e2 : F x = F r + (x - r) * Q x := by omega
    simp only [e2]; grind

theorem isPoly_pow : ∀ (k : Nat), IsPoly k (fun x => x ^ k) := by
  intro k
  induction k with
  | zero => intro x; simp
  | succ k ih =>
    have h := isPoly_step k _ 0 ih
    have e : (fun x : Int => x * x ^ k + 0) = fun x => x ^ (k + 1) := by
      funext x; rw [Int.pow_succ, Int.mul_comm]; omega
    rwa [e] at h

theorem isPoly_pow_less (k : Nat) (c : Int) : IsPoly (k + 1) (fun x => x ^ (k + 1) + c) := by
  have h := isPoly_step k _ c (isPoly_pow k)
  have e : (fun x : Int => x * x ^ k + c) = fun x => x ^ (k + 1) + c := by
    funext x; rw [Int.pow_succ, Int.mul_comm]
  rwa [e] at h

theorem Prime.dvd_mul_int {p : Nat} (h : Prime p) {a b : Int} (hd : (p : Int) ∣ a * b) : (p : Int) ∣ a ∨ (p : Int) ∣ b := by
  have := Int.natAbs_dvd_natAbs.2 hd
  rw [Int.natAbs_mul, Int.natAbs_natCast] at this
  rcases h.dvd_mul this with h1 | h1
  · exact Or.inl (by rw [← Int.natAbs_dvd_natAbs, Int.natAbs_natCast]; exact h1)
  · exact Or.inr (by rw [← Int.natAbs_dvd_natAbs, Int.natAbs_natCast]; exact h1)

/-- It is not nought by p at more places in a row than its degree. -/
theorem Prime.few_roots {p : Nat} (h : Prime p) : ∀ (d : Nat) (F : Int → Int) (s : Int), d < p → IsPoly d F → ¬ ∀ i : Nat, i ≤ d → (p : Int) ∣ F (s + i) := by
  intro d
  induction d with
  | zero =>
    intro F s _ hF hall
    have h1 := hall 0 (Nat.le_refl _)
    rw [hF] at h1
    have := Int.le_of_dvd (by omega) h1
    have := h.1
    omega
  | succ d ih =>
    intro F s hd hF hall
    obtain ⟨Q, hQ, e⟩ := hF s
    refine ih Q (s + 1) (by omega) hQ (fun i hi => ?_)
    have h0 := hall 0 (by omega)
    rw [show s + ((0 : Nat) : Int) = s by omega] at h0
    have h1 := hall (i + 1) (by omega)
    have e1 := e (s + ((i + 1 : Nat) : Int))
    have hdv := Int.dvd_sub h1 h0
    rw [e1] at hdv
    rcases h.dvd_mul_int hdv with h2 | h2
    · have := Int.le_of_dvd (by omega) h2
      omega
    · rw [show s + 1 + (i : Int) = s + ((i + 1 : Nat) : Int) by omega]
      exact h2

/-- Some number from 1 to k + 1 is not 1 when raised to k. -/
theorem Prime.not_all_one {p : Nat} (h : Prime p) {k : Nat} (h0 : 0 < k) (h1 : k < p) : ∃ n : Nat, 1 ≤ n ∧ n ≤ k + 1 ∧ n ^ k % p ≠ 1 := by
  obtain ⟨j, rfl⟩ : ∃ j, k = j + 1 := ⟨k - 1, by omega⟩
  apply Classical.byContradiction
  intro hno
  refine h.few_roots (j + 1) _ 1 h1 (isPoly_pow_less j (-1)) (fun i hi => ?_)
  have hn : (i + 1) ^ (j + 1) % p = 1 := by
    apply Classical.byContradiction
    intro hne
    exact hno ⟨i + 1, by omega, by omega, hne⟩
  have e : ((1 : Int) + (i : Int)) ^ (j + 1) = (((i + 1) ^ (j + 1) : Nat) : Int) := by
    rw [Int.natCast_pow]; congr 1; omega
  show (p : Int) ∣ (1 + (i : Int)) ^ (j + 1) + -1
  rw [e]
  have := h.1
  have h3 : p ∣ (i + 1) ^ (j + 1) - 1 := by
    apply Nat.dvd_of_mod_eq_zero
    apply Nat.sub_mod_eq_zero_of_mod_eq
    rw [hn, Nat.mod_eq_of_lt (by omega)]
  have h4 : 1 ≤ (i + 1) ^ (j + 1) := Nat.pow_pos (by omega)
  have h5 : (((i + 1) ^ (j + 1) : Nat) : Int) + -1 = (((i + 1) ^ (j + 1) - 1 : Nat) : Int) := by omega
  rw [h5]
  exact Int.natCast_dvd_natCast.2 h3

/-- A power to half of p - 1 is 1 or p - 1. -/
theorem Prime.euler {p : Nat} (h : Prime p) (ho : p % 2 = 1) {x : Nat} (hx : ¬ p ∣ x) : x ^ ((p - 1) / 2) % p = 1 ∨ x ^ ((p - 1) / 2) % p = p - 1 := by
  have hp := h.1
  refine h.root_one (Nat.mod_lt _ (by omega)) ?_
  rw [← Nat.mul_mod, ← Nat.pow_add, show (p - 1) / 2 + (p - 1) / 2 = p - 1 by omega]
  exact h.fermat hx

/-- A square raised to half of p - 1 is 1. -/
theorem Prime.euler_square {p : Nat} (h : Prime p) (ho : p % 2 = 1) {x a : Nat} (ha : ¬ p ∣ a) (e : x * x % p = a % p) : a ^ ((p - 1) / 2) % p = 1 := by
  have hx : ¬ p ∣ x := by
    intro hd
    apply ha
    have : x * x % p = 0 := Nat.mod_eq_zero_of_dvd (Nat.dvd_trans hd (Nat.dvd_mul_right _ _))
    exact Nat.dvd_of_mod_eq_zero (by rw [← e, this])
  rw [Nat.pow_mod, ← e, ← Nat.pow_mod, ← Nat.pow_two, ← Nat.pow_mul, show 2 * ((p - 1) / 2) = p - 1 by omega]
  exact h.fermat hx

/-- What the rule of Tonelli and Shanks keeps: the square of r leaves a times x, x to the power 2^j leaves 1, u to that power leaves p - 1. -/
structure Tonelli (p a j r x u : Nat) : Prop where
  sq : r * r % p = a * x % p
  one : x ^ 2 ^ j % p = 1
  less : u ^ 2 ^ j % p = p - 1

theorem pow_mod_mul (b c p k : Nat) : (b * c % p) ^ k % p = b ^ k % p * (c ^ k % p) % p := by
  rw [← Nat.pow_mod, Nat.mul_pow, Nat.mul_mod]

theorem pow_two_step (u j : Nat) : u ^ 2 ^ (j + 1) = (u * u) ^ 2 ^ j := by
  rw [← Nat.pow_two, ← Nat.pow_mul, Nat.pow_succ, Nat.mul_comm]

theorem less_sq {p : Nat} (h : 2 ≤ p) : (p - 1) * (p - 1) % p = 1 := by
  obtain ⟨q, rfl⟩ : ∃ q, p = q + 2 := ⟨p - 2, by omega⟩
  rw [show q + 2 - 1 = q + 1 by omega, show (q + 1) * (q + 1) = 1 + (q + 2) * q by grind, Nat.add_mul_mod_self_left, Nat.mod_eq_of_lt (by omega)]

theorem Tonelli.keep {p a j r x u : Nat} (h : Tonelli p a (j + 1) r x u) (e : x ^ 2 ^ j % p = 1) : Tonelli p a j r x (u * u % p) :=
  ⟨h.sq, e, by rw [← Nat.pow_mod, ← pow_two_step]; exact h.less⟩

theorem Tonelli.turn {p a j r x u : Nat} (hp : Prime p) (h : Tonelli p a (j + 1) r x u) (e : x ^ 2 ^ j % p ≠ 1) : Tonelli p a j (r * u % p) (x * (u * u % p) % p) (u * u % p) := by
  have hp2 := hp.1
  have hl : (u * u % p) ^ 2 ^ j % p = p - 1 := by rw [← Nat.pow_mod, ← pow_two_step]; exact h.less
  have hx : x ^ 2 ^ j % p = p - 1 := by
    refine (hp.root_one (Nat.mod_lt _ (by omega)) ?_).resolve_left e
    rw [← Nat.mul_mod, ← Nat.mul_pow, ← pow_two_step]
    exact h.one
  refine ⟨?_, ?_, hl⟩
  · rw [← Nat.mul_mod, show r * u * (r * u) = r * r * (u * u) by grind, Nat.mul_mod, h.sq]
    rw [← Nat.mul_mod, Nat.mul_mod_mod a, ← Nat.mul_assoc a x (u * u % p), Nat.mul_mod_mod (a * x)]
  · rw [pow_mod_mul, hx, hl]
    exact less_sq hp2

/-- At the end the square of r leaves a. -/
theorem Tonelli.done {p a r x u : Nat} (hp : Prime p) (h : Tonelli p a 0 r x u) : r * r % p = a % p := by
  have e : x % p = 1 := by have := h.one; simpa using this
  rw [h.sq, Nat.mul_mod, e, Nat.mul_one, Nat.mod_mod]

end Go.Proofs.YtmkmojcefgcmlaaDoor
