/- Plain numbers: Fermat's theorem, Euler's rule and square roots by a prime number. Nothing of the program. -/
namespace Go.Proofs.YtdaneanloknkpabDoor
set_option linter.unusedVariables false

/-- A prime number, as trial division tells it. -/
def Prime (p : Nat) : Prop := 2 ≤ p ∧ ∀ d, 2 ≤ d → d * d ≤ p → ¬ d ∣ p

theorem Prime.no_div {p : Nat} (h : Prime p) {d : Nat} (h1 : 2 ≤ d) (h2 : d < p) : ¬ d ∣ p := by
  intro hd
  by_cases hq : d * d ≤ p
  · exact h.2 d h1 hq hd
  · obtain ⟨c, rfl⟩ := hd
    have hc : c < d := by
      rcases Nat.lt_or_ge c d with h | h
      · exact h
      · exact absurd (Nat.mul_le_mul_left d h) hq
    have hc2 : 2 ≤ c := by
      rcases Nat.lt_or_ge c 2 with h' | h'
      · have : c = 0 ∨ c = 1 := by omega
        rcases this with rfl | rfl <;> omega
      · exact h'
    refine h.2 c hc2 ?_ ⟨d, Nat.mul_comm _ _⟩
    exact Nat.mul_le_mul_right c (Nat.le_of_lt hc)

theorem Prime.coprime {p : Nat} (h : Prime p) {n : Nat} (hn : ¬ p ∣ n) : Nat.Coprime p n := by
  have hg := Nat.gcd_dvd_left p n
  have hn' := Nat.gcd_dvd_right p n
  have hle := Nat.le_of_dvd (by have := h.1; omega) hg
  have hpos : 0 < Nat.gcd p n := Nat.gcd_pos_of_pos_left _ (by have := h.1; omega)
  rcases Nat.lt_or_ge (Nat.gcd p n) 2 with hlt | hge
  · show Nat.gcd p n = 1
    omega
  · rcases Nat.lt_or_ge (Nat.gcd p n) p with h1 | h1
    · exact absurd hg (h.no_div hge h1)
    · have e : Nat.gcd p n = p := by omega
      rw [e] at hn'
      exact absurd hn' hn

theorem Prime.dvd_mul {p : Nat} (h : Prime p) {a b : Nat} (hd : p ∣ a * b) : p ∣ a ∨ p ∣ b := by
  by_cases ha : p ∣ a
  · exact Or.inl ha
  · exact Or.inr ((h.coprime ha).dvd_of_dvd_mul_left hd)

/-- Pascal's numbers. -/
def ch : Nat → Nat → Nat
  | _, 0 => 1
  | 0, _ + 1 => 0
  | n + 1, k + 1 => ch n k + ch n (k + 1)

theorem ch_zero (n : Nat) : ch n 0 = 1 := by cases n <;> rfl
theorem ch_succ (n k : Nat) : ch (n + 1) (k + 1) = ch n k + ch n (k + 1) := rfl

theorem ch_big (n : Nat) : ∀ k, n < k → ch n k = 0 := by
  induction n with
  | zero => intro k hk; obtain ⟨j, rfl⟩ : ∃ j, k = j + 1 := ⟨k - 1, by omega⟩; rfl
  | succ n ih => intro k hk; obtain ⟨j, rfl⟩ : ∃ j, k = j + 1 := ⟨k - 1, by omega⟩; rw [ch_succ, ih _ (by omega), ih _ (by omega)]

theorem ch_self (n : Nat) : ch n n = 1 := by
  induction n with
  | zero => rfl
  | succ n ih => rw [ch_succ, ih, ch_big n (n + 1) (by omega)]

theorem ch_absorb (n : Nat) : ∀ k, (k + 1) * ch (n + 1) (k + 1) = (n + 1) * ch n k := by
  induction n with
  | zero =>
    intro k
    cases k with
    | zero => rfl
    | succ k => simp [ch]
  | succ n ih =>
    intro k
    cases k with
    | zero => simp only [ch_succ (n + 1) 0, ch_zero]; have := ih 0; simp only [ch_zero] at this; simp only [Nat.zero_add] at *; omega
    | succ k =>
      have h1 := ih k
      have h2 := ih (k + 1)
      rw [ch_succ (n + 1) (k + 1)]
      have e := ch_succ n k
      have : (k + 1 + 1) * (ch (n + 1) (k + 1) + ch (n + 1) (k + 1 + 1)) = (k + 1) * ch (n + 1) (k + 1) + ch (n + 1) (k + 1) + (k + 1 + 1) * ch (n + 1) (k + 1 + 1) := by
        rw [Nat.mul_add, Nat.add_mul (k + 1) 1, Nat.one_mul]
      rw [this, h1, h2, e]
      grind

theorem Prime.ch_dvd {p : Nat} (h : Prime p) {k : Nat} (h0 : 0 < k) (h1 : k < p) : p ∣ ch p k := by
  obtain ⟨q, rfl⟩ : ∃ q, p = q + 1 := ⟨p - 1, by omega⟩
  obtain ⟨j, rfl⟩ : ∃ j, k = j + 1 := ⟨k - 1, by omega⟩
  have e := ch_absorb q j
  rcases h.dvd_mul (a := j + 1) (b := ch (q + 1) (j + 1)) ⟨ch q j, e⟩ with hd | hd
  · exact absurd (Nat.le_of_dvd (by omega) hd) (by omega)
  · exact hd

/-- The first m rows of a power of x + 1. -/
def bin (n x : Nat) : Nat → Nat
  | 0 => 0
  | m + 1 => bin n x m + ch n m * x ^ m

theorem bin_step (n x : Nat) : ∀ m, bin (n + 1) x (m + 1) = bin n x (m + 1) + x * bin n x m := by
  intro m
  induction m with
  | zero => simp [bin, ch_zero]
  | succ m ih =>
    rw [bin, ih, ch_succ]
    conv => rhs; rw [bin]
    have e : x * bin n x (m + 1) = x * bin n x m + ch n m * x ^ (m + 1) := by
      rw [bin, Nat.mul_add, Nat.pow_succ]; grind
    rw [e, Nat.add_mul]
    omega

theorem bin_all (n x : Nat) : bin n x (n + 1) = (x + 1) ^ n := by
  induction n with
  | zero => simp [bin, ch_zero]
  | succ n ih =>
    rw [bin_step, bin, ch_big n (n + 1) (by omega), ih, Nat.pow_succ]
    grind

theorem Prime.bin_mid {p : Nat} (h : Prime p) (x : Nat) : ∀ m, m < p → bin p x (m + 1) % p = 1 % p := by
  intro m
  induction m with
  | zero => intro _; simp [bin, ch_zero]
  | succ m ih =>
    intro hm
    rw [bin, Nat.add_mod, ih (by omega)]
    have hd : p ∣ ch p (m + 1) * x ^ (m + 1) := Nat.dvd_trans (h.ch_dvd (by omega) hm) (Nat.dvd_mul_right _ _)
    rw [Nat.mod_eq_zero_of_dvd hd]
    simp

theorem Prime.dream {p : Nat} (h : Prime p) (x : Nat) : (x + 1) ^ p % p = (x ^ p + 1) % p := by
  obtain ⟨q, rfl⟩ : ∃ q, p = q + 1 := ⟨p - 1, by have := h.1; omega⟩
  rw [← bin_all, bin, Nat.add_mod, h.bin_mid x q (by omega), ch_self, Nat.one_mul, ← Nat.add_mod, Nat.add_comm]

theorem Prime.fermat' {p : Nat} (h : Prime p) (x : Nat) : x ^ p % p = x % p := by
  induction x with
  | zero => rw [Nat.zero_pow (by have := h.1; omega)]
  | succ x ih => rw [h.dream, Nat.add_mod, ih, ← Nat.add_mod]

/-- What is equal by p stays so without a factor that p does not divide. -/
theorem Prime.cancel {p : Nat} (h : Prime p) {c a b : Nat} (hc : ¬ p ∣ c) (e : c * a % p = c * b % p) : a % p = b % p := by
  have key : ∀ a b : Nat, a ≤ b → c * a % p = c * b % p → a % p = b % p := by
    intro a b hab e
    have hd : p ∣ c * (b - a) := by
      rw [Nat.mul_sub]
      exact Nat.dvd_of_mod_eq_zero (Nat.sub_mod_eq_zero_of_mod_eq e.symm)
    have hd2 : p ∣ b - a := (h.dvd_mul hd).resolve_left hc
    obtain ⟨t, ht⟩ := hd2
    rw [show b = a + p * t by omega, Nat.add_mul_mod_self_left]
  rcases Nat.le_total a b with hab | hab
  · exact key a b hab e
  · exact (key b a hab e.symm).symm

theorem Prime.fermat {p : Nat} (h : Prime p) {x : Nat} (hx : ¬ p ∣ x) : x ^ (p - 1) % p = 1 := by
  have e := h.fermat' x
  obtain ⟨q, rfl⟩ : ∃ q, p = q + 1 := ⟨p - 1, by have := h.1; omega⟩
  rw [Nat.pow_succ, Nat.mul_comm] at e
  have := h.cancel hx (a := x ^ q) (b := 1) (by rw [e, Nat.mul_one])
  simp only [Nat.add_sub_cancel]
  rw [this, Nat.mod_eq_of_lt (by have := h.1; omega)]

/-- What is squared to 1 by a prime number is 1 or the number below it. -/
theorem Prime.root_one {p : Nat} (h : Prime p) {y : Nat} (hy : y < p) (e : y * y % p = 1) : y = 1 ∨ y = p - 1 := by
  have hp := h.1
  have hd : p ∣ y * y - 1 := by
    apply Nat.dvd_of_mod_eq_zero
    apply Nat.sub_mod_eq_zero_of_mod_eq
    rw [e, Nat.mod_eq_of_lt (by omega)]
  have hy0 : 0 < y := by
    rcases Nat.eq_zero_or_pos y with rfl | h0
    · simp at e
    · exact h0
  have e2 : y * y - 1 = (y - 1) * (y + 1) := by
    obtain ⟨z, rfl⟩ : ∃ z, y = z + 1 := ⟨y - 1, by omega⟩
    simp only [Nat.add_sub_cancel]
    have : (z + 1) * (z + 1) = z * (z + 1 + 1) + 1 := by grind
    omega
  rw [e2] at hd
  rcases h.dvd_mul hd with h1 | h1
  · left
    rcases Nat.eq_zero_or_pos (y - 1) with h0 | h0
    · omega
    · have := Nat.le_of_dvd h0 h1; omega
  · right
    have := Nat.le_of_dvd (by omega) h1; omega

/-- Two whose squares leave the same are each other, or together the prime number. -/
theorem Prime.two_roots {p : Nat} (h : Prime p) {x y : Nat} (hx : x < p) (hy : y < p) (e : x * x % p = y * y % p) : x = y ∨ x + y = p ∨ (x = 0 ∧ y = 0) := by
  have key : ∀ x y : Nat, x ≤ y → x < p → y < p → x * x % p = y * y % p → x = y ∨ x + y = p ∨ (x = 0 ∧ y = 0) := by
    intro x y hxy hx hy e
    have hd : p ∣ y * y - x * x := Nat.dvd_of_mod_eq_zero (Nat.sub_mod_eq_zero_of_mod_eq e.symm)
    have e2 : y * y - x * x = (y - x) * (y + x) := by
      obtain ⟨z, rfl⟩ : ∃ z, y = x + z := ⟨y - x, by omega⟩
      have : (x + z) * (x + z) = (x + z - x) * (x + z + x) + x * x := by
        rw [Nat.add_sub_cancel_left]; grind
      omega
    rw [e2] at hd
    rcases h.dvd_mul hd with h1 | h1
    · rcases Nat.eq_zero_or_pos (y - x) with h0 | h0
      · left; omega
      · have := Nat.le_of_dvd h0 h1; omega
    · rcases Nat.eq_zero_or_pos (y + x) with h0 | h0
      · left; omega
      · obtain ⟨c, hc⟩ := h1
        have hc1 : c = 1 := by
          rcases Nat.lt_or_ge c 2 with h2 | h2
          · rcases (show c = 0 ∨ c = 1 by omega) with rfl | rfl
            · omega
            · rfl
          · have := Nat.mul_le_mul_left p h2; omega
        subst hc1
        right; left; omega
  rcases Nat.le_total x y with hxy | hxy
  · exact key x y hxy hx hy e
  · rcases key y x hxy hy hx e.symm with h | h | h
    · exact Or.inl h.symm
    · exact Or.inr (Or.inl (by omega))
    · exact Or.inl (by omega)

/-- A function that is told by a polynomial of degree d whose leading number is 1. -/
def IsPoly : Nat → (Int → Int) → Prop
  | 0, F => ∀ x, F x = 1
  | d + 1, F => ∀ r, ∃ Q, IsPoly d Q ∧ ∀ x, F x - F r = (x - r) * Q x

theorem isPoly_step : ∀ (d : Nat) (F : Int → Int) (c : Int), IsPoly d F → IsPoly (d + 1) (fun x => x * F x + c) := by
  intro d
  induction d with
  | zero =>
    intro F c h r
    refine ⟨fun _ => 1, fun _ => rfl, fun x => ?_⟩
    simp only [h x, h r]; grind
  | succ d ih =>
    intro F c h r
    obtain ⟨Q, hQ, e⟩ := h r
    refine ⟨fun x => x * Q x + F r, ih Q (F r) hQ, fun x => ?_⟩
    have e1 := e x
    have e2 : F x = F r + (x - r) * Q x := by omega
    simp only [e2]; grind

theorem isPoly_pow : ∀ (k : Nat), IsPoly k (fun x => x ^ k) := by
  intro k
  induction k with
  | zero => intro x; simp
  | succ k ih =>
    have h := isPoly_step k _ 0 ih
    have e : (fun x : Int => x * x ^ k + 0) = fun x => x ^ (k + 1) := by
      funext x; rw [Int.pow_succ, Int.mul_comm]; omega
    rwa [e] at h

theorem isPoly_pow_less (k : Nat) (c : Int) : IsPoly (k + 1) (fun x => x ^ (k + 1) + c) := by
  have h := isPoly_step k _ c (isPoly_pow k)
  have e : (fun x : Int => x * x ^ k + c) = fun x => x ^ (k + 1) + c := by
    funext x; rw [Int.pow_succ, Int.mul_comm]
  rwa [e] at h

theorem Prime.dvd_mul_int {p : Nat} (h : Prime p) {a b : Int} (hd : (p : Int) ∣ a * b) : (p : Int) ∣ a ∨ (p : Int) ∣ b := by
  have := Int.natAbs_dvd_natAbs.2 hd
  rw [Int.natAbs_mul, Int.natAbs_natCast] at this
  rcases h.dvd_mul this with h1 | h1
  · exact Or.inl (by rw [← Int.natAbs_dvd_natAbs, Int.natAbs_natCast]; exact h1)
  · exact Or.inr (by rw [← Int.natAbs_dvd_natAbs, Int.natAbs_natCast]; exact h1)

/-- It is not nought by p at more places in a row than its degree. -/
theorem Prime.few_roots {p : Nat} (h : Prime p) : ∀ (d : Nat) (F : Int → Int) (s : Int), d < p → IsPoly d F → ¬ ∀ i : Nat, i ≤ d → (p : Int) ∣ F (s + i) := by
  intro d
  induction d with
  | zero =>
    intro F s _ hF hall
    have h1 := hall 0 (Nat.le_refl _)
    rw [hF] at h1
    have := Int.le_of_dvd (by omega) h1
    have := h.1
    omega
  | succ d ih =>
    intro F s hd hF hall
    obtain ⟨Q, hQ, e⟩ := hF s
    refine ih Q (s + 1) (by omega) hQ (fun i hi => ?_)
    have h0 := hall 0 (by omega)
    rw [show s + ((0 : Nat) : Int) = s by omega] at h0
    have h1 := hall (i + 1) (by omega)
    have e1 := e (s + ((i + 1 : Nat) : Int))
    have hdv := Int.dvd_sub h1 h0
    rw [e1] at hdv
    rcases h.dvd_mul_int hdv with h2 | h2
    · have := Int.le_of_dvd (by omega) h2
      omega
    · rw [show s + 1 + (i : Int) = s + ((i + 1 : Nat) : Int) by omega]
      exact h2

/-- Some number from 1 to k + 1 is not 1 when raised to k. -/
theorem Prime.not_all_one {p : Nat} (h : Prime p) {k : Nat} (h0 : 0 < k) (h1 : k < p) : ∃ n : Nat, 1 ≤ n ∧ n ≤ k + 1 ∧ n ^ k % p ≠ 1 := by
  obtain ⟨j, rfl⟩ : ∃ j, k = j + 1 := ⟨k - 1, by omega⟩
  apply Classical.byContradiction
  intro hno
  refine h.few_roots (j + 1) _ 1 h1 (isPoly_pow_less j (-1)) (fun i hi => ?_)
  have hn : (i + 1) ^ (j + 1) % p = 1 := by
    apply Classical.byContradiction
    intro hne
    exact hno ⟨i + 1, by omega, by omega, hne⟩
  have e : ((1 : Int) + (i : Int)) ^ (j + 1) = (((i + 1) ^ (j + 1) : Nat) : Int) := by
    rw [Int.natCast_pow]; congr 1; omega
  show (p : Int) ∣ (1 + (i : Int)) ^ (j + 1) + -1
  rw [e]
  have := h.1
  have h3 : p ∣ (i + 1) ^ (j + 1) - 1 := by
    apply Nat.dvd_of_mod_eq_zero
    apply Nat.sub_mod_eq_zero_of_mod_eq
    rw [hn, Nat.mod_eq_of_lt (by omega)]
  have h4 : 1 ≤ (i + 1) ^ (j + 1) := Nat.pow_pos (by omega)
  have h5 : (((i + 1) ^ (j + 1) : Nat) : Int) + -1 = (((i + 1) ^ (j + 1) - 1 : Nat) : Int) := by omega
  rw [h5]
  exact Int.natCast_dvd_natCast.2 h3

/-- A power to half of p - 1 is 1 or p - 1. -/
theorem Prime.euler {p : Nat} (h : Prime p) (ho : p % 2 = 1) {x : Nat} (hx : ¬ p ∣ x) : x ^ ((p - 1) / 2) % p = 1 ∨ x ^ ((p - 1) / 2) % p = p - 1 := by
  have hp := h.1
  refine h.root_one (Nat.mod_lt _ (by omega)) ?_
  rw [← Nat.mul_mod, ← Nat.pow_add, show (p - 1) / 2 + (p - 1) / 2 = p - 1 by omega]
  exact h.fermat hx

/-- A square raised to half of p - 1 is 1. -/
theorem Prime.euler_square {p : Nat} (h : Prime p) (ho : p % 2 = 1) {x a : Nat} (ha : ¬ p ∣ a) (e : x * x % p = a % p) : a ^ ((p - 1) / 2) % p = 1 := by
  have hx : ¬ p ∣ x := by
    intro hd
    apply ha
    have : x * x % p = 0 := Nat.mod_eq_zero_of_dvd (Nat.dvd_trans hd (Nat.dvd_mul_right _ _))
    exact Nat.dvd_of_mod_eq_zero (by rw [← e, this])
  rw [Nat.pow_mod, ← e, ← Nat.pow_mod, ← Nat.pow_two, ← Nat.pow_mul, show 2 * ((p - 1) / 2) = p - 1 by omega]
  exact h.fermat hx

/-- What the rule of Tonelli and Shanks keeps: the square of r leaves a times x, x to the power 2^j leaves 1, u to that power leaves p - 1. -/
structure Tonelli (p a j r x u : Nat) : Prop where
  sq : r * r % p = a * x % p
  one : x ^ 2 ^ j % p = 1
  less : u ^ 2 ^ j % p = p - 1

theorem pow_mod_mul (b c p k : Nat) : (b * c % p) ^ k % p = b ^ k % p * (c ^ k % p) % p := by
  rw [← Nat.pow_mod, Nat.mul_pow, Nat.mul_mod]

theorem pow_two_step (u j : Nat) : u ^ 2 ^ (j + 1) = (u * u) ^ 2 ^ j := by
  rw [← Nat.pow_two, ← Nat.pow_mul, Nat.pow_succ, Nat.mul_comm]

theorem less_sq {p : Nat} (h : 2 ≤ p) : (p - 1) * (p - 1) % p = 1 := by
  obtain ⟨q, rfl⟩ : ∃ q, p = q + 2 := ⟨p - 2, by omega⟩
  rw [show q + 2 - 1 = q + 1 by omega, show (q + 1) * (q + 1) = 1 + (q + 2) * q by grind, Nat.add_mul_mod_self_left, Nat.mod_eq_of_lt (by omega)]

theorem Tonelli.keep {p a j r x u : Nat} (h : Tonelli p a (j + 1) r x u) (e : x ^ 2 ^ j % p = 1) : Tonelli p a j r x (u * u % p) :=
  ⟨h.sq, e, by rw [← Nat.pow_mod, ← pow_two_step]; exact h.less⟩

theorem Tonelli.turn {p a j r x u : Nat} (hp : Prime p) (h : Tonelli p a (j + 1) r x u) (e : x ^ 2 ^ j % p ≠ 1) : Tonelli p a j (r * u % p) (x * (u * u % p) % p) (u * u % p) := by
  have hp2 := hp.1
  have hl : (u * u % p) ^ 2 ^ j % p = p - 1 := by rw [← Nat.pow_mod, ← pow_two_step]; exact h.less
  have hx : x ^ 2 ^ j % p = p - 1 := by
    refine (hp.root_one (Nat.mod_lt _ (by omega)) ?_).resolve_left e
    rw [← Nat.mul_mod, ← Nat.mul_pow, ← pow_two_step]
    exact h.one
  refine ⟨?_, ?_, hl⟩
  · rw [← Nat.mul_mod, show r * u * (r * u) = r * r * (u * u) by grind, Nat.mul_mod, h.sq]
    rw [← Nat.mul_mod, Nat.mul_mod_mod a, ← Nat.mul_assoc a x (u * u % p), Nat.mul_mod_mod (a * x)]
  · rw [pow_mod_mul, hx, hl]
    exact less_sq hp2

/-- At the end the square of r leaves a. -/
theorem Tonelli.done {p a r x u : Nat} (hp : Prime p) (h : Tonelli p a 0 r x u) : r * r % p = a % p := by
  have e : x % p = 1 := by have := h.one; simpa using this
  rw [h.sq, Nat.mul_mod, e, Nat.mul_one, Nat.mod_mod]

end Go.Proofs.YtdaneanloknkpabDoor
