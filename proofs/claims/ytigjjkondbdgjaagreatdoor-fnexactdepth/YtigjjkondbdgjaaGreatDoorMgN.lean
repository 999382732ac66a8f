/- Walk: the model's l1In: whether a number lies between two. Plain numbers: powers by squaring, inverses by Euclid's rule. Nothing of the program. Numbers of many digits, plain: the value of a list of digits to the base 65536, its bounds, and that a list without noughts at its end is told by its value. Nothing of the program. Walks: bits.Len of a digit, and the program's digitsBits: how many bits a list of digits has. Walks: bits.Len of any number: how many bits it has. Plain facts on the model's bit operations of int: and with 65535, or of what does not meet, shifts. Nothing of the program. Walks: powers of numbers: the model's l2Pow and PowInt, the program's intPower and PowInt. Walks: inverses of numbers: the model's l2Left, l2Inv and InvInt, the program's intRest and InvInt. Plain numbers: Fermat's theorem, Euler's rule and square roots by a prime number. Nothing of the program. Walks: PrimeInt, of the model and of the program: whether a number is prime. Plain numbers: points of a curve over the numbers by a prime number: sums by chord and tangent stay on the curve and are a group. Nothing of the program. Plain numbers: points of a curve are a group; multiples. Nothing of the program. Walks: curves of the model: l3On, l3Add, l3Mul, CurveOk, PointOk. Walks: sums and multiples of points in the model: l3Add, l3Mul. -/
import Derived.Test.YtigjjkondbdgjaaGreatDoorChecked
import Derived.Test.YtigjjkondbdgjaaGreatDoorMgA
import Derived.WalkKit
import Derived.Lib.BitFns
import Derived.Lib.Tables
import Derived.Lib.QuietBelow
namespace Go.Proofs.YtigjjkondbdgjaaGreatDoor

section
set_option linter.unusedVariables false
open Go.RowKit

theorem l1In_int (x a b : Int) (w : World) : Calls Tryz.prog 22 #[.int .i64 x, .int .i64 a, .int .i64 b] w fun e w' => e = .returned (.bool (decide (a ≤ x) && decide (x ≤ b))) ∧ w' = w := by
  by_cases h1 : a ≤ x
  · by_cases h2 : x ≤ b
    · go_enter Tryz.func22, Tryz.ntmps22
      go_wp2
      go_ret
      exact ⟨ret_bool (by rw [decide_eq_true (by omega : a ≤ x), decide_eq_true (by omega : x ≤ b)]; rfl), rfl⟩
    · go_enter Tryz.func22, Tryz.ntmps22
      go_wp2
      go_ret
      exact ⟨ret_bool (by simp; omega), rfl⟩
  · go_enter Tryz.func22, Tryz.ntmps22
    go_wp2
    go_ret
    exact ⟨ret_bool (by rw [decide_eq_false (by omega : ¬ a ≤ x)]; rfl), rfl⟩

theorem ret_ib2 {a b : Int} {p q : Bool} (h : a = b) (h2 : p = q) : Ending.returned (.tuple #[.int .i64 a, .bool p]) = .returned (.tuple #[.int .i64 b, .bool q]) := by rw [h, h2]
end

section
set_option linter.unusedVariables false

/-- A step of a power by squaring, at an odd exponent. -/
theorem pow_odd (o b x m : Nat) (h : x % 2 = 1) : (o * b % m) * (b * b % m) ^ (x / 2) % m = o * b ^ x % m := by
  have e : b ^ x = b * (b * b) ^ (x / 2) := by
    conv => lhs; rw [show x = 1 + 2 * (x / 2) by omega, Nat.pow_add, Nat.pow_mul, Nat.pow_two, Nat.pow_one]
  rw [e, Nat.mul_mod, Nat.mod_mod, ← Nat.pow_mod, ← Nat.mul_mod, ← Nat.mul_assoc]

/-- A step at an even exponent. -/
theorem pow_even (o b x m : Nat) (h : x % 2 = 0) : o * (b * b % m) ^ (x / 2) % m = o * b ^ x % m := by
  have e : b ^ x = (b * b) ^ (x / 2) := by
    conv => lhs; rw [show x = 2 * (x / 2) by omega, Nat.pow_mul, Nat.pow_two]
  rw [e, Nat.mul_mod, ← Nat.pow_mod, ← Nat.mul_mod]

theorem pow_start (a e m : Nat) : 1 % m * (a % m) ^ e % m = a ^ e % m := by
  rw [Nat.mul_mod, Nat.mod_mod, ← Nat.pow_mod, ← Nat.mul_mod, Nat.one_mul]

/-- A product of two below 2^30. -/
theorem mul_small {x y m : Nat} (hm : m ≤ 1073741824) (hx : x < m) (hy : y < m) : (x : Int) * (y : Int) ≤ 1152921504606846976 := by
  have : x * y ≤ 1073741824 * 1073741824 := Nat.mul_le_mul (by omega) (by omega)
  have h2 : ((x * y : Nat) : Int) ≤ 1152921504606846976 := by omega
  rwa [Int.natCast_mul] at h2

/-- What the rule of Euclid keeps, to and fro: R and S are what is left, X and Y by m times a leave them, one of them with its sign turned. -/
structure Euclid (m a R S : Nat) (X Y : Int) : Prop where
  lt : S < R
  gcd : Nat.gcd R S = Nat.gcd m a
  dx : (m : Int) ∣ X * a - R
  dy : (m : Int) ∣ Y * a - S
  bd : ∃ U V : Nat, ((X = U ∧ Y = -(V : Int)) ∨ (X = -(U : Int) ∧ Y = V)) ∧ U * S + V * R = m ∧ U ≤ V

theorem euclid_start {m a : Nat} (h : a < m) : Euclid m a m a 0 1 :=
  ⟨h, rfl, ⟨-1, by omega⟩, ⟨0, by omega⟩, 0, 1, Or.inr ⟨by omega, by omega⟩, by omega, by omega⟩

theorem Euclid.step {m a R S : Nat} {X Y : Int} (h : Euclid m a R S X Y) (hS : 0 < S) : Euclid m a S (R % S) Y (X - (R / S : Nat) * Y) := by
  refine ⟨Nat.mod_lt _ hS, ?_, h.dy, ?_, ?_⟩
  · rw [← h.gcd, Nat.gcd_comm R S, Nat.gcd_rec S R, Nat.gcd_comm]
  · obtain ⟨c, hc⟩ := h.dx
    obtain ⟨d, hd⟩ := h.dy
    refine ⟨c - (R / S : Nat) * d, ?_⟩
    have e : (R : Int) = S * (R / S : Nat) + (R % S : Nat) := by
      have := Nat.div_add_mod R S
      rw [← Int.natCast_mul]; omega
    grind
  · obtain ⟨U, V, hs, hm, hle⟩ := h.bd
    have hq : 1 ≤ R / S := (Nat.le_div_iff_mul_le hS).2 (by have := h.lt; omega)
    refine ⟨V, U + R / S * V, ?_, ?_, ?_⟩
    · rcases hs with ⟨rfl, rfl⟩ | ⟨rfl, rfl⟩
      · right
        refine ⟨rfl, ?_⟩
        rw [Int.natCast_add, Int.natCast_mul]; grind
      · left
        refine ⟨rfl, ?_⟩
        rw [Int.natCast_add, Int.natCast_mul]; grind
    · have := Nat.div_add_mod R S
      generalize R / S = q at *
      generalize R % S = t at *
      subst this
      grind
    · have : 1 * V ≤ R / S * V := Nat.mul_le_mul_right V hq
      omega

/-- The numbers are never longer than m. -/
theorem Euclid.small {m a R S : Nat} {X Y : Int} (h : Euclid m a R S X Y) : X ≤ m ∧ -(m : Int) ≤ X ∧ Y ≤ m ∧ -(m : Int) ≤ Y := by
  obtain ⟨U, V, hs, hm, hle⟩ := h.bd
  have hV : V * 1 ≤ V * R := Nat.mul_le_mul_left V (by have := h.lt; omega)
  have : V ≤ m := by omega
  rcases hs with ⟨rfl, rfl⟩ | ⟨rfl, rfl⟩ <;> omega

theorem Euclid.small_mul {m a R S : Nat} {X Y : Int} (h : Euclid m a R S X Y) (hS : 0 < S) : (R / S : Nat) * Y ≤ m ∧ -(m : Int) ≤ (R / S : Nat) * Y := by
  have k := (h.step hS).small
  have l := h.small
  obtain ⟨U, V, hs, hm, hle⟩ := h.bd
  have z : 0 ≤ ((R / S : Nat) : Int) * (V : Int) := Int.mul_nonneg (Int.natCast_nonneg _) (Int.natCast_nonneg _)
  rcases hs with ⟨rfl, rfl⟩ | ⟨rfl, rfl⟩
  · rw [Int.mul_neg] at *; omega
  · omega

/-- The number below m whose product with a leaves 1, if there is one. -/
structure IsInv (m a : Nat) (v : Int) (ok : Bool) : Prop where
  yes : ok = true → 0 ≤ v ∧ v < m ∧ v * a % m = 1
  no : ok = false → v = 0
  dec : ok = decide (Nat.gcd m a = 1)

theorem IsInv.unique {m a : Nat} {v v' : Int} {ok ok' : Bool} (h : IsInv m a v ok) (h' : IsInv m a v' ok') : v = v' ∧ ok = ok' := by
  have e : ok = ok' := by rw [h.dec, h'.dec]
  subst e
  refine ⟨?_, rfl⟩
  cases ok with
  | false => rw [h.no rfl, h'.no rfl]
  | true =>
    obtain ⟨a0, a1, a2⟩ := h.yes rfl
    obtain ⟨b0, b1, b2⟩ := h'.yes rfl
    have e1 : v * (v' * a) % m = v := by
      rw [Int.mul_emod, b2, Int.mul_one, Int.emod_emod, Int.emod_eq_of_lt a0 a1]
    have e2 : v' * (v * a) % m = v' := by
      rw [Int.mul_emod, a2, Int.mul_one, Int.emod_emod, Int.emod_eq_of_lt b0 b1]
    rw [← e1, ← e2]
    congr 1
    grind

theorem Euclid.done {m a R : Nat} {X Y : Int} (h : Euclid m a R 0 X Y) (hm : 2 ≤ m) (h1 : R = 1) : IsInv m a (X % m) true ∧ 0 < X % m := by
  subst h1
  have hg := h.gcd
  rw [Nat.gcd_zero_right] at hg
  have hx : X % m * a % m = 1 := by
    rw [Int.mul_emod, Int.emod_emod, ← Int.mul_emod]
    have hd := h.dx
    have := Int.emod_eq_emod_iff_emod_sub_eq_zero.2 (Int.emod_eq_zero_of_dvd hd)
    rw [this, show ((1 : Nat) : Int) = 1 from rfl, Int.emod_eq_of_lt (by omega) (by omega)]
  have h0 := Int.emod_nonneg X (show (m : Int) ≠ 0 by omega)
  have h1 := Int.emod_lt_of_pos X (show (0 : Int) < m by omega)
  refine ⟨⟨fun _ => ⟨h0, h1, hx⟩, fun h => by simp at h, by simp [← hg]⟩, ?_⟩
  rcases Int.lt_or_eq_of_le h0 with h2 | h2
  · exact h2
  · rw [← h2] at hx; simp at hx

theorem Euclid.done_no {m a R : Nat} {X Y : Int} (h : Euclid m a R 0 X Y) (h1 : R ≠ 1) : IsInv m a 0 false := by
  have hg := h.gcd
  rw [Nat.gcd_zero_right] at hg
  refine ⟨fun h => by simp at h, fun _ => rfl, ?_⟩
  have : ¬ Nat.gcd m a = 1 := by omega
  simp [this]
end

section
set_option linter.unusedVariables false

/-- 65536 to a power. -/
def pw : Nat → Int
  | 0 => 1
  | k + 1 => pw k * 65536

theorem pw_pos (k : Nat) : 0 < pw k := by
  induction k with
  | zero => simp [pw]
  | succ k ih => simp only [pw]; omega

theorem pw_add (a b : Nat) : pw (a + b) = pw a * pw b := by
  induction b with
  | zero => simp [pw]
  | succ b ih => rw [← Nat.add_assoc]; simp only [pw, ih]; grind

theorem pw_le {a b : Nat} (h : a ≤ b) : pw a ≤ pw b := by
  induction b with
  | zero => obtain rfl : a = 0 := by omega
            exact Int.le_refl _
  | succ b ih =>
    by_cases e : a = b + 1
    · subst e; exact Int.le_refl _
    · have := ih (by omega)
      have := pw_pos b
      simp only [pw]
      omega

/-- The value of the first n digits. -/
def val (f : Nat → Int) : Nat → Int
  | 0 => 0
  | n + 1 => val f n + f n * pw n

theorem val_congr {f g : Nat → Int} {n : Nat} (h : ∀ i, i < n → f i = g i) : val f n = val g n := by
  induction n with
  | zero => rfl
  | succ n ih => simp only [val]; rw [ih (fun i hi => h i (by omega)), h n (by omega)]

/-- The first n are digits. -/
def Digs (f : Nat → Int) (n : Nat) : Prop := ∀ i, i < n → 0 ≤ f i ∧ f i ≤ 65535

theorem Digs.mono {f : Nat → Int} {n m : Nat} (h : Digs f n) (hm : m ≤ n) : Digs f m := fun i hi => h i (by omega)

theorem Digs.congr {f g : Nat → Int} {n : Nat} (h : Digs f n) (e : ∀ i, i < n → f i = g i) : Digs g n := fun i hi => by rw [← e i hi]; exact h i hi

theorem mul_bd {d P : Int} (hP : 0 ≤ P) (h0 : 0 ≤ d) (h1 : d ≤ 65535) : 0 ≤ d * P ∧ d * P ≤ 65535 * P :=
  ⟨Int.mul_nonneg h0 hP, Int.mul_le_mul_of_nonneg_right h1 hP⟩

theorem val_bd {f : Nat → Int} {n : Nat} (h : Digs f n) : 0 ≤ val f n ∧ val f n < pw n := by
  induction n with
  | zero => simp [val, pw]
  | succ n ih =>
    have h1 := ih (h.mono (by omega))
    have h2 := h n (by omega)
    have h3 := mul_bd (d := f n) (Int.le_of_lt (pw_pos n)) h2.1 h2.2
    simp only [val, pw]
    omega

/-- Quotient and rest are told by the sum. -/
theorem split_eq {a b r s P : Int} (hr : 0 ≤ r) (hr' : r < P) (hs : 0 ≤ s) (hs' : s < P) (h : r + a * P = s + b * P) : a = b ∧ r = s := by
  have hP : 0 ≤ P := by omega
  have key : ∀ x y u v : Int, 0 ≤ u → u < P → 0 ≤ v → v < P → u + x * P = v + y * P → ¬ x < y := by
    intro x y u v h1 h2 h3 h4 h5 hlt
    have h6 : (x + 1) * P ≤ y * P := Int.mul_le_mul_of_nonneg_right (by omega) hP
    rw [Int.add_mul, Int.one_mul] at h6
    omega
  have h1 := key a b r s hr hr' hs hs' h
  have h2 := key b a s r hs hs' hr hr' h.symm
  obtain rfl : a = b := by omega
  exact ⟨rfl, by omega⟩

theorem digs_unique {f g : Nat → Int} {n : Nat} (hf : Digs f n) (hg : Digs g n) (h : val f n = val g n) : ∀ i, i < n → f i = g i := by
  induction n with
  | zero => intro i hi; omega
  | succ n ih =>
    simp only [val] at h
    have b1 := val_bd (hf.mono (Nat.le_succ n))
    have b2 := val_bd (hg.mono (Nat.le_succ n))
    obtain ⟨e1, e2⟩ := split_eq b1.1 b1.2 b2.1 b2.2 h
    intro i hi
    by_cases e : i = n
    · subst e; exact e1
    · exact ih (hf.mono (by omega)) (hg.mono (by omega)) e2 i (by omega)

/-- Digits, the last one not 0. -/
structure Canon (n : Nat) (f : Nat → Int) : Prop where
  digs : Digs f n
  last : n = 0 ∨ f (n - 1) ≠ 0

theorem Canon.congr {f g : Nat → Int} {n : Nat} (h : Canon n f) (e : ∀ i, i < n → f i = g i) : Canon n g :=
  ⟨h.digs.congr e, by
    by_cases h0 : n = 0
    · exact .inl h0
    · exact .inr (by rw [← e (n - 1) (by omega)]; exact h.last.resolve_left h0)⟩

/-- A list without noughts at its end is as long as its value asks. -/
theorem Canon.low {f : Nat → Int} {n : Nat} (h : Canon (n + 1) f) : pw n ≤ val f (n + 1) := by
  have b := val_bd (h.digs.mono (Nat.le_succ n))
  have d := h.digs n (by omega)
  have hl : f n ≠ 0 := by simpa using h.last
  have := Int.mul_le_mul_of_nonneg_right (show (1 : Int) ≤ f n by omega) (Int.le_of_lt (pw_pos n))
  simp only [val]
  omega

theorem canon_lt {f g : Nat → Int} {n m : Nat} (hf : Digs f n) (hg : Canon m g) (h : n < m) : val f n < val g m := by
  obtain ⟨k, rfl⟩ : ∃ k, m = k + 1 := ⟨m - 1, by omega⟩
  have h1 := (val_bd hf).2
  have h2 := pw_le (show n ≤ k by omega)
  have h3 := hg.low
  omega

theorem canon_unique {f g : Nat → Int} {n m : Nat} (hf : Canon n f) (hg : Canon m g) (h : val f n = val g m) : n = m ∧ ∀ i, i < n → f i = g i := by
  have e : n = m := by
    rcases Nat.lt_trichotomy n m with hlt | rfl | hlt
    · have := canon_lt hf.digs hg hlt; omega
    · rfl
    · have := canon_lt hg.digs hf hlt; omega
  subst e
  exact ⟨rfl, digs_unique hf.digs hg.digs h⟩

/-- The digit of x at a place. -/
def dgt (x : Int) (i : Nat) : Int := x / pw i % 65536

theorem dgt_bd (x : Int) (i : Nat) : 0 ≤ dgt x i ∧ dgt x i ≤ 65535 := by unfold dgt; omega

theorem div_step {x : Int} (k : Nat) : x / pw k / 65536 = x / pw (k + 1) := by
  simp only [pw]
  rw [Int.ediv_ediv_of_nonneg (Int.le_of_lt (pw_pos k))]

theorem val_dgt (x : Int) (k : Nat) : val (dgt x) k + x / pw k * pw k = x := by
  induction k with
  | zero => simp [val, pw]
  | succ k ih =>
    simp only [val]
    rw [← div_step]
    have e : x / pw k = dgt x k + 65536 * (x / pw k / 65536) := by unfold dgt; omega
    generalize x / pw k = q at *
    generalize q / 65536 = q2 at *
    generalize dgt x k = d at *
    simp only [pw]
    grind

theorem div_small {x : Int} {k : Nat} (h0 : 0 ≤ x) (h : x < pw k) : x / pw k = 0 := Int.ediv_eq_zero_of_lt h0 h

theorem div_nonneg {x : Int} (k : Nat) (h0 : 0 ≤ x) : 0 ≤ x / pw k := Int.ediv_nonneg h0 (Int.le_of_lt (pw_pos k))

/-- The digits of x, as many as it has. -/
theorem canon_dgt {x : Int} {k : Nat} (h0 : x / pw k = 0) (hl : k = 0 ∨ 0 < x / pw (k - 1)) : Canon k (dgt x) ∧ val (dgt x) k = x := by
  have hv := val_dgt x k
  rw [h0] at hv
  refine ⟨⟨fun i _ => dgt_bd x i, ?_⟩, by omega⟩
  rcases hl with hl | hl
  · exact .inl hl
  · by_cases e : k = 0
    · exact .inl e
    · obtain ⟨j, rfl⟩ : ∃ j, k = j + 1 := ⟨k - 1, by omega⟩
      rw [← div_step] at h0
      refine .inr ?_
      simp only [Nat.add_sub_cancel] at hl ⊢
      unfold dgt
      omega

theorem pow_pw (k : Nat) : (2 : Int) ^ (16 * k) = pw k := by
  induction k with
  | zero => simp [pw]
  | succ k ih => rw [Nat.mul_succ, Int.pow_add, ih]; simp [pw]

theorem val_split (f : Nat → Int) (k m : Nat) : val f (k + m) = val f k + val (fun j => f (k + j)) m * pw k := by
  induction m with
  | zero => simp [val]
  | succ m ih =>
    rw [← Nat.add_assoc]
    simp only [val]
    rw [ih, pw_add]
    grind

theorem val_cons (f : Nat → Int) (m : Nat) : val f (m + 1) = f 0 + 65536 * val (fun j => f (j + 1)) m := by
  have h := val_split f 1 m
  rw [Nat.add_comm] at h
  rw [h]
  simp only [val, pw]
  rw [val_congr (g := fun j => f (j + 1)) (fun i _ => by rw [Nat.add_comm])]
  grind


/-- One digit more at the low end. -/
theorem step_top (f : Nat → Int) {n m : Nat} (h : m < n) : val (fun j => f (m + 1 + j)) (n - (m + 1)) * 65536 + f m = val (fun j => f (m + j)) (n - m) := by
  obtain ⟨r, rfl⟩ : ∃ r, n = m + 1 + r := ⟨n - (m + 1), by omega⟩
  rw [show m + 1 + r - m = r + 1 by omega, show m + 1 + r - (m + 1) = r by omega, val_cons]
  rw [val_congr (f := fun j => f (m + 1 + j)) (g := fun j => f (m + (j + 1))) (fun i _ => by rw [show m + 1 + i = m + (i + 1) by omega])]
  simp only [Nat.add_zero]
  omega
end

section
set_option linter.unusedVariables false
open Go.RowKit

set_option maxRecDepth 100000 in
theorem tab_size : (Lib.len8tab.size : Int) = 256 := by
  have : Lib.len8tab.size = 256 := by decide
  omega

theorem tab_get (y : Int) (h : y.toNat < Lib.len8tab.size) (h0 : 0 ≤ y) (h1 : y ≤ 255) : ((Lib.len8tab[y.toNat]'h).toNat : Int) = (Lib.bitLen y.toNat : Int) := by
  rw [← Lib.len8_of y h0 h1]
  unfold Lib.len8
  rw [getElem?_pos Lib.len8tab y.toNat h]
  rfl

theorem bit_low (x : Int) (h0 : 0 ≤ x) (h1 : x ≤ 255) (h : x.toNat < Lib.len8tab.size) : wrap64 (wrap64 ((Lib.len8tab[x.toNat]'h).toNat : Int)) = (Lib.bitLen x.toNat : Int) := by
  rw [tab_get x h h0 h1]
  have := Lib.bitLen_le8' x h0 h1
  unfold wrap64
  omega

theorem bit_high (x : Int) (h0 : 256 ≤ x) (h1 : x ≤ 65535) (h : (x / 256).toNat < Lib.len8tab.size) : wrap64 (8 + wrap64 ((Lib.len8tab[(x / 256).toNat]'h).toNat : Int)) = (Lib.bitLen x.toNat : Int) := by
  rw [tab_get (x / 256) h (by omega) (by omega)]
  have l := Lib.bitLen_le8' (x / 256) (by omega) (by omega)
  rw [Lib.bitLen_shift8 x.toNat (by omega) (by omega), show (x / 256).toNat = x.toNat / 256 by omega] at *
  unfold wrap64
  omega

set_option maxHeartbeats 400000 in
set_option maxRecDepth 100000 in
theorem len64_any (x : Int) (w : World) (h0 : 0 ≤ x) (h1 : x ≤ 65535) :
    Calls Tryz.prog 178 #[.int .u64 x] w fun e w' => e = .returned (.int .i64 (Lib.bitLen x.toNat)) ∧ w' = w := by
  have n1 : ¬ (4294967296 : Int) ≤ x := by omega
  have n2 : ¬ (65536 : Int) ≤ x := by omega
  have hsz := tab_size
  by_cases h : 256 ≤ x
  · have n3 : 0 ≤ x / 256 := by omega
    have n4 : x / 256 < 256 := by omega
    go_enter Tryz.func178, Tryz.ntmps178
    go_wp2
    go_ret
    exact ⟨ret_int (bit_high x h h1 (by omega)), rfl⟩
  · go_enter Tryz.func178, Tryz.ntmps178
    go_wp2
    go_ret
    exact ⟨ret_int (bit_low x h0 (by omega) (by omega)), rfl⟩

set_option maxHeartbeats 400000 in
theorem len_any (x : Int) (w : World) (h0 : 0 ≤ x) (h1 : x ≤ 65535) :
    Calls Tryz.prog 156 #[.int .u64 x] w fun e w' => e = .returned (.int .i64 (Lib.bitLen x.toNat)) ∧ w' = w := by
  go_enter Tryz.func156, Tryz.ntmps156
  go_wp2_with fail
  refine (len64_any x _ h0 h1).mono ?_
  rintro e w' ⟨rfl, hw⟩
  subst hw
  go_wp2
  go_ret
  exact ⟨rfl, rfl⟩

/-- How many bits n digits have. -/
def bitsOf (n : Nat) (f : Nat → Int) : Int := if n = 0 then 0 else 16 * ((n : Int) - 1) + Lib.bitLen (f (n - 1)).toNat

theorem bitLen_le16 (x : Int) (h0 : 0 ≤ x) (h1 : x ≤ 65535) : Lib.bitLen x.toNat ≤ 16 := by
  by_cases h : 256 ≤ x
  · rw [Lib.bitLen_shift8 x.toNat (by omega) (by omega)]
    have := Lib.bitLen_le8' (x / 256) (by omega) (by omega)
    rw [show (x / 256).toNat = x.toNat / 256 by omega] at this
    omega
  · have := Lib.bitLen_le8' x h0 (by omega)
    omega

set_option maxHeartbeats 400000 in
theorem digitsBits_any (a : Option Addr) (b off n cap : Nat) (f : Nat → Int) (w : World) (hs : Seg w a b off n f) (hn : n ≤ 1048576) (hd : n = 0 ∨ (0 ≤ f (n - 1) ∧ f (n - 1) ≤ 65535)) :
    Calls Tryz.prog 135 #[.slice a n cap] w fun e w' => e = .returned (.int .i64 (bitsOf n f)) ∧ w' = w := by
  by_cases h0 : n = 0
  · subst h0
    go_enter Tryz.func135, Tryz.ntmps135
    go_wp2
    go_ret
    exact ⟨rfl, rfl⟩
  · obtain ⟨m, rfl⟩ : ∃ m, n = m + 1 := ⟨n - 1, by omega⟩
    obtain rfl := hs.at' (by omega)
    have hc := hs.cell m (by omega)
    have hdm : 0 ≤ f m ∧ f m ≤ 65535 := by simpa using hd.resolve_left h0
    obtain ⟨d0, d1⟩ := hdm
    clear hd
    have hz : ((m : Int) + 1 == 0) = false := by simp; omega
    have Hfin : Hid (bitsOf (m + 1) f = 16 * (m : Int) + Lib.bitLen (f m).toNat) := by
      show bitsOf (m + 1) f = _
      simp [bitsOf]
    have hl := bitLen_le16 (f m) d0 d1
    go_enter Tryz.func135, Tryz.ntmps135
    go_wp2_with fail
    refine (len_any (f m) _ d0 d1).mono ?_
    rintro e w' ⟨rfl, hw⟩
    subst hw
    go_wp2
    go_ret
    exact ⟨ret_int (by rw [Hfin.out]), rfl⟩
end

section
set_option linter.unusedVariables false
open Go.RowKit

theorem bit_fin (n y : Int) (h0 : 0 ≤ y) (h1 : y ≤ 255) (hn : 0 ≤ n) (hn2 : n ≤ 64) (h : y.toNat < Lib.len8tab.size) : wrap64 (n + wrap64 ((Lib.len8tab[y.toNat]'h).toNat : Int)) = n + (Lib.bitLen y.toNat : Int) := by
  rw [tab_get y h h0 h1]
  have := Lib.bitLen_le8' y h0 h1
  unfold wrap64
  omega

theorem bitLen_32 (x : Int) (h : 4294967296 ≤ x) (hx : x ≤ 18446744073709551615) : (Lib.bitLen x.toNat : Int) = 32 + Lib.bitLen (x / 4294967296).toNat := by
  rw [Lib.bitLen_shift32 x.toNat (by omega) (by omega), show (x / 4294967296).toNat = x.toNat / 4294967296 by omega]
  omega
theorem bitLen_16 (x : Int) (h : 65536 ≤ x) (hx : x ≤ 18446744073709551615) : (Lib.bitLen x.toNat : Int) = 16 + Lib.bitLen (x / 65536).toNat := by
  rw [Lib.bitLen_shift16 x.toNat (by omega) (by omega), show (x / 65536).toNat = x.toNat / 65536 by omega]
  omega
theorem bitLen_8 (x : Int) (h : 256 ≤ x) (hx : x ≤ 18446744073709551615) : (Lib.bitLen x.toNat : Int) = 8 + Lib.bitLen (x / 256).toNat := by
  rw [Lib.bitLen_shift8 x.toNat (by omega) (by omega), show (x / 256).toNat = x.toNat / 256 by omega]
  omega

set_option maxHeartbeats 1600000 in
set_option maxRecDepth 100000 in
theorem len64_all (x : Int) (w : World) (h0 : 0 ≤ x) (h1 : x ≤ 18446744073709551615) :
    Calls Tryz.prog 178 #[.int .u64 x] w fun e w' => e = .returned (.int .i64 (Lib.bitLen x.toNat)) ∧ w' = w := by
  have hsz := tab_size
  by_cases c1 : 4294967296 ≤ x
  · have e1 := bitLen_32 x c1 h1
    have E1 := hide e1
    clear e1
    have y0 : 0 ≤ x / 4294967296 := by omega
    have y1 : x / 4294967296 ≤ 4294967295 := by omega
    by_cases c2 : 65536 ≤ x / 4294967296
    · have E2 := hide (bitLen_16 _ c2 (by omega))
      by_cases c3 : 256 ≤ x / 4294967296 / 65536
      · have E3 := hide (bitLen_8 _ c3 (by omega))
        have k0 : 0 ≤ x / 4294967296 / 65536 / 256 := by omega
        have k1 : x / 4294967296 / 65536 / 256 < 256 := by omega
        go_enter Tryz.func178, Tryz.ntmps178
        go_wp2
        go_ret
        exact ⟨ret_int (by rw [bit_fin _ _ k0 (by omega) (by omega) (by omega), E1.out, E2.out, E3.out]; omega), rfl⟩
      · have k0 : 0 ≤ x / 4294967296 / 65536 := by omega
        have k1 : x / 4294967296 / 65536 < 256 := by omega
        go_enter Tryz.func178, Tryz.ntmps178
        go_wp2
        go_ret
        exact ⟨ret_int (by rw [bit_fin _ _ k0 (by omega) (by omega) (by omega), E1.out, E2.out]; omega), rfl⟩
    · by_cases c3 : 256 ≤ x / 4294967296
      · have E3 := hide (bitLen_8 _ c3 (by omega))
        have k0 : 0 ≤ x / 4294967296 / 256 := by omega
        have k1 : x / 4294967296 / 256 < 256 := by omega
        go_enter Tryz.func178, Tryz.ntmps178
        go_wp2
        go_ret
        exact ⟨ret_int (by rw [bit_fin _ _ k0 (by omega) (by omega) (by omega), E1.out, E3.out]; omega), rfl⟩
      · have k1 : x / 4294967296 < 256 := by omega
        go_enter Tryz.func178, Tryz.ntmps178
        go_wp2
        go_ret
        exact ⟨ret_int (by rw [bit_fin _ _ y0 (by omega) (by omega) (by omega), E1.out]), rfl⟩
  · by_cases c2 : 65536 ≤ x
    · have E2 := hide (bitLen_16 _ c2 (by omega))
      have y0 : 0 ≤ x / 65536 := by omega
      by_cases c3 : 256 ≤ x / 65536
      · have E3 := hide (bitLen_8 _ c3 (by omega))
        have k0 : 0 ≤ x / 65536 / 256 := by omega
        have k1 : x / 65536 / 256 < 256 := by omega
        go_enter Tryz.func178, Tryz.ntmps178
        go_wp2
        go_ret
        exact ⟨ret_int (by rw [bit_fin _ _ k0 (by omega) (by omega) (by omega), E2.out, E3.out]; omega), rfl⟩
      · have k1 : x / 65536 < 256 := by omega
        go_enter Tryz.func178, Tryz.ntmps178
        go_wp2
        go_ret
        exact ⟨ret_int (by rw [bit_fin _ _ y0 (by omega) (by omega) (by omega), E2.out]), rfl⟩
    · exact len64_any x w h0 (by omega)

set_option maxHeartbeats 400000 in
theorem len_all (x : Int) (w : World) (h0 : 0 ≤ x) (h1 : x ≤ 18446744073709551615) :
    Calls Tryz.prog 156 #[.int .u64 x] w fun e w' => e = .returned (.int .i64 (Lib.bitLen x.toNat)) ∧ w' = w := by
  go_enter Tryz.func156, Tryz.ntmps156
  go_wp2_with fail
  refine (len64_all x _ h0 h1).mono ?_
  rintro e w' ⟨rfl, hw⟩
  subst hw
  go_wp2
  go_ret
  exact ⟨rfl, rfl⟩

theorem bitLen_lt (x : Nat) (h : x < 2 ^ 64) : x < 2 ^ Lib.bitLen x := by
  have key : ∀ f x, x < 2 ^ f → f ≤ 64 → x < 2 ^ Lib.bitLen x := by
    intro f
    induction f with
    | zero => intro x hx _; have : x = 0 := by simpa using hx
              subst this; exact Nat.pow_pos (by omega)
    | succ f ih =>
      intro x hx hf
      by_cases h0 : x = 0
      · subst h0; exact Nat.pow_pos (by omega)
      · have hx64 : x < 2 ^ 64 := Nat.lt_of_lt_of_le hx (Nat.pow_le_pow_right (by omega) hf)
        rw [Lib.bitLen_half x h0 hx64]
        have := ih (x / 2) (by rw [Nat.pow_succ] at hx; omega) (by omega)
        rw [Nat.pow_add, Nat.pow_one]
        omega
  exact key 64 x h (Nat.le_refl _)
end

section
set_option linter.unusedVariables false

theorem ofInt64 (x : Int) : (BitVec.ofInt 64 x).toNat = (x % 18446744073709551616).toNat := by
  rw [BitVec.toNat_ofInt]; rfl

/-- 'x & 65535' is what is left of x by 65536, below 0 too. -/
theorem and_top (x : Int) : bits .and .i64 x 65535 = x % 65536 := by
  show IntKind.i64.wrap ((BitVec.ofInt 64 x &&& BitVec.ofInt 64 65535).toNat : Int) = _
  have h2 : (BitVec.ofInt 64 65535).toNat = 2 ^ 16 - 1 := by decide
  rw [BitVec.toNat_and, ofInt64, h2, Nat.and_two_pow_sub_one_eq_mod, IntKind.wrap_i64]
  omega

/-- 'a<<16 | b' with b a digit. -/
theorem or_low (a b : Int) (ha : 0 ≤ a) (ha' : a ≤ 70368744177664) (hb : 0 ≤ b) (hb' : b ≤ 65535) : bits .or .i64 (a * 65536) b = a * 65536 + b := by
  show IntKind.i64.wrap ((BitVec.ofInt 64 (a * 65536) ||| BitVec.ofInt 64 b).toNat : Int) = _
  obtain ⟨A, rfl⟩ := Int.eq_ofNat_of_zero_le ha
  obtain ⟨B, rfl⟩ := Int.eq_ofNat_of_zero_le hb
  have e1 : ((A : Int) * 65536 % 18446744073709551616).toNat = 2 ^ 16 * A := by omega
  have e2 : ((B : Int) % 18446744073709551616).toNat = B := by omega
  rw [BitVec.toNat_or, ofInt64, ofInt64, e1, e2, ← Nat.two_pow_add_eq_or_of_lt (by omega), IntKind.wrap_i64]
  omega

theorem and_one (x : Int) : bits .and .i64 x 1 = x % 2 := by
  show IntKind.i64.wrap ((BitVec.ofInt 64 x &&& BitVec.ofInt 64 1).toNat : Int) = _
  have h2 : (BitVec.ofInt 64 1).toNat = 2 ^ 1 - 1 := by decide
  rw [BitVec.toNat_and, ofInt64, h2, Nat.and_two_pow_sub_one_eq_mod, IntKind.wrap_i64]
  omega

/-- A bit that is told by a shift. -/
theorem bit_test (x k : Nat) : (bits .and .i64 ((x : Int) / 2 ^ k) 1 == 1) = decide (x / 2 ^ k % 2 = 1) := by
  rw [and_one]
  have e : (x : Int) / 2 ^ k = ((x / 2 ^ k : Nat) : Int) := by simp
  rw [e]
  generalize x / 2 ^ k = y
  by_cases h : y % 2 = 1
  · have : (y : Int) % 2 = 1 := by omega
    simp [h, this]
  · have : (y : Int) % 2 = 0 := by omega
    simp [h, this]
end

section
set_option linter.unusedVariables false
open Go.RowKit

theorem cast_mulmod (x y m : Nat) : ((x : Int) * (y : Int)) % (m : Int) = ((x * y % m : Nat) : Int) := by
  rw [Int.natCast_emod, Int.natCast_mul]

set_option maxHeartbeats 800000 in
theorem l2Pow_any (a e m : Nat) (w : World) (ha : a ≤ 9223372036854775807) (he : e ≤ 9223372036854775807) (hm0 : 0 < m) (hm : m ≤ 1073741824) :
    Calls Tryz.prog 120 #[.int .i64 a, .int .i64 e, .int .i64 m] w fun r w' => r = .returned (.int .i64 ((a ^ e % m : Nat) : Int)) ∧ Drawn w w' := by
  have hmi : 0 < (m : Int) := by omega
  have hr1 : (1 : Int) % (m : Int) = ((1 % m : Nat) : Int) := by rw [Int.natCast_emod]; rfl
  have hr2 : (a : Int) % (m : Int) = ((a % m : Nat) : Int) := by omega
  have l1 : 1 % m < m := Nat.mod_lt _ hm0
  have l2 : a % m < m := Nat.mod_lt _ hm0
  have Hs := hide (pow_start a e m)
  go_enter Tryz.func120, Tryz.ntmps120
  go_wp2
  go_quiet (fail)
  generalize 1 % m = o0 at *
  generalize a % m = b0 at *
  go_wp2
  go_loopw [1, 7, 8] (fun x o b wr => ∃ X O B : Nat, x = .int .i64 X ∧ o = .int .i64 O ∧ b = .int .i64 B ∧ O < m ∧ B < m ∧ X ≤ 9223372036854775807 ∧ O * B ^ X % m = a ^ e % m ∧ Drawn w wr) (fun x _ _ _ => (intOf x).toNat)
  case atStart => exact ⟨e, o0, b0, rfl, by rw [hr1], by rw [hr2], l1, l2, he, Hs.out, (Drawn.refl _).more _⟩
  case round =>
    obtain ⟨X, O, B, rfl, rfl, rfl, hO, hB, hX, hV, hQ⟩ := hrel
    clear hr1 hr2 l1 l2 Hs
    have HV := hide hV
    clear hV
    by_cases h0 : X = 0
    · subst h0
      go_wp2
      go_ret
      exact ⟨ret_int (by rw [← HV.out, Nat.pow_zero, Nat.mul_one, Nat.mod_eq_of_lt hO]), hQ⟩
    · have hp : 0 < (X : Int) := by omega
      have p1 := mul_small hm hO hB
      have p2 := mul_small hm hB hB
      have z1 : 0 ≤ (O : Int) * (B : Int) := Int.mul_nonneg (by omega) (by omega)
      have z2 : 0 ≤ (B : Int) * (B : Int) := Int.mul_nonneg (by omega) (by omega)
      have E1 := hide (cast_mulmod O B m)
      have E2 := hide (cast_mulmod B B m)
      by_cases hodd : X % 2 = 1
      · have hb : (X : Int) % 2 = 1 := by omega
        have Hn := hide (pow_odd O B X m hodd)
        go_wp2
        go_roundw
        case rel => exact ⟨X / 2, O * B % m, B * B % m, by go_num, by rw [E1.out], by rw [E2.out], Nat.mod_lt _ hm0, Nat.mod_lt _ hm0, by omega, Hn.out.trans HV.out, hQ⟩
        case measure => simp [intOf]; omega
      · have hb : (X : Int) % 2 = 0 := by omega
        have Hn := hide (pow_even O B X m (by omega))
        go_wp2
        go_roundw
        case rel => exact ⟨X / 2, O, B * B % m, by go_num, rfl, by rw [E2.out], hO, Nat.mod_lt _ hm0, by omega, Hn.out.trans HV.out, hQ⟩
        case measure => simp [intOf]; omega

set_option maxHeartbeats 800000 in
theorem intPower_any (a e m : Nat) (w : World) (ha : a < m) (he : e ≤ 9223372036854775807) (hm0 : 0 < m) (hm : m ≤ 1073741824) :
    Calls Tryz.prog 183 #[.int .i64 a, .int .i64 e, .int .i64 m] w fun r w' => r = .returned (.int .i64 ((a ^ e % m : Nat) : Int)) ∧ w' = w := by
  have hmi : 0 < (m : Int) := by omega
  have hr1 : (1 : Int) % (m : Int) = ((1 % m : Nat) : Int) := by rw [Int.natCast_emod]; rfl
  have l1 : 1 % m < m := Nat.mod_lt _ hm0
  have Hs : Hid (1 % m * a ^ e % m = a ^ e % m) := by
    have := pow_start a e m
    rwa [Nat.mod_eq_of_lt ha] at this
  have hlen := Lib.bitLen_le e 64 (by omega) (by omega)
  have Hlt := hide (bitLen_lt e (by omega))
  generalize 1 % m = o0 at *
  generalize a ^ e % m = R at *
  go_enter Tryz.func183, Tryz.ntmps183
  go_wp2_with fail
  refine (len_all (e : Int) _ (by omega) (by omega)).mono ?_
  rintro r w' ⟨rfl, hw⟩
  subst hw
  rw [Int.toNat_natCast]
  generalize Lib.bitLen e = L at *
  go_wp2
  go_loop [7, 8, 16] (fun o b i => ∃ O B K : Nat, o = .int .i64 O ∧ b = .int .i64 B ∧ i = .int .i64 K ∧ K ≤ L ∧ O < m ∧ B < m ∧ O * B ^ (e / 2 ^ K) % m = R) (fun _ _ i => L - (intOf i).toNat)
  case atStart => exact ⟨o0, a, 0, by first | rfl | rw [hr1], rfl, rfl, by omega, l1, ha, by simpa using Hs.out⟩
  case round =>
    obtain ⟨O, B, K, rfl, rfl, rfl, hK, hO, hB, hV⟩ := hrel
    clear hr1 l1 Hs
    have HV := hide hV
    clear hV
    by_cases hend : K = L
    · subst hend
      go_wp2
      go_ret
      exact ⟨ret_int (by rw [← HV.out, Nat.div_eq_of_lt Hlt.out, Nat.pow_zero, Nat.mul_one, Nat.mod_eq_of_lt hO]), rfl⟩
    · have hlt : (K : Int) < (L : Int) := by omega
      have p1 := mul_small hm hO hB
      have p2 := mul_small hm hB hB
      have z1 : 0 ≤ (O : Int) * (B : Int) := Int.mul_nonneg (by omega) (by omega)
      have z2 : 0 ≤ (B : Int) * (B : Int) := Int.mul_nonneg (by omega) (by omega)
      have E1 := hide (cast_mulmod O B m)
      have E2 := hide (cast_mulmod B B m)
      have Hd := hide (show e / 2 ^ (K + 1) = e / 2 ^ K / 2 by rw [Nat.pow_succ, Nat.div_div_eq_div_mul])
      by_cases hodd : e / 2 ^ K % 2 = 1
      · have hb : (bits .and .i64 ((e : Int) / 2 ^ K) 1 == 1) = true := by rw [bit_test]; simpa using hodd
        have Hn := hide (pow_odd O B (e / 2 ^ K) m hodd)
        clear hodd
        go_wp2
        go_round
        case rel => exact ⟨O * B % m, B * B % m, K + 1, by rw [E1.out], by rw [E2.out], by go_num, by omega, Nat.mod_lt _ hm0, Nat.mod_lt _ hm0, by rw [Hd.out]; exact Hn.out.trans HV.out⟩
        case measure => simp [intOf]; omega
      · have hb : (bits .and .i64 ((e : Int) / 2 ^ K) 1 == 1) = false := by rw [bit_test]; simpa using hodd
        have Hn := hide (pow_even O B (e / 2 ^ K) m (by omega))
        clear hodd
        go_wp2
        go_round
        case rel => exact ⟨O, B * B % m, K + 1, rfl, by rw [E2.out], by go_num, by omega, hO, Nat.mod_lt _ hm0, by rw [Hd.out]; exact Hn.out.trans HV.out⟩
        case measure => simp [intOf]; omega

/-- PowInt's answer. -/
def powV (a e m : Int) : Int := if a < 0 ∨ e < 0 ∨ m < 1 ∨ 1073741824 < m then 0 else ((a.toNat ^ e.toNat % m.toNat : Nat) : Int)
def powB (a e m : Int) : Bool := !decide (a < 0 ∨ e < 0 ∨ m < 1 ∨ 1073741824 < m)

theorem ret_ib' {a b : Int} {p q : Bool} (h : a = b) (h2 : p = q) : Ending.returned (.tuple #[.int .i64 a, .bool p]) = .returned (.tuple #[.int .i64 b, .bool q]) := by rw [h, h2]
end

section
set_option linter.unusedVariables false
open Go.RowKit

theorem left_neg (a m : Int) (ha : a < 0) (hm : 0 < m) : Int.tmod a m % m = a % m := by
  have e := Int.tmod_add_mul_tdiv a m
  have e2 : Int.tmod a m = a + m * -(Int.tdiv a m) := by rw [Int.mul_neg]; omega
  rw [e2, Int.add_mul_emod_self_left]

theorem tmod_neg {a m : Int} (ha : a < 0) : Int.tmod a m ≤ 0 := by
  have e : Int.tmod a m = -(Int.tmod (-a) m) := by rw [Int.neg_tmod]; omega
  have := Int.tmod_nonneg m (show 0 ≤ -a by omega)
  omega

set_option maxHeartbeats 400000 in
theorem l2Left_any (a m : Int) (w : World) (h0 : -9223372036854775808 ≤ a) (h1 : a ≤ 9223372036854775807) (hm0 : 2 ≤ m) (hm : m ≤ 1073741824) :
    Calls Tryz.prog 119 #[.int .i64 a, .int .i64 m] w fun r w' => r = .returned (.int .i64 (a % m)) ∧ w' = w := by
  have hmp : 0 < m := by omega
  by_cases h : 0 ≤ a
  · have r0 := Int.emod_nonneg a (show m ≠ 0 by omega)
    have r1 := Int.emod_lt_of_pos a hmp
    go_enter Tryz.func119, Tryz.ntmps119
    go_wp2
    go_ret
    exact ⟨ret_int (by rw [Int.add_emod_right, Int.emod_emod]), rfl⟩
  · have Hf := hide (left_neg a m (by omega) hmp)
    have t0 : -m < Int.tmod a m := Int.lt_tmod_of_pos a hmp
    have t1 : Int.tmod a m ≤ 0 := tmod_neg (by omega)
    go_enter Tryz.func119, Tryz.ntmps119
    go_wp2
    go_ret
    exact ⟨ret_int Hf.out, rfl⟩

set_option maxHeartbeats 400000 in
theorem intRest_any (a m : Int) (w : World) (h0 : -9223372036854775808 ≤ a) (h1 : a ≤ 9223372036854775807) (hm0 : 2 ≤ m) (hm : m ≤ 1073741824) :
    Calls Tryz.prog 171 #[.int .i64 a, .int .i64 m] w fun r w' => r = .returned (.int .i64 (a % m)) ∧ w' = w := by
  have hmp : 0 < m := by omega
  by_cases h : 0 ≤ a
  · have r0 := Int.emod_nonneg a (show m ≠ 0 by omega)
    have r1 := Int.emod_lt_of_pos a hmp
    go_enter Tryz.func171, Tryz.ntmps171
    go_wp2
    go_ret
    exact ⟨ret_int (by rw [Int.add_emod_right, Int.emod_emod]), rfl⟩
  · have Hf := hide (left_neg a m (by omega) hmp)
    have t0 : -m < Int.tmod a m := Int.lt_tmod_of_pos a hmp
    have t1 : Int.tmod a m ≤ 0 := tmod_neg (by omega)
    go_enter Tryz.func171, Tryz.ntmps171
    go_wp2
    go_ret
    exact ⟨ret_int Hf.out, rfl⟩

/-- The answer of an inverse by m: what is left of a is taken. -/
def invR (a m : Int) : Nat := (a % m).toNat

theorem invR_lt {a m : Int} (hm : 2 ≤ m) : invR a m < m.toNat ∧ a % m = (invR a m : Int) := by
  have r0 := Int.emod_nonneg a (show m ≠ 0 by omega)
  have r1 := Int.emod_lt_of_pos a (show 0 < m by omega)
  unfold invR
  omega

theorem div_mod_int (R S : Nat) : (R : Int) - ((R / S : Nat) : Int) * (S : Int) = ((R % S : Nat) : Int) := by
  have := Nat.div_add_mod R S
  rw [← Int.natCast_mul, Nat.mul_comm]
  omega

/-- InvInt's answer. -/
def InvAns (a m v : Int) (ok : Bool) : Prop :=
  (m < 2 ∨ 1073741824 < m → v = 0 ∧ ok = false) ∧ (2 ≤ m → m ≤ 1073741824 → IsInv m.toNat (invR a m) v ok)

/-- A call's answer is InvInt's. -/
def GivesInv (a m : Int) (r : Ending) : Prop := ∃ v ok, r = .returned (.tuple #[.int .i64 v, .bool ok]) ∧ InvAns a m v ok

theorem InvAns.unique {a m v v' : Int} {ok ok' : Bool} (h : InvAns a m v ok) (h' : InvAns a m v' ok') : v = v' ∧ ok = ok' := by
  by_cases c : m < 2 ∨ 1073741824 < m
  · obtain ⟨rfl, rfl⟩ := h.1 c
    obtain ⟨rfl, rfl⟩ := h'.1 c
    exact ⟨rfl, rfl⟩
  · exact (h.2 (by omega) (by omega)).unique (h'.2 (by omega) (by omega))

set_option maxHeartbeats 1600000 in
theorem l2Inv_any (a : Int) (m : Nat) (w : World) (h0 : -9223372036854775808 ≤ a) (h1 : a ≤ 9223372036854775807) (hm0 : 2 ≤ m) (hm : m ≤ 1073741824) :
    Calls Tryz.prog 118 #[.int .i64 a, .int .i64 (m : Int)] w fun r w' => (∃ v, r = .returned (.int .i64 v) ∧ IsInv m (invR a m) v (decide (0 < v)) ∧ 0 ≤ v) ∧ Drawn w w' := by
  obtain ⟨hlt, he⟩ := invR_lt (a := a) (m := (m : Int)) (by omega)
  rw [Int.toNat_natCast] at hlt
  generalize invR a (m : Int) = A at *
  go_enter Tryz.func118, Tryz.ntmps118
  go_wp2_with fail
  refine (l2Left_any a (m : Int) _ h0 h1 (by omega) (by omega)).mono ?_
  rintro r w' ⟨rfl, hw⟩
  obtain rfl := hw.symm
  rw [he]
  have E0 := hide (euclid_start hlt)
  clear he
  go_wp2
  go_loopw [5, 6, 7, 8] (fun r s x y wr => ∃ (R S : Nat) (X Y : Int), r = .int .i64 R ∧ s = .int .i64 S ∧ x = .int .i64 X ∧ y = .int .i64 Y ∧ Euclid m A R S X Y ∧ R ≤ m ∧ Drawn w wr) (fun _ s _ _ _ => (intOf s).toNat)
  case atStart => exact ⟨m, A, 0, 1, rfl, rfl, rfl, rfl, E0.out, by omega, Drawn.refl _⟩
  case round =>
    obtain ⟨R, S, X, Y, rfl, rfl, rfl, rfl, hE, hR, hQ⟩ := hrel
    clear E0
    have sm := hE.small
    obtain ⟨s1, s2, s3, s4⟩ := sm
    by_cases hS : S = 0
    · subst hS
      by_cases hR1 : R = 1
      · obtain ⟨hI, hpos⟩ := hE.done hm0 hR1
        have HI := hide hI
        have HP := hide hpos
        subst hR1
        clear hE hI hpos
        go_wp2_with fail
        refine (l2Left_any X (m : Int) _ (by omega) (by omega) (by omega) (by omega)).mono ?_
        rintro r w' ⟨rfl, hw⟩
        subst hw
        generalize X % (m : Int) = v at *
        go_wp2
        go_ret
        exact ⟨⟨v, rfl, by rw [decide_eq_true HP.out]; exact HI.out, Int.le_of_lt HP.out⟩, hQ⟩
      · have HI := hide (hE.done_no hR1)
        have hb : ((R : Int) != 1) = true := by simp; omega
        clear hE hR1
        go_wp2
        go_ret
        exact ⟨⟨0, rfl, by simpa using HI.out, Int.le_refl _⟩, hQ⟩
    · have hSp : 0 < S := by omega
      have hst := hide (hE.step hSp)
      obtain ⟨q1, q2⟩ := hE.small_mul hSp
      have hq := hide (hE.step hSp).small
      have hdiv : (R : Int) / (S : Int) = ((R / S : Nat) : Int) := by omega
      have hmod : (R : Int) % (S : Int) = ((R % S : Nat) : Int) := by omega
      have ml := Nat.mod_lt R hSp
      have dl := Nat.div_le_self R S
      have hlt := hE.lt
      clear hE
      generalize R / S = Q at *
      generalize R % S = T at *
      obtain ⟨t1, t2, t3, t4⟩ := hq.out
      clear hq
      generalize hz : (Q : Int) * Y = Z at *
      go_wp2
      go_quiet (fail)
      go_wp2
      go_roundw
      case rel => exact ⟨S, T, Y, X - Z, rfl, by first | rfl | rw [hmod], rfl, rfl, hst.out, by omega, hQ.more _⟩
      case measure => simp [intOf]; omega

set_option maxHeartbeats 1600000 in
theorem implInvInt_any (a m : Int) (w : World) (h0 : -9223372036854775808 ≤ a) (h1 : a ≤ 9223372036854775807) :
    Calls Tryz.prog 184 #[.int .i64 a, .int .i64 m] w fun r w' => GivesInv a m r ∧ w' = w := by
  by_cases c : 2 ≤ m ∧ m ≤ 1073741824
  · obtain ⟨z, rfl⟩ := Int.eq_ofNat_of_zero_le (show 0 ≤ m by omega)
    obtain ⟨c1, c2⟩ := c
    obtain ⟨hlt, he⟩ := invR_lt (a := a) (m := (z : Int)) (by omega)
    rw [Int.toNat_natCast] at hlt
    have hm0 : 2 ≤ z := by omega
    have HA : Hid (∀ v ok, IsInv z (invR a z) v ok → InvAns a (z : Int) v ok) := fun v ok h => ⟨fun h => by omega, fun _ _ => by rw [Int.toNat_natCast]; exact h⟩
    generalize invR a (z : Int) = A at *
    go_enter Tryz.func184, Tryz.ntmps184
    go_wp2_with fail
    refine (intRest_any a (z : Int) _ h0 h1 (by omega) (by omega)).mono ?_
    rintro r w' ⟨rfl, hw⟩
    obtain rfl := hw.symm
    rw [he]
    have E0 := hide (euclid_start hlt)
    clear he
    go_wp2
    go_loop [6, 7, 8, 9] (fun r s x y => ∃ (R S : Nat) (X Y : Int), r = .int .i64 R ∧ s = .int .i64 S ∧ x = .int .i64 X ∧ y = .int .i64 Y ∧ Euclid z A R S X Y ∧ R ≤ z) (fun _ s _ _ => (intOf s).toNat)
    case atStart => exact ⟨z, A, 0, 1, rfl, rfl, rfl, rfl, E0.out, by omega⟩
    case round =>
      obtain ⟨R, S, X, Y, rfl, rfl, rfl, rfl, hE, hR⟩ := hrel
      clear E0
      have sm := hE.small
      obtain ⟨s1, s2, s3, s4⟩ := sm
      by_cases hS : S = 0
      · subst hS
        by_cases hR1 : R = 1
        · obtain ⟨hI, hpos⟩ := hE.done hm0 hR1
          have HI := hide hI
          subst hR1
          clear hE hI hpos
          go_wp2_with fail
          refine (intRest_any X (z : Int) _ (by omega) (by omega) (by omega) (by omega)).mono ?_
          rintro r w' ⟨rfl, hw⟩
          obtain rfl := hw.symm
          generalize X % (z : Int) = v at *
          go_wp2
          go_ret2
          exact ⟨⟨v, true, rfl, HA.out _ _ HI.out⟩, rfl⟩
        · have HI := hide (hE.done_no hR1)
          have hb : ((R : Int) != 1) = true := by simp; omega
          clear hE hR1
          go_wp2
          go_ret2
          exact ⟨⟨0, false, rfl, HA.out _ _ HI.out⟩, rfl⟩
      · have hSp : 0 < S := by omega
        have hst := hide (hE.step hSp)
        obtain ⟨q1, q2⟩ := hE.small_mul hSp
        have hq := hide (hE.step hSp).small
        have hdiv : (R : Int) / (S : Int) = ((R / S : Nat) : Int) := by omega
        have hmod := div_mod_int R S
        have ml := Nat.mod_lt R hSp
        have dl := Nat.div_le_self R S
        have hlt := hE.lt
        clear hE
        generalize R / S = Q at *
        generalize R % S = T at *
        obtain ⟨t1, t2, t3, t4⟩ := hq.out
        clear hq
        generalize hz : (Q : Int) * Y = Z at *
        generalize hz2 : (Q : Int) * (S : Int) = Z2 at *
        go_wp2
        go_round
        case rel => exact ⟨S, T, Y, X - Z, rfl, by first | rfl | rw [hmod], rfl, rfl, hst.out, by omega⟩
        case measure => simp [intOf]; omega
  · have HA : Hid (InvAns a m 0 false) := ⟨fun _ => ⟨rfl, rfl⟩, fun h h' => absurd ⟨h, h'⟩ c⟩
    by_cases c1 : m < 2
    · clear c
      go_enter Tryz.func184, Tryz.ntmps184
      go_wp2
      go_ret2
      exact ⟨⟨0, false, rfl, HA.out⟩, rfl⟩
    · have c2 : 1073741824 < m := by omega
      clear c
      go_enter Tryz.func184, Tryz.ntmps184
      go_wp2
      go_ret2
      exact ⟨⟨0, false, rfl, HA.out⟩, rfl⟩
end

section
set_option linter.unusedVariables false

/-- A prime number, as trial division tells it. -/
def Prime (p : Nat) : Prop := 2 ≤ p ∧ ∀ d, 2 ≤ d → d * d ≤ p → ¬ d ∣ p

theorem Prime.no_div {p : Nat} (h : Prime p) {d : Nat} (h1 : 2 ≤ d) (h2 : d < p) : ¬ d ∣ p := by
  intro hd
  by_cases hq : d * d ≤ p
  · exact h.2 d h1 hq hd
  · obtain ⟨c, rfl⟩ := hd
    have hc : c < d := by
      rcases Nat.lt_or_ge c d with h | h
      · exact h
      · exact absurd (Nat.mul_le_mul_left d h) hq
    have hc2 : 2 ≤ c := by
      rcases Nat.lt_or_ge c 2 with h' | h'
      · have : c = 0 ∨ c = 1 := by omega
        rcases this with rfl | rfl <;> omega
      · exact h'
    refine h.2 c hc2 ?_ ⟨d, Nat.mul_comm _ _⟩
    exact Nat.mul_le_mul_right c (Nat.le_of_lt hc)

theorem Prime.coprime {p : Nat} (h : Prime p) {n : Nat} (hn : ¬ p ∣ n) : Nat.Coprime p n := by
  have hg := Nat.gcd_dvd_left p n
  have hn' := Nat.gcd_dvd_right p n
  have hle := Nat.le_of_dvd (by have := h.1; omega) hg
  have hpos : 0 < Nat.gcd p n := Nat.gcd_pos_of_pos_left _ (by have := h.1; omega)
  rcases Nat.lt_or_ge (Nat.gcd p n) 2 with hlt | hge
  · show Nat.gcd p n = 1
    omega
  · rcases Nat.lt_or_ge (Nat.gcd p n) p with h1 | h1
    · exact absurd hg (h.no_div hge h1)
    · have e : Nat.gcd p n = p := by omega
      rw [e] at hn'
      exact absurd hn' hn

theorem Prime.dvd_mul {p : Nat} (h : Prime p) {a b : Nat} (hd : p ∣ a * b) : p ∣ a ∨ p ∣ b := by
  by_cases ha : p ∣ a
  · exact Or.inl ha
  · exact Or.inr ((h.coprime ha).dvd_of_dvd_mul_left hd)

/-- Pascal's numbers. -/
def ch : Nat → Nat → Nat
  | _, 0 => 1
  | 0, _ + 1 => 0
  | n + 1, k + 1 => ch n k + ch n (k + 1)

theorem ch_zero (n : Nat) : ch n 0 = 1 := by cases n <;> rfl
theorem ch_succ (n k : Nat) : ch (n + 1) (k + 1) = ch n k + ch n (k + 1) := rfl

theorem ch_big (n : Nat) : ∀ k, n < k → ch n k = 0 := by
  induction n with
  | zero => intro k hk; obtain ⟨j, rfl⟩ : ∃ j, k = j + 1 := ⟨k - 1, by omega⟩; rfl
  | succ n ih => intro k hk; obtain ⟨j, rfl⟩ : ∃ j, k = j + 1 := ⟨k - 1, by omega⟩; rw [ch_succ, ih _ (by omega), ih _ (by omega)]

theorem ch_self (n : Nat) : ch n n = 1 := by
  induction n with
  | zero => rfl
  | succ n ih => rw [ch_succ, ih, ch_big n (n + 1) (by omega)]

theorem ch_absorb (n : Nat) : ∀ k, (k + 1) * ch (n + 1) (k + 1) = (n + 1) * ch n k := by
  induction n with
  | zero =>
    intro k
    cases k with
    | zero => rfl
    | succ k => simp [ch]
  | succ n ih =>
    intro k
    cases k with
    | zero => simp only [ch_succ (n + 1) 0, ch_zero]; have := ih 0; simp only [ch_zero] at this; simp only [Nat.zero_add] at *; omega
    | succ k =>
      have h1 := ih k
      have h2 := ih (k + 1)
      rw [ch_succ (n + 1) (k + 1)]
      have e := ch_succ n k
      have : (k + 1 + 1) * (ch (n + 1) (k + 1) + ch (n + 1) (k + 1 + 1)) = (k + 1) * ch (n + 1) (k + 1) + ch (n + 1) (k + 1) + (k + 1 + 1) * ch (n + 1) (k + 1 + 1) := by
        rw [Nat.mul_add, Nat.add_mul (k + 1) 1, Nat.one_mul]
      rw [this, h1, h2, e]
      grind

theorem Prime.ch_dvd {p : Nat} (h : Prime p) {k : Nat} (h0 : 0 < k) (h1 : k < p) : p ∣ ch p k := by
  obtain ⟨q, rfl⟩ : ∃ q, p = q + 1 := ⟨p - 1, by omega⟩
  obtain ⟨j, rfl⟩ : ∃ j, k = j + 1 := ⟨k - 1, by omega⟩
  have e := ch_absorb q j
  rcases h.dvd_mul (a := j + 1) (b := ch (q + 1) (j + 1)) ⟨ch q j, e⟩ with hd | hd
  · exact absurd (Nat.le_of_dvd (by omega) hd) (by omega)
  · exact hd

/-- The first m rows of a power of x + 1. -/
def bin (n x : Nat) : Nat → Nat
  | 0 => 0
  | m + 1 => bin n x m + ch n m * x ^ m

theorem bin_step (n x : Nat) : ∀ m, bin (n + 1) x (m + 1) = bin n x (m + 1) + x * bin n x m := by
  intro m
  induction m with
  | zero => simp [bin, ch_zero]
  | succ m ih =>
    rw [bin, ih, ch_succ]
    conv => rhs; rw [bin]
    have e : x * bin n x (m + 1) = x * bin n x m + ch n m * x ^ (m + 1) := by
      rw [bin, Nat.mul_add, Nat.pow_succ]; grind
    rw [e, Nat.add_mul]
    omega

theorem bin_all (n x : Nat) : bin n x (n + 1) = (x + 1) ^ n := by
  induction n with
  | zero => simp [bin, ch_zero]
  | succ n ih =>
    rw [bin_step, bin, ch_big n (n + 1) (by omega), ih, Nat.pow_succ]
    grind

theorem Prime.bin_mid {p : Nat} (h : Prime p) (x : Nat) : ∀ m, m < p → bin p x (m + 1) % p = 1 % p := by
  intro m
  induction m with
  | zero => intro _; simp [bin, ch_zero]
  | succ m ih =>
    intro hm
    rw [bin, Nat.add_mod, ih (by omega)]
    have hd : p ∣ ch p (m + 1) * x ^ (m + 1) := Nat.dvd_trans (h.ch_dvd (by omega) hm) (Nat.dvd_mul_right _ _)
    rw [Nat.mod_eq_zero_of_dvd hd]
    simp

theorem Prime.dream {p : Nat} (h : Prime p) (x : Nat) : (x + 1) ^ p % p = (x ^ p + 1) % p := by
  obtain ⟨q, rfl⟩ : ∃ q, p = q + 1 := ⟨p - 1, by have := h.1; omega⟩
  rw [← bin_all, bin, Nat.add_mod, h.bin_mid x q (by omega), ch_self, Nat.one_mul, ← Nat.add_mod, Nat.add_comm]

theorem Prime.fermat' {p : Nat} (h : Prime p) (x : Nat) : x ^ p % p = x % p := by
  induction x with
  | zero => rw [Nat.zero_pow (by have := h.1; omega)]
  | succ x ih => rw [h.dream, Nat.add_mod, ih, ← Nat.add_mod]

/-- What is equal by p stays so without a factor that p does not divide. -/
theorem Prime.cancel {p : Nat} (h : Prime p) {c a b : Nat} (hc : ¬ p ∣ c) (e : c * a % p = c * b % p) : a % p = b % p := by
  have key : ∀ a b : Nat, a ≤ b → c * a % p = c * b % p → a % p = b % p := by
    intro a b hab e
    have hd : p ∣ c * (b - a) := by
      rw [Nat.mul_sub]
      exact Nat.dvd_of_mod_eq_zero (Nat.sub_mod_eq_zero_of_mod_eq e.symm)
    have hd2 : p ∣ b - a := (h.dvd_mul hd).resolve_left hc
    obtain ⟨t, ht⟩ := hd2
    rw [show b = a + p * t by omega, Nat.add_mul_mod_self_left]
  rcases Nat.le_total a b with hab | hab
  · exact key a b hab e
  · exact (key b a hab e.symm).symm

theorem Prime.fermat {p : Nat} (h : Prime p) {x : Nat} (hx : ¬ p ∣ x) : x ^ (p - 1) % p = 1 := by
  have e := h.fermat' x
  obtain ⟨q, rfl⟩ : ∃ q, p = q + 1 := ⟨p - 1, by have := h.1; omega⟩
  rw [Nat.pow_succ, Nat.mul_comm] at e
  have := h.cancel hx (a := x ^ q) (b := 1) (by rw [e, Nat.mul_one])
  simp only [Nat.add_sub_cancel]
  rw [this, Nat.mod_eq_of_lt (by have := h.1; omega)]

/-- What is squared to 1 by a prime number is 1 or the number below it. -/
theorem Prime.root_one {p : Nat} (h : Prime p) {y : Nat} (hy : y < p) (e : y * y % p = 1) : y = 1 ∨ y = p - 1 := by
  have hp := h.1
  have hd : p ∣ y * y - 1 := by
    apply Nat.dvd_of_mod_eq_zero
    apply Nat.sub_mod_eq_zero_of_mod_eq
    rw [e, Nat.mod_eq_of_lt (by omega)]
  have hy0 : 0 < y := by
    rcases Nat.eq_zero_or_pos y with rfl | h0
    · simp at e
    · exact h0
  have e2 : y * y - 1 = (y - 1) * (y + 1) := by
    obtain ⟨z, rfl⟩ : ∃ z, y = z + 1 := ⟨y - 1, by omega⟩
    simp only [Nat.add_sub_cancel]
    have : (z + 1) * (z + 1) = z * (z + 1 + 1) + 1 := by grind
    omega
  rw [e2] at hd
  rcases h.dvd_mul hd with h1 | h1
  · left
    rcases Nat.eq_zero_or_pos (y - 1) with h0 | h0
    · omega
    · have := Nat.le_of_dvd h0 h1; omega
  · right
    have := Nat.le_of_dvd (by omega) h1; omega

/-- Two whose squares leave the same are each other, or together the prime number. -/
theorem Prime.two_roots {p : Nat} (h : Prime p) {x y : Nat} (hx : x < p) (hy : y < p) (e : x * x % p = y * y % p) : x = y ∨ x + y = p ∨ (x = 0 ∧ y = 0) := by
  have key : ∀ x y : Nat, x ≤ y → x < p → y < p → x * x % p = y * y % p → x = y ∨ x + y = p ∨ (x = 0 ∧ y = 0) := by
    intro x y hxy hx hy e
    have hd : p ∣ y * y - x * x := Nat.dvd_of_mod_eq_zero (Nat.sub_mod_eq_zero_of_mod_eq e.symm)
    have e2 : y * y - x * x = (y - x) * (y + x) := by
      obtain ⟨z, rfl⟩ : ∃ z, y = x + z := ⟨y - x, by omega⟩
      have : (x + z) * (x + z) = (x + z - x) * (x + z + x) + x * x := by
        rw [Nat.add_sub_cancel_left]; grind
      omega
    rw [e2] at hd
    rcases h.dvd_mul hd with h1 | h1
    · rcases Nat.eq_zero_or_pos (y - x) with h0 | h0
      · left; omega
      · have := Nat.le_of_dvd h0 h1; omega
    · rcases Nat.eq_zero_or_pos (y + x) with h0 | h0
      · left; omega
      · obtain ⟨c, hc⟩ := h1
        have hc1 : c = 1 := by
          rcases Nat.lt_or_ge c 2 with h2 | h2
          · rcases (show c = 0 ∨ c = 1 by omega) with rfl | rfl
            · omega
            · rfl
          · have := Nat.mul_le_mul_left p h2; omega
        subst hc1
        right; left; omega
  rcases Nat.le_total x y with hxy | hxy
  · exact key x y hxy hx hy e
  · rcases key y x hxy hy hx e.symm with h | h | h
    · exact Or.inl h.symm
    · exact Or.inr (Or.inl (by omega))
    · exact Or.inl (by omega)

/-- A function that is told by a polynomial of degree d whose leading number is 1. -/
def IsPoly : Nat → (Int → Int) → Prop
  | 0, F => ∀ x, F x = 1
  | d + 1, F => ∀ r, ∃ Q, IsPoly d Q ∧ ∀ x, F x - F r = (x - r) * Q x

theorem isPoly_step : ∀ (d : Nat) (F : Int → Int) (c : Int), IsPoly d F → IsPoly (d + 1) (fun x => x * F x + c) := by
  intro d
  induction d with
  | zero =>
    intro F c h r
    refine ⟨fun _ => 1, fun _ => rfl, fun x => ?_⟩
    simp only [h x, h r]; grind
  | succ d ih =>
    intro F c h r
    obtain ⟨Q, hQ, e⟩ := h r
    refine ⟨fun x => x * Q x + F r, ih Q (F r) hQ, fun x => ?_⟩
    have e1 := e x
    have e2 : F x = F r + (x - r) * Q x := by omega
    simp only [e2]; grind

theorem isPoly_pow : ∀ (k : Nat), IsPoly k (fun x => x ^ k) := by
  intro k
  induction k with
  | zero => intro x; simp
  | succ k ih =>
    have h := isPoly_step k _ 0 ih
    have e : (fun x : Int => x * x ^ k + 0) = fun x => x ^ (k + 1) := by
      funext x; rw [Int.pow_succ, Int.mul_comm]; omega
    rwa [e] at h

theorem isPoly_pow_less (k : Nat) (c : Int) : IsPoly (k + 1) (fun x => x ^ (k + 1) + c) := by
  have h := isPoly_step k _ c (isPoly_pow k)
  have e : (fun x : Int => x * x ^ k + c) = fun x => x ^ (k + 1) + c := by
    funext x; rw [Int.pow_succ, Int.mul_comm]
  rwa [e] at h

theorem Prime.dvd_mul_int {p : Nat} (h : Prime p) {a b : Int} (hd : (p : Int) ∣ a * b) : (p : Int) ∣ a ∨ (p : Int) ∣ b := by
  have := Int.natAbs_dvd_natAbs.2 hd
  rw [Int.natAbs_mul, Int.natAbs_natCast] at this
  rcases h.dvd_mul this with h1 | h1
  · exact Or.inl (by rw [← Int.natAbs_dvd_natAbs, Int.natAbs_natCast]; exact h1)
  · exact Or.inr (by rw [← Int.natAbs_dvd_natAbs, Int.natAbs_natCast]; exact h1)

/-- It is not nought by p at more places in a row than its degree. -/
theorem Prime.few_roots {p : Nat} (h : Prime p) : ∀ (d : Nat) (F : Int → Int) (s : Int), d < p → IsPoly d F → ¬ ∀ i : Nat, i ≤ d → (p : Int) ∣ F (s + i) := by
  intro d
  induction d with
  | zero =>
    intro F s _ hF hall
    have h1 := hall 0 (Nat.le_refl _)
    rw [hF] at h1
    have := Int.le_of_dvd (by omega) h1
    have := h.1
    omega
  | succ d ih =>
    intro F s hd hF hall
    obtain ⟨Q, hQ, e⟩ := hF s
    refine ih Q (s + 1) (by omega) hQ (fun i hi => ?_)
    have h0 := hall 0 (by omega)
    rw [show s + ((0 : Nat) : Int) = s by omega] at h0
    have h1 := hall (i + 1) (by omega)
    have e1 := e (s + ((i + 1 : Nat) : Int))
    have hdv := Int.dvd_sub h1 h0
    rw [e1] at hdv
    rcases h.dvd_mul_int hdv with h2 | h2
    · have := Int.le_of_dvd (by omega) h2
      omega
    · rw [show s + 1 + (i : Int) = s + ((i + 1 : Nat) : Int) by omega]
      exact h2

/-- Some number from 1 to k + 1 is not 1 when raised to k. -/
theorem Prime.not_all_one {p : Nat} (h : Prime p) {k : Nat} (h0 : 0 < k) (h1 : k < p) : ∃ n : Nat, 1 ≤ n ∧ n ≤ k + 1 ∧ n ^ k % p ≠ 1 := by
  obtain ⟨j, rfl⟩ : ∃ j, k = j + 1 := ⟨k - 1, by omega⟩
  apply Classical.byContradiction
  intro hno
  refine h.few_roots (j + 1) _ 1 h1 (isPoly_pow_less j (-1)) (fun i hi => ?_)
  have hn : (i + 1) ^ (j + 1) % p = 1 := by
    apply Classical.byContradiction
    intro hne
    exact hno ⟨i + 1, by omega, by omega, hne⟩
  have e : ((1 : Int) + (i : Int)) ^ (j + 1) = (((i + 1) ^ (j + 1) : Nat) : Int) := by
    rw [Int.natCast_pow]; congr 1; omega
  show (p : Int) ∣ (1 + (i : Int)) ^ (j + 1) + -1
  rw [e]
  have := h.1
  have h3 : p ∣ (i + 1) ^ (j + 1) - 1 := by
    apply Nat.dvd_of_mod_eq_zero
    apply Nat.sub_mod_eq_zero_of_mod_eq
    rw [hn, Nat.mod_eq_of_lt (by omega)]
  have h4 : 1 ≤ (i + 1) ^ (j + 1) := Nat.pow_pos (by omega)
  have h5 : (((i + 1) ^ (j + 1) : Nat) : Int) + -1 = (((i + 1) ^ (j + 1) - 1 : Nat) : Int) := by omega
  rw [h5]
  exact Int.natCast_dvd_natCast.2 h3

/-- A power to half of p - 1 is 1 or p - 1. -/
theorem Prime.euler {p : Nat} (h : Prime p) (ho : p % 2 = 1) {x : Nat} (hx : ¬ p ∣ x) : x ^ ((p - 1) / 2) % p = 1 ∨ x ^ ((p - 1) / 2) % p = p - 1 := by
  have hp := h.1
  refine h.root_one (Nat.mod_lt _ (by omega)) ?_
  rw [← Nat.mul_mod, ← Nat.pow_add, show (p - 1) / 2 + (p - 1) / 2 = p - 1 by omega]
  exact h.fermat hx

/-- A square raised to half of p - 1 is 1. -/
theorem Prime.euler_square {p : Nat} (h : Prime p) (ho : p % 2 = 1) {x a : Nat} (ha : ¬ p ∣ a) (e : x * x % p = a % p) : a ^ ((p - 1) / 2) % p = 1 := by
  have hx : ¬ p ∣ x := by
    intro hd
    apply ha
    have : x * x % p = 0 := Nat.mod_eq_zero_of_dvd (Nat.dvd_trans hd (Nat.dvd_mul_right _ _))
    exact Nat.dvd_of_mod_eq_zero (by rw [← e, this])
  rw [Nat.pow_mod, ← e, ← Nat.pow_mod, ← Nat.pow_two, ← Nat.pow_mul, show 2 * ((p - 1) / 2) = p - 1 by omega]
  exact h.fermat hx

/-- What the rule of Tonelli and Shanks keeps: the square of r leaves a times x, x to the power 2^j leaves 1, u to that power leaves p - 1. -/
structure Tonelli (p a j r x u : Nat) : Prop where
  sq : r * r % p = a * x % p
  one : x ^ 2 ^ j % p = 1
  less : u ^ 2 ^ j % p = p - 1

theorem pow_mod_mul (b c p k : Nat) : (b * c % p) ^ k % p = b ^ k % p * (c ^ k % p) % p := by
  rw [← Nat.pow_mod, Nat.mul_pow, Nat.mul_mod]

theorem pow_two_step (u j : Nat) : u ^ 2 ^ (j + 1) = (u * u) ^ 2 ^ j := by
  rw [← Nat.pow_two, ← Nat.pow_mul, Nat.pow_succ, Nat.mul_comm]

theorem less_sq {p : Nat} (h : 2 ≤ p) : (p - 1) * (p - 1) % p = 1 := by
  obtain ⟨q, rfl⟩ : ∃ q, p = q + 2 := ⟨p - 2, by omega⟩
  rw [show q + 2 - 1 = q + 1 by omega, show (q + 1) * (q + 1) = 1 + (q + 2) * q by grind, Nat.add_mul_mod_self_left, Nat.mod_eq_of_lt (by omega)]

theorem Tonelli.keep {p a j r x u : Nat} (h : Tonelli p a (j + 1) r x u) (e : x ^ 2 ^ j % p = 1) : Tonelli p a j r x (u * u % p) :=
  ⟨h.sq, e, by rw [← Nat.pow_mod, ← pow_two_step]; exact h.less⟩

theorem Tonelli.turn {p a j r x u : Nat} (hp : Prime p) (h : Tonelli p a (j + 1) r x u) (e : x ^ 2 ^ j % p ≠ 1) : Tonelli p a j (r * u % p) (x * (u * u % p) % p) (u * u % p) := by
  have hp2 := hp.1
  have hl : (u * u % p) ^ 2 ^ j % p = p - 1 := by rw [← Nat.pow_mod, ← pow_two_step]; exact h.less
  have hx : x ^ 2 ^ j % p = p - 1 := by
    refine (hp.root_one (Nat.mod_lt _ (by omega)) ?_).resolve_left e
    rw [← Nat.mul_mod, ← Nat.mul_pow, ← pow_two_step]
    exact h.one
  refine ⟨?_, ?_, hl⟩
  · rw [← Nat.mul_mod, show r * u * (r * u) = r * r * (u * u) by grind, Nat.mul_mod, h.sq]
    rw [← Nat.mul_mod, Nat.mul_mod_mod a, ← Nat.mul_assoc a x (u * u % p), Nat.mul_mod_mod (a * x)]
  · rw [pow_mod_mul, hx, hl]
    exact less_sq hp2

/-- At the end the square of r leaves a. -/
theorem Tonelli.done {p a r x u : Nat} (hp : Prime p) (h : Tonelli p a 0 r x u) : r * r % p = a % p := by
  have e : x % p = 1 := by have := h.one; simpa using this
  rw [h.sq, Nat.mul_mod, e, Nat.mul_one, Nat.mod_mod]
end

section
set_option linter.unusedVariables false
open Go.RowKit

/-- A call's answer is whether n is a prime number in 2 .. 2^40. -/
def GivesPrime (n : Int) (r : Ending) : Prop := ∃ ok : Bool, r = .returned (.bool ok) ∧ (ok = true ↔ 2 ≤ n ∧ n ≤ 1099511627776 ∧ Prime n.toNat)

theorem sq_le {D N : Nat} (h : D * D ≤ N) (hN : N ≤ 1099511627776) : D ≤ 1048576 := by
  rcases Nat.lt_or_ge 1048576 D with h1 | h1
  · have := Nat.mul_le_mul (show 1048577 ≤ D by omega) (show 1048577 ≤ D by omega)
    omega
  · exact h1

theorem sq_int {D : Nat} (h : D ≤ 1048579) : 0 ≤ (D : Int) * (D : Int) ∧ (D : Int) * (D : Int) ≤ 2199023255552 := by
  have := Nat.mul_le_mul h h
  rw [← Int.natCast_mul]
  omega

theorem prime_end {N D : Nat} (h2 : 2 ≤ N) (hno : ∀ c, 2 ≤ c → c < D → ¬ c ∣ N) (h : ¬ D * D ≤ N) : Prime N := by
  refine ⟨h2, fun d hd hdd => hno d hd ?_⟩
  rcases Nat.lt_or_ge d D with h1 | h1
  · exact h1
  · exact absurd (Nat.le_trans (Nat.mul_le_mul h1 h1) hdd) h

theorem not_prime {N D : Nat} (h2 : 2 ≤ D) (h : D * D ≤ N) (hd : N % D = 0) : ¬ Prime N := fun hp => hp.2 D h2 h (Nat.dvd_of_mod_eq_zero hd)

set_option maxHeartbeats 800000 in
theorem specPrimeInt_any (n : Int) (w : World) (h1 : n ≤ 9223372036854775807) :
    Calls Tryz.prog 117 #[.int .i64 n] w fun r w' => GivesPrime n r ∧ w' = w := by
  by_cases c : 2 ≤ n ∧ n ≤ 1099511627776
  · obtain ⟨N, rfl⟩ := Int.eq_ofNat_of_zero_le (show 0 ≤ n by omega)
    have hin : (decide ((2 : Int) ≤ (N : Int)) && decide ((N : Int) ≤ 1099511627776)) = true := by simp; omega
    obtain ⟨c1, c2⟩ := c
    have hN2 : 2 ≤ N := by omega
    have hNm : N ≤ 1099511627776 := by omega
    have Hy : Hid (∀ ok : Bool, (ok = true ↔ Prime N) → GivesPrime (N : Int) (.returned (.bool ok))) := fun ok h => ⟨ok, rfl, by
      rw [h, Int.toNat_natCast]
      exact ⟨fun hp => ⟨by omega, by omega, hp⟩, fun h => h.2.2⟩⟩
    go_enter Tryz.func117, Tryz.ntmps117
    go_wp2_with fail
    refine (l1In_int _ 2 1099511627776 _).mono ?_
    rintro r w' ⟨rfl, hw⟩
    obtain rfl := hw.symm
    rw [hin]
    clear hin
    go_wp2
    go_loop [3] (fun d => ∃ D : Nat, d = .int .i64 D ∧ 2 ≤ D ∧ D ≤ 1048577 ∧ ∀ c, 2 ≤ c → c < D → ¬ c ∣ N) (fun d => N + 3 - (intOf d).toNat)
    case atStart => exact ⟨2, rfl, by omega, by omega, fun c h1 h2 => by omega⟩
    case round =>
      obtain ⟨D, rfl, hD2, hDm, hno⟩ := hrel
      have Hno := hide hno
      clear hno
      obtain ⟨q0, q1⟩ := sq_int (show D ≤ 1048579 by omega)
      have hDp : 0 < (D : Int) := by omega
      by_cases hle : D * D ≤ N
      · have hle' : (D : Int) * (D : Int) ≤ (N : Int) := by rw [← Int.natCast_mul]; omega
        have hs := sq_le hle hNm
        have hDN : D ≤ N := Nat.le_trans (Nat.le_mul_of_pos_left D (by omega)) hle
        have Hle := hide hle
        have hmod : (N : Int) % (D : Int) = ((N % D : Nat) : Int) := by omega
        clear hle
        by_cases hdv : N % D = 0
        · have Hnp := hide (not_prime hD2 Hle.out hdv)
          have hz : (((N % D : Nat) : Int) == 0) = true := by rw [hdv]; rfl
          generalize N % D = T at *
          clear hdv
          go_wp2
          go_ret
          exact ⟨Hy.out false ⟨fun h => by simp at h, fun hp => absurd hp Hnp.out⟩, rfl⟩
        · have hz : (((N % D : Nat) : Int) == 0) = false := by simp; omega
          have Hn : Hid (∀ c, 2 ≤ c → c < D + 1 → ¬ c ∣ N) := fun c h1 h2 => by
            rcases Nat.lt_or_ge c D with h3 | h3
            · exact Hno.out c h1 h3
            · obtain rfl : c = D := by omega
              exact fun hd => hdv (Nat.mod_eq_zero_of_dvd hd)
          generalize N % D = T at *
          clear hdv
          go_wp2
          go_round
          case rel => exact ⟨D + 1, by go_num, by omega, by omega, Hn.out⟩
          case measure => simp [intOf]; omega
      · have hle' : ¬ (D : Int) * (D : Int) ≤ (N : Int) := by rw [← Int.natCast_mul]; omega
        have Hp := hide (prime_end hN2 Hno.out hle)
        clear hle
        go_wp2
        go_ret
        exact ⟨Hy.out true ⟨fun _ => Hp.out, fun _ => rfl⟩, rfl⟩
  · have Hno : Hid (GivesPrime n (.returned (.bool false))) := ⟨false, rfl, ⟨fun h => by simp at h, fun h => absurd ⟨h.1, h.2.1⟩ c⟩⟩
    have hin : (decide ((2 : Int) ≤ n) && decide (n ≤ 1099511627776)) = false := by simp; omega
    clear c
    go_enter Tryz.func117, Tryz.ntmps117
    go_wp2_with fail
    refine (l1In_int _ 2 1099511627776 _).mono ?_
    rintro r w' ⟨rfl, hw⟩
    obtain rfl := hw.symm
    rw [hin]
    clear hin
    go_wp2
    go_ret
    exact ⟨Hno.out, rfl⟩

set_option maxHeartbeats 800000 in
theorem implPrimeInt_any (n : Int) (w : World) (h1 : n ≤ 9223372036854775807) :
    Calls Tryz.prog 182 #[.int .i64 n] w fun r w' => GivesPrime n r ∧ w' = w := by
  by_cases c : 2 ≤ n ∧ n ≤ 1099511627776
  · obtain ⟨N, rfl⟩ := Int.eq_ofNat_of_zero_le (show 0 ≤ n by omega)
    obtain ⟨c1, c2⟩ := c
    have hN2 : 2 ≤ N := by omega
    have hNm : N ≤ 1099511627776 := by omega
    have Hy : Hid (∀ ok : Bool, (ok = true ↔ Prime N) → GivesPrime (N : Int) (.returned (.bool ok))) := fun ok h => ⟨ok, rfl, by
      rw [h, Int.toNat_natCast]
      exact ⟨fun hp => ⟨by omega, by omega, hp⟩, fun h => h.2.2⟩⟩
    by_cases hev : N % 2 = 0
    · have hz : ((N : Int) % 2 == 0) = true := by simp; omega
      by_cases h2 : N = 2
      · subst h2
        have Hp : Hid (Prime 2) := prime_end (D := 2) (by omega) (fun c h1 h2 => by omega) (by omega)
        go_enter Tryz.func182, Tryz.ntmps182
        go_wp2
        go_ret
        exact ⟨Hy.out true ⟨fun _ => Hp.out, fun _ => rfl⟩, rfl⟩
      · have h2' : ((N : Int) == 2) = false := by simp; omega
        have Hp : Hid (¬ Prime N) := by
          by_cases h4 : 4 ≤ N
          · exact not_prime (D := 2) (by omega) (by omega) hev
          · omega
        go_enter Tryz.func182, Tryz.ntmps182
        go_wp2
        go_ret
        exact ⟨Hy.out false ⟨fun h => by simp at h, fun hp => absurd hp Hp.out⟩, rfl⟩
    · have hz : ((N : Int) % 2 == 0) = false := by simp; omega
      go_enter Tryz.func182, Tryz.ntmps182
      go_wp2
      clear hz
      go_loop [3] (fun d => ∃ D : Nat, d = .int .i64 D ∧ 3 ≤ D ∧ D % 2 = 1 ∧ D ≤ 1048578 ∧ ∀ c, 2 ≤ c → c < D → ¬ c ∣ N) (fun d => N + 3 - (intOf d).toNat)
      case atStart =>
        refine ⟨3, rfl, by omega, by omega, by omega, fun c h1 h2 => ?_⟩
        obtain rfl : c = 2 := by omega
        exact fun hd => hev (Nat.mod_eq_zero_of_dvd hd)
      case round =>
        obtain ⟨D, rfl, hD2, hodd, hDm, hno⟩ := hrel
        have Hno := hide hno
        clear hno
        obtain ⟨q0, q1⟩ := sq_int (show D ≤ 1048579 by omega)
        have hDp : 0 < (D : Int) := by omega
        by_cases hle : D * D ≤ N
        · have hle' : (D : Int) * (D : Int) ≤ (N : Int) := by rw [← Int.natCast_mul]; omega
          have hs := sq_le hle hNm
          have hDN : D ≤ N := Nat.le_trans (Nat.le_mul_of_pos_left D (by omega)) hle
          have Hle := hide hle
          have hmod : (N : Int) % (D : Int) = ((N % D : Nat) : Int) := by omega
          clear hle
          by_cases hdv : N % D = 0
          · have hz : (((N % D : Nat) : Int) == 0) = true := by rw [hdv]; rfl
            have Hnp := hide (not_prime (show 2 ≤ D by omega) Hle.out hdv)
            generalize N % D = T at *
            clear hdv
            go_wp2
            go_ret
            exact ⟨Hy.out false ⟨fun h => by simp at h, fun hp => absurd hp Hnp.out⟩, rfl⟩
          · have hz : (((N % D : Nat) : Int) == 0) = false := by simp; omega
            have Hn : Hid (∀ c, 2 ≤ c → c < D + 2 → ¬ c ∣ N) := fun c h1 h2 => by
              rcases Nat.lt_or_ge c D with h3 | h3
              · exact Hno.out c h1 h3
              · rcases (show c = D ∨ c = D + 1 by omega) with rfl | rfl
                · exact fun hd => hdv (Nat.mod_eq_zero_of_dvd hd)
                · exact fun hd => hev (Nat.mod_eq_zero_of_dvd (Nat.dvd_trans (Nat.dvd_of_mod_eq_zero (by omega)) hd))
            generalize N % D = T at *
            clear hdv
            go_wp2
            go_round
            case rel => exact ⟨D + 2, by go_num, by omega, by omega, by omega, Hn.out⟩
            case measure => simp [intOf]; omega
        · have hle' : ¬ (D : Int) * (D : Int) ≤ (N : Int) := by rw [← Int.natCast_mul]; omega
          have Hp := hide (prime_end hN2 Hno.out hle)
          clear hle
          go_wp2
          go_ret
          exact ⟨Hy.out true ⟨fun _ => Hp.out, fun _ => rfl⟩, rfl⟩
  · have Hno : Hid (GivesPrime n (.returned (.bool false))) := ⟨false, rfl, ⟨fun h => by simp at h, fun h => absurd ⟨h.1, h.2.1⟩ c⟩⟩
    by_cases c1 : n < 2
    · clear c
      go_enter Tryz.func182, Tryz.ntmps182
      go_wp2
      go_ret
      exact ⟨Hno.out, rfl⟩
    · have c2 : 1099511627776 < n := by omega
      clear c
      go_enter Tryz.func182, Tryz.ntmps182
      go_wp2
      go_ret
      exact ⟨Hno.out, rfl⟩

theorem GivesPrime.unique {n : Int} {a b : Bool} (h : GivesPrime n (.returned (.bool a))) (h' : GivesPrime n (.returned (.bool b))) : a = b := by
  obtain ⟨x, hx, hx2⟩ := h
  obtain ⟨y, hy, hy2⟩ := h'
  have e1 : a = x := by injection hx with h; injection h
  have e2 : b = y := by injection hy with h; injection h
  subst e1 e2
  rw [Bool.eq_iff_iff, hx2, hy2]
end

section
set_option linter.unusedVariables false

theorem comb1 {p H E : Int} (h : p ∣ H) (c : Int) (e : E = c * H) : p ∣ E := by
  rw [e]; exact Int.dvd_mul_of_dvd_right h

theorem comb2 {p H1 H2 E : Int} (h1 : p ∣ H1) (h2 : p ∣ H2) (c1 c2 : Int) (e : E = c1 * H1 + c2 * H2) : p ∣ E := by
  rw [e]; exact Int.dvd_add (Int.dvd_mul_of_dvd_right h1) (Int.dvd_mul_of_dvd_right h2)

theorem comb3 {p H1 H2 H3 E : Int} (h1 : p ∣ H1) (h2 : p ∣ H2) (h3 : p ∣ H3) (c1 c2 c3 : Int) (e : E = c1 * H1 + c2 * H2 + c3 * H3) : p ∣ E := by
  rw [e]; exact Int.dvd_add (comb2 h1 h2 c1 c2 rfl) (Int.dvd_mul_of_dvd_right h3)

theorem comb4 {p H1 H2 H3 H4 E : Int} (h1 : p ∣ H1) (h2 : p ∣ H2) (h3 : p ∣ H3) (h4 : p ∣ H4) (c1 c2 c3 c4 : Int) (e : E = c1 * H1 + c2 * H2 + c3 * H3 + c4 * H4) : p ∣ E := by
  rw [e]; exact Int.dvd_add (comb3 h1 h2 h3 c1 c2 c3 rfl) (Int.dvd_mul_of_dvd_right h4)

theorem comb5 {p H1 H2 H3 H4 H5 E : Int} (h1 : p ∣ H1) (h2 : p ∣ H2) (h3 : p ∣ H3) (h4 : p ∣ H4) (h5 : p ∣ H5) (c1 c2 c3 c4 c5 : Int) (e : E = c1 * H1 + c2 * H2 + c3 * H3 + c4 * H4 + c5 * H5) : p ∣ E := by
  rw [e]; exact Int.dvd_add (comb4 h1 h2 h3 h4 c1 c2 c3 c4 rfl) (Int.dvd_mul_of_dvd_right h5)

theorem comb6 {p H1 H2 H3 H4 H5 H6 E : Int} (h1 : p ∣ H1) (h2 : p ∣ H2) (h3 : p ∣ H3) (h4 : p ∣ H4) (h5 : p ∣ H5) (h6 : p ∣ H6) (c1 c2 c3 c4 c5 c6 : Int) (e : E = c1 * H1 + c2 * H2 + c3 * H3 + c4 * H4 + c5 * H5 + c6 * H6) : p ∣ E := by
  rw [e]; exact Int.dvd_add (comb5 h1 h2 h3 h4 h5 c1 c2 c3 c4 c5 rfl) (Int.dvd_mul_of_dvd_right h6)

theorem mod_dvd (p x : Int) : p ∣ x % p - x := by
  have := Int.emod_add_mul_ediv x p
  exact ⟨-(x / p), by rw [Int.mul_neg]; omega⟩

theorem mod_eq {p x y : Int} (h : p ∣ x - y) : x % p = y % p :=
  Int.emod_eq_emod_iff_emod_sub_eq_zero.2 (Int.emod_eq_zero_of_dvd h)

theorem eq_of_dvd {p x y : Int} (hx0 : 0 ≤ x) (hx : x < p) (hy0 : 0 ≤ y) (hy : y < p) (h : p ∣ x - y) : x = y := by
  have := mod_eq h
  rwa [Int.emod_eq_of_lt hx0 hx, Int.emod_eq_of_lt hy0 hy] at this

/-- The inverse by a prime number, 0 where there is none. -/
def iv (p : Nat) (a : Int) : Int := (((a % p).toNat ^ (p - 2) % p : Nat) : Int)

theorem iv_range {p : Nat} (h : 0 < p) (a : Int) : 0 ≤ iv p a ∧ iv p a < p := by
  have := Nat.mod_lt ((a % p).toNat ^ (p - 2)) h
  unfold iv
  omega

theorem iv_spec {p : Nat} (hp : Prime p) {a : Int} (ha : ¬ (p : Int) ∣ a) : (p : Int) ∣ a * iv p a - 1 := by
  have h2 := hp.1
  have r0 := Int.emod_nonneg a (show (p : Int) ≠ 0 by omega)
  have hz : ((a % p).toNat : Int) = a % p := by omega
  have hn : ¬ p ∣ (a % p).toNat := by
    intro hd
    apply ha
    have h1 : (p : Int) ∣ a % p := by rw [← hz]; exact Int.ofNat_dvd.2 hd
    have h3 := Int.dvd_sub h1 (mod_dvd (p : Int) a)
    rwa [show a % (p : Int) - (a % p - a) = a by omega] at h3
  have hf := hp.fermat hn
  have e1 : (p : Int) ∣ iv p a - (((a % p).toNat ^ (p - 2) : Nat) : Int) := by
    unfold iv; rw [Int.natCast_emod]; exact mod_dvd _ _
  have e2 : (p : Int) ∣ (((a % p).toNat ^ (p - 1) : Nat) : Int) - 1 := by
    have := mod_dvd (p : Int) (((a % p).toNat ^ (p - 1) : Nat) : Int)
    rw [← Int.natCast_emod, hf] at this
    have h3 := Int.dvd_neg.2 this
    rwa [show -(((1 : Nat) : Int) - (((a % p).toNat ^ (p - 1) : Nat) : Int)) = (((a % p).toNat ^ (p - 1) : Nat) : Int) - 1 by omega] at h3
  have e3 : (((a % p).toNat ^ (p - 1) : Nat) : Int) = (a % p) * (((a % p).toNat ^ (p - 2) : Nat) : Int) := by
    rw [show p - 1 = (p - 2) + 1 by omega, Nat.pow_succ, Int.natCast_mul, hz, Int.mul_comm]
  rw [e3] at e2
  have e4 := mod_dvd (p : Int) a
  generalize (((a % p).toNat ^ (p - 2) : Nat) : Int) = z at *
  generalize iv p a = v at *
  generalize a % (p : Int) = r at *
  exact comb3 e1 e2 e4 a 1 (-z) (by grind)

theorem iv_zero {p : Nat} (h3 : 3 ≤ p) {a : Int} (ha : (p : Int) ∣ a) : iv p a = 0 := by
  unfold iv
  rw [Int.emod_eq_zero_of_dvd ha]
  simp only [Int.toNat_zero]
  rw [Nat.zero_pow (by omega)]
  simp

/-- A point: two numbers, or the far one. -/
structure Pt where
  x : Int
  y : Int
  far : Bool

def farP : Pt := ⟨0, 0, true⟩

theorem Pt.ext' {a b : Pt} (hx : a.x = b.x) (hy : a.y = b.y) (hf : a.far = b.far) : a = b := by
  cases a; cases b; simp only at hx hy hf; subst hx hy hf; rfl

/-- Two numbers of the curve. -/
structure Aff (p : Nat) (A B x y : Int) : Prop where
  x0 : 0 ≤ x
  x1 : x < p
  y0 : 0 ≤ y
  y1 : y < p
  on : (p : Int) ∣ y * y - (x * x * x + A * x + B)

/-- A point of the curve. -/
def On (p : Nat) (A B : Int) (a : Pt) : Prop := (a.far = true ∧ a.x = 0 ∧ a.y = 0) ∨ (a.far = false ∧ Aff p A B a.x a.y)

theorem On.far_eq {p : Nat} {A B : Int} {a : Pt} (h : On p A B a) (hf : a.far = true) : a = farP := by
  rcases h with ⟨_, hx, hy⟩ | ⟨h, _⟩
  · exact Pt.ext' hx hy hf
  · rw [hf] at h; simp at h

theorem On.aff {p : Nat} {A B : Int} {a : Pt} (h : On p A B a) (hf : a.far = false) : Aff p A B a.x a.y := by
  rcases h with ⟨h, _⟩ | ⟨_, h⟩
  · rw [hf] at h; simp at h
  · exact h

theorem on_far (p : Nat) (A B : Int) : On p A B farP := Or.inl ⟨rfl, rfl, rfl⟩

/-- The curve is as wanted. -/
structure Cv (p : Nat) (A B : Int) : Prop where
  prime : Prime p
  five : 5 ≤ p
  disc : ¬ (p : Int) ∣ 4 * (A * A * A) + 27 * (B * B)

/-- The number by which the sum is told. -/
def slopeF (p : Nat) (A : Int) (a b : Pt) : Int :=
  (if a.x = b.x then (3 * a.x * a.x + A) * iv p (2 * a.y) else (b.y - a.y) * iv p (b.x - a.x)) % p

/-- The third point. -/
def third (p : Nat) (x1 y1 x2 l : Int) : Pt := ⟨(l * l - x1 - x2) % p, (l * (x1 - (l * l - x1 - x2) % p) - y1) % p, false⟩

/-- The sum. -/
def addF (p : Nat) (A : Int) (a b : Pt) : Pt :=
  if a.far = true then b else if b.far = true then a else if a.x = b.x ∧ (a.y + b.y) % p = 0 then farP else third p a.x a.y b.x (slopeF p A a b)

/-- A number as slope of two points. -/
structure Slope (p : Nat) (A x1 y1 x2 y2 l : Int) : Prop where
  s1 : (p : Int) ∣ (y1 - y2) - l * (x1 - x2)
  s2 : (p : Int) ∣ (y1 + y2) * l - (x1 * x1 + x1 * x2 + x2 * x2 + A)

/-- Two points are each other's other side. -/
def Opp (p : Nat) (x1 y1 x2 y2 : Int) : Prop := x1 = x2 ∧ (p : Int) ∣ y1 + y2

theorem third_x (p : Nat) (x1 y1 x2 l : Int) : (p : Int) ∣ (third p x1 y1 x2 l).x - (l * l - x1 - x2) := mod_dvd _ _
theorem third_y (p : Nat) (x1 y1 x2 l : Int) : (p : Int) ∣ (third p x1 y1 x2 l).y - (l * (x1 - (third p x1 y1 x2 l).x) - y1) := mod_dvd _ _

theorem third_congr {p : Nat} {x1 y1 x2 y2 l x1' y1' x2' l' : Int} (hx : (p : Int) ∣ (l * l - x1 - x2) - (l' * l' - x1' - x2')) (hy : (p : Int) ∣ (l * (x1 - (third p x1 y1 x2 l).x) - y1) - (l' * (x1' - (third p x1 y1 x2 l).x) - y1')) : third p x1 y1 x2 l = third p x1' y1' x2' l' := by
  have ex : (third p x1 y1 x2 l).x = (third p x1' y1' x2' l').x := mod_eq hx
  refine Pt.ext' ex ?_ rfl
  have : (third p x1 y1 x2 l).y = (l' * (x1' - (third p x1 y1 x2 l).x) - y1') % p := mod_eq hy
  rw [this, ex]
  rfl

section
variable {p : Nat} {A B : Int}

theorem Cv.pos (h : Cv p A B) : (0 : Int) < p := by have := h.five; omega

theorem Cv.two (h : Cv p A B) {y : Int} (hd : (p : Int) ∣ 2 * y) : (p : Int) ∣ y := by
  rcases h.prime.dvd_mul_int hd with h1 | h1
  · have := Int.le_of_dvd (by omega) h1
    have := h.five
    omega
  · exact h1

theorem Aff.not_dvd_sub (h5 : 0 < p) {x1 x2 : Int} (a0 : 0 ≤ x1) (a1 : x1 < p) (b0 : 0 ≤ x2) (b1 : x2 < p) (hne : x1 ≠ x2) : ¬ (p : Int) ∣ x1 - x2 := fun hd => hne (eq_of_dvd a0 a1 b0 b1 hd)

/-- Two with one x are the same, or each other's other side. -/
theorem same_or_opp (hp : Prime p) {x y1 y2 : Int} (h1 : Aff p A B x y1) (h2 : Aff p A B x y2) : y1 = y2 ∨ (p : Int) ∣ y1 + y2 := by
  have hd : (p : Int) ∣ (y1 - y2) * (y1 + y2) := comb2 h1.on h2.on 1 (-1) (by grind)
  rcases hp.dvd_mul_int hd with h | h
  · exact Or.inl (eq_of_dvd h1.y0 h1.y1 h2.y0 h2.y1 h)
  · exact Or.inr h

/-- The slope that is reckoned is one. -/
theorem slope_ok (h : Cv p A B) {a b : Pt} (ha : Aff p A B a.x a.y) (hb : Aff p A B b.x b.y) (hno : ¬ Opp p a.x a.y b.x b.y) : Slope p A a.x a.y b.x b.y (slopeF p A a b) := by
  obtain ⟨x1, y1, f1⟩ := a
  obtain ⟨x2, y2, f2⟩ := b
  simp only at ha hb hno ⊢
  unfold slopeF
  simp only
  by_cases hx : x1 = x2
  · subst hx
    rw [if_pos rfl]
    have hy : y1 = y2 := by
      rcases same_or_opp h.prime ha hb with e | e
      · exact e
      · exact absurd ⟨rfl, e⟩ hno
    subst hy
    have hn : ¬ (p : Int) ∣ 2 * y1 := fun hd => hno ⟨rfl, by rwa [show y1 + y1 = 2 * y1 by omega]⟩
    have hi := iv_spec h.prime hn
    generalize iv p (2 * y1) = i at *
    have hm := mod_dvd (p : Int) ((3 * x1 * x1 + A) * i)
    generalize (3 * x1 * x1 + A) * i % (p : Int) = l at *
    refine ⟨⟨0, by grind⟩, comb2 hi hm (3 * x1 * x1 + A) (2 * y1) (by grind)⟩
  · rw [if_neg hx]
    have hn : ¬ (p : Int) ∣ x2 - x1 := Aff.not_dvd_sub (by have := h.five; omega) hb.x0 hb.x1 ha.x0 ha.x1 (Ne.symm hx)
    have hi := iv_spec h.prime hn
    generalize iv p (x2 - x1) = i at *
    have hm := mod_dvd (p : Int) ((y2 - y1) * i)
    generalize (y2 - y1) * i % (p : Int) = l at *
    have s1 : (p : Int) ∣ (y1 - y2) - l * (x1 - x2) := comb2 hi hm (y2 - y1) (x2 - x1) (by grind)
    refine ⟨s1, ?_⟩
    have hd : (p : Int) ∣ ((y1 + y2) * l - (x1 * x1 + x1 * x2 + x2 * x2 + A)) * (x2 - x1) := comb3 s1 ha.on hb.on (y1 + y2) (-1) 1 (by grind)
    exact (h.prime.dvd_mul_int hd).resolve_right hn

/-- There is but one slope. -/
theorem slope_one (h : Cv p A B) {x1 y1 x2 y2 l l' : Int} (ha : Aff p A B x1 y1) (hb : Aff p A B x2 y2) (hno : ¬ Opp p x1 y1 x2 y2) (hs : Slope p A x1 y1 x2 y2 l) (hs' : Slope p A x1 y1 x2 y2 l') : (p : Int) ∣ l - l' := by
  by_cases hx : x1 = x2
  · subst hx
    have hd : (p : Int) ∣ (y1 + y2) * (l - l') := comb2 hs.s2 hs'.s2 1 (-1) (by grind)
    exact (h.prime.dvd_mul_int hd).resolve_left fun e => hno ⟨rfl, e⟩
  · have hn : ¬ (p : Int) ∣ x1 - x2 := Aff.not_dvd_sub (by have := h.five; omega) ha.x0 ha.x1 hb.x0 hb.x1 hx
    have hd : (p : Int) ∣ (x1 - x2) * (l - l') := comb2 hs.s1 hs'.s1 (-1) 1 (by grind)
    exact (h.prime.dvd_mul_int hd).resolve_left hn

/-- The third point is of the curve. -/
theorem third_on (h5 : 0 < p) {x1 y1 x2 y2 l : Int} (ha : Aff p A B x1 y1) (hs : Slope p A x1 y1 x2 y2 l) : Aff p A B (third p x1 y1 x2 l).x (third p x1 y1 x2 l).y := by
  have hx := third_x p x1 y1 x2 l
  have hy := third_y p x1 y1 x2 l
  refine ⟨Int.emod_nonneg _ (by omega), Int.emod_lt_of_pos _ (by omega), Int.emod_nonneg _ (by omega), Int.emod_lt_of_pos _ (by omega), ?_⟩
  generalize (third p x1 y1 x2 l).x = x3 at *
  generalize (third p x1 y1 x2 l).y = y3 at *
  exact comb5 hy ha.on hs.s2 hs.s1 hx (l * x1 - l * x3 - y1 + y3) 1 (-x1 + x3) (-l * (x1 - x3)) (-(x1 - x3) * (x2 - x3)) (by grind)

theorem opp_mod {a b : Pt} : (a.x = b.x ∧ (a.y + b.y) % p = 0) ↔ Opp p a.x a.y b.x b.y :=
  ⟨fun h => ⟨h.1, Int.dvd_of_emod_eq_zero h.2⟩, fun h => ⟨h.1, Int.emod_eq_zero_of_dvd h.2⟩⟩

theorem addF_far_left (b : Pt) : addF p A farP b = b := rfl

theorem addF_far_right {a : Pt} (h : On p A B a) : addF p A a farP = a := by
  unfold addF
  by_cases hf : a.far = true
  · rw [if_pos hf, h.far_eq hf]
  · rw [if_neg hf]; exact if_pos rfl

theorem addF_opp {a b : Pt} (ha : a.far = false) (hb : b.far = false) (h : Opp p a.x a.y b.x b.y) : addF p A a b = farP := by
  unfold addF
  rw [if_neg (by rw [ha]; simp), if_neg (by rw [hb]; simp), if_pos (opp_mod.2 h)]

theorem addF_third (h : Cv p A B) {a b : Pt} (fa : a.far = false) (fb : b.far = false) (ha : Aff p A B a.x a.y) (hb : Aff p A B b.x b.y) (hno : ¬ Opp p a.x a.y b.x b.y) {l : Int} (hs : Slope p A a.x a.y b.x b.y l) : addF p A a b = third p a.x a.y b.x l := by
  have e : addF p A a b = third p a.x a.y b.x (slopeF p A a b) := by
    unfold addF
    rw [if_neg (by rw [fa]; simp), if_neg (by rw [fb]; simp), if_neg (fun k => hno (opp_mod.1 k))]
  rw [e]
  have hl := slope_one h ha hb hno (slope_ok h ha hb hno) hs
  generalize slopeF p A a b = l' at *
  refine third_congr (y2 := 0) (comb1 hl (l' + l) (by grind)) ?_
  generalize (third p a.x a.y b.x l').x = z at *
  exact comb1 hl (a.x - z) (by grind)

/-- Sums stay on the curve. -/
theorem addF_on (h : Cv p A B) {a b : Pt} (ha : On p A B a) (hb : On p A B b) : On p A B (addF p A a b) := by
  by_cases fa : a.far = true
  · rw [ha.far_eq fa]; exact hb
  · have fa' : a.far = false := by simpa using fa
    by_cases fb : b.far = true
    · rw [hb.far_eq fb, addF_far_right ha]; exact ha
    · have fb' : b.far = false := by simpa using fb
      by_cases ho : Opp p a.x a.y b.x b.y
      · rw [addF_opp fa' fb' ho]; exact on_far _ _ _
      · have hs := slope_ok h (ha.aff fa') (hb.aff fb') ho
        rw [addF_third h fa' fb' (ha.aff fa') (hb.aff fb') ho hs]
        exact Or.inr ⟨rfl, third_on (by have := h.five; omega) (ha.aff fa') hs⟩

end
end

section
set_option linter.unusedVariables false

section
variable {p : Nat} {A B : Int}

theorem Slope.swap {x1 y1 x2 y2 l : Int} (h : Slope p A x1 y1 x2 y2 l) : Slope p A x2 y2 x1 y1 l :=
  ⟨comb1 h.s1 (-1) (by grind), comb1 h.s2 1 (by grind)⟩

theorem Opp.swap {x1 y1 x2 y2 : Int} (h : Opp p x1 y1 x2 y2) : Opp p x2 y2 x1 y1 := ⟨h.1.symm, by rw [Int.add_comm]; exact h.2⟩

/-- Sums may be turned about. -/
theorem addF_comm (h : Cv p A B) {a b : Pt} (ha : On p A B a) (hb : On p A B b) : addF p A a b = addF p A b a := by
  by_cases fa : a.far = true
  · rw [ha.far_eq fa, addF_far_right hb]; rfl
  · have fa' : a.far = false := by simpa using fa
    by_cases fb : b.far = true
    · rw [hb.far_eq fb, addF_far_right ha]; rfl
    · have fb' : b.far = false := by simpa using fb
      by_cases ho : Opp p a.x a.y b.x b.y
      · rw [addF_opp fa' fb' ho, addF_opp fb' fa' ho.swap]
      · have hs := slope_ok h (ha.aff fa') (hb.aff fb') ho
        rw [addF_third h fa' fb' (ha.aff fa') (hb.aff fb') ho hs, addF_third h fb' fa' (hb.aff fb') (ha.aff fa') (fun k => ho k.swap) hs.swap]
        have s1 := hs.s1
        generalize slopeF p A a b = l at *
        refine third_congr (y2 := 0) ⟨0, by grind⟩ ?_
        generalize (third p a.x a.y b.x l).x = z at *
        exact comb1 s1 (-1) (by grind)

/-- The other side. -/
def negF (p : Nat) (a : Pt) : Pt := if a.far = true then a else ⟨a.x, (-a.y) % p, false⟩

theorem neg_dvd (p : Nat) (y : Int) : (p : Int) ∣ (-y) % p + y := by
  have := mod_dvd (p : Int) (-y)
  rwa [show (-y) % (p : Int) - -y = (-y) % p + y by omega] at this

theorem negF_far : negF p farP = farP := rfl

theorem negF_fin {a : Pt} (f : a.far = false) : negF p a = ⟨a.x, (-a.y) % p, false⟩ := by
  unfold negF
  rw [if_neg (by rw [f]; simp)]

theorem neg_aff (h5 : 0 < p) {x y : Int} (h : Aff p A B x y) : Aff p A B x ((-y) % p) := by
  refine ⟨h.x0, h.x1, Int.emod_nonneg _ (by omega), Int.emod_lt_of_pos _ (by omega), ?_⟩
  have hd := neg_dvd p y
  generalize (-y) % (p : Int) = z at *
  exact comb2 h.on hd 1 (z - y) (by grind)

theorem negF_on (h5 : 0 < p) {a : Pt} (h : On p A B a) : On p A B (negF p a) := by
  by_cases f : a.far = true
  · rw [h.far_eq f]; exact on_far _ _ _
  · have f' : a.far = false := by simpa using f
    rw [negF_fin f']
    exact Or.inr ⟨rfl, neg_aff h5 (h.aff f')⟩

theorem add_negF (h : Cv p A B) {a : Pt} (ha : On p A B a) : addF p A a (negF p a) = farP := by
  by_cases f : a.far = true
  · rw [ha.far_eq f]; rfl
  · have f' : a.far = false := by simpa using f
    rw [negF_fin f']
    exact addF_opp f' rfl ⟨rfl, by rw [Int.add_comm]; exact neg_dvd p a.y⟩

theorem negF_add_self (h : Cv p A B) {a : Pt} (ha : On p A B a) : addF p A (negF p a) a = farP := by
  rw [addF_comm h (negF_on (by have := h.five; omega) ha) ha, add_negF h ha]

theorem negF_negF (h5 : 0 < p) {a : Pt} (ha : On p A B a) : negF p (negF p a) = a := by
  by_cases f : a.far = true
  · rw [ha.far_eq f]; rfl
  · have f' : a.far = false := by simpa using f
    rw [negF_fin f', negF_fin rfl]
    refine Pt.ext' rfl ?_ f'.symm
    have k := ha.aff f'
    have h1 := neg_dvd p a.y
    have h2 := neg_dvd p ((-a.y) % p)
    simp only
    refine eq_of_dvd (Int.emod_nonneg _ (by omega)) (Int.emod_lt_of_pos _ (by omega)) k.y0 k.y1 ?_
    generalize (-a.y) % (p : Int) = z at *
    generalize (-z) % (p : Int) = u at *
    exact comb2 h2 h1 1 (-1) (by grind)

/-- Two that are each other's other side. -/
theorem opp_eq (h5 : 0 < p) {a b : Pt} (fa : a.far = false) (fb : b.far = false) (ha : Aff p A B a.x a.y) (hb : Aff p A B b.x b.y) (h : Opp p a.x a.y b.x b.y) : b = negF p a := by
  rw [negF_fin fa]
  refine Pt.ext' h.1.symm ?_ fb
  simp only
  refine eq_of_dvd hb.y0 hb.y1 (Int.emod_nonneg _ (by omega)) (Int.emod_lt_of_pos _ (by omega)) ?_
  have h1 := neg_dvd p a.y
  have h2 := h.2
  generalize (-a.y) % (p : Int) = z at *
  exact comb2 h2 h1 1 (-1) (by grind)

/-- The slope of the other sides. -/
theorem Slope.neg {x1 y1 x2 y2 l z1 z2 : Int} (h : Slope p A x1 y1 x2 y2 l) (h1 : (p : Int) ∣ z1 + y1) (h2 : (p : Int) ∣ z2 + y2) : Slope p A x1 z1 x2 z2 (-l) :=
  ⟨comb3 h.s1 h1 h2 (-1) 1 (-1) (by grind), comb3 h.s2 h1 h2 1 (-l) (-l) (by grind)⟩

theorem Opp.neg {x1 y1 x2 y2 z1 z2 : Int} (h : Opp p x1 z1 x2 z2) (h1 : (p : Int) ∣ z1 + y1) (h2 : (p : Int) ∣ z2 + y2) : Opp p x1 y1 x2 y2 := by
  have h3 := h.2
  exact ⟨h.1, comb3 h3 h1 h2 (-1) 1 1 (by grind)⟩

/-- The other side of a sum. -/
theorem negF_addF (h : Cv p A B) {a b : Pt} (ha : On p A B a) (hb : On p A B b) : negF p (addF p A a b) = addF p A (negF p a) (negF p b) := by
  have h5 : 0 < p := by have := h.five; omega
  by_cases fa : a.far = true
  · rw [ha.far_eq fa]; rfl
  · have fa' : a.far = false := by simpa using fa
    by_cases fb : b.far = true
    · rw [hb.far_eq fb, addF_far_right ha, negF_far, addF_far_right (negF_on h5 ha)]
    · have fb' : b.far = false := by simpa using fb
      have ka := ha.aff fa'
      have kb := hb.aff fb'
      have d1 := neg_dvd p a.y
      have d2 := neg_dvd p b.y
      by_cases ho : Opp p a.x a.y b.x b.y
      · rw [addF_opp fa' fb' ho, negF_far, negF_fin fa', negF_fin fb', addF_opp rfl rfl ?_]
        have h3 := ho.2
        exact ⟨ho.1, comb3 h3 d1 d2 (-1) 1 1 (by grind)⟩
      · have hs := slope_ok h ka kb ho
        rw [addF_third h fa' fb' ka kb ho hs, negF_fin fa', negF_fin fb',
          addF_third h (a := ⟨a.x, (-a.y) % p, false⟩) (b := ⟨b.x, (-b.y) % p, false⟩) rfl rfl (neg_aff h5 ka) (neg_aff h5 kb) (fun k => ho (k.neg d1 d2)) (hs.neg d1 d2)]
        generalize slopeF p A a b = l at *
        rw [negF_fin rfl]
        simp only
        have ex : (third p a.x a.y b.x l).x = (third p a.x ((-a.y) % p) b.x (-l)).x := mod_eq ⟨0, by grind⟩
        refine Pt.ext' ex ?_ rfl
        simp only
        have e1 := third_y p a.x a.y b.x l
        have e2 := third_y p a.x ((-a.y) % p) b.x (-l)
        rw [← ex] at e2
        have e3 := neg_dvd p (third p a.x a.y b.x l).y
        refine eq_of_dvd (Int.emod_nonneg _ (by omega)) (Int.emod_lt_of_pos _ (by omega)) (Int.emod_nonneg _ (by omega)) (Int.emod_lt_of_pos _ (by omega)) ?_
        generalize (third p a.x ((-a.y) % p) b.x (-l)).y = u at *
        generalize (third p a.x a.y b.x l).y = v at *
        generalize (third p a.x a.y b.x l).x = z at *
        generalize (-v) % (p : Int) = v' at *
        generalize (-a.y) % (p : Int) = y' at *
        exact comb4 e1 e2 e3 d1 (-1) (-1) 1 1 (by grind)

/-- No sum with a point that is not far is what it was. -/
theorem no_fix (h : Cv p A B) {x1 y1 x2 y2 l : Int} (ha : Aff p A B x1 y1) (hb : Aff p A B x2 y2) (hs : Slope p A x1 y1 x2 y2 l) (hx : (p : Int) ∣ x1 - (l * l - x1 - x2)) (hy : (p : Int) ∣ y1 - (l * (x1 - x1) - y1)) : False := by
  have h1 : (p : Int) ∣ y1 := h.two (comb1 hy 1 (by grind))
  have h2 : (p : Int) ∣ 3 * x1 * x1 + A := comb4 h1 hs.s1 hs.s2 hx (2 * l) (-l) (-1) (x1 - x2) (by grind)
  exact h.disc (comb3 h1 ha.on h2 (-27 * y1 * (A * x1 - B + x1 * x1 * x1)) (27 * (A * x1 - B + x1 * x1 * x1)) (4 * A * A + 15 * A * x1 * x1 + 9 * x1 * x1 * x1 * x1) (by grind))

/-- The slope back. -/
theorem Slope.back {x1 y1 x2 y2 x3 y3 z1 l : Int} (h : Slope p A x1 y1 x2 y2 l) (hx : (p : Int) ∣ x3 - (l * l - x1 - x2)) (hy : (p : Int) ∣ y3 - (l * (x1 - x3) - y1)) (hz : (p : Int) ∣ z1 + y1) : Slope p A x1 z1 x3 y3 (-l) :=
  ⟨comb2 hz hy 1 (-1) (by grind), comb5 hz hy h.s2 h.s1 hx (-l) (-l) 1 l (x2 - x3) (by grind)⟩

/-- What is added is taken away by the other side. -/
theorem addF_cancel (h : Cv p A B) {a b : Pt} (ha : On p A B a) (hb : On p A B b) : addF p A (negF p a) (addF p A a b) = b := by
  have h5 : 0 < p := by have := h.five; omega
  by_cases fa : a.far = true
  · rw [ha.far_eq fa]; rfl
  · have fa' : a.far = false := by simpa using fa
    by_cases fb : b.far = true
    · rw [hb.far_eq fb, addF_far_right ha, negF_add_self h ha]
    · have fb' : b.far = false := by simpa using fb
      have ka := ha.aff fa'
      have kb := hb.aff fb'
      have d1 := neg_dvd p a.y
      by_cases ho : Opp p a.x a.y b.x b.y
      · rw [addF_opp fa' fb' ho, addF_far_right (negF_on h5 ha), opp_eq h5 fa' fb' ka kb ho]
      · have hs := slope_ok h ka kb ho
        have hc := third_on h5 ka hs
        rw [addF_third h fa' fb' ka kb ho hs, negF_fin fa']
        have hx := third_x p a.x a.y b.x (slopeF p A a b)
        have hy := third_y p a.x a.y b.x (slopeF p A a b)
        have hf : (third p a.x a.y b.x (slopeF p A a b)).far = false := rfl
        generalize slopeF p A a b = l at *
        generalize third p a.x a.y b.x l = c at *
        have hno : ¬ Opp p a.x ((-a.y) % p) c.x c.y := by
          intro k
          have kx := k.1
          have ky := k.2
          generalize (-a.y) % (p : Int) = z at *
          rw [← kx] at hx hy
          refine no_fix h ka kb hs hx ?_
          exact comb3 ky d1 hy (-1) 1 1 (by grind)
        rw [addF_third h (a := ⟨a.x, (-a.y) % p, false⟩) rfl hf (neg_aff h5 ka) hc hno (hs.back hx hy d1)]
        have s1 := hs.s1
        generalize (-a.y) % (p : Int) = z at *
        have ex : (third p a.x z c.x (-l)).x = b.x := by
          refine eq_of_dvd (Int.emod_nonneg _ (by omega)) (Int.emod_lt_of_pos _ (by omega)) kb.x0 kb.x1 ?_
          have := third_x p a.x z c.x (-l)
          generalize (third p a.x z c.x (-l)).x = u at *
          exact comb2 this hx 1 (-1) (by grind)
        refine Pt.ext' ex ?_ fb'.symm
        refine eq_of_dvd (Int.emod_nonneg _ (by omega)) (Int.emod_lt_of_pos _ (by omega)) kb.y0 kb.y1 ?_
        have := third_y p a.x z c.x (-l)
        rw [ex] at this
        generalize (third p a.x z c.x (-l)).y = v at *
        exact comb3 this d1 s1 1 (-1) 1 (by grind)

/-- Sums of three, no two of which nor of their sums are each other's other side. -/
theorem assoc_far_apart (h : Cv p A B) {a b c : Pt} (fa : a.far = false) (fb : b.far = false) (fc : c.far = false) (ka : Aff p A B a.x a.y) (kb : Aff p A B b.x b.y) (kc : Aff p A B c.x c.y)
    (hab : ¬ Opp p a.x a.y b.x b.y) (hbc : ¬ Opp p b.x b.y c.x c.y) (hne : a ≠ c) (h4 : addF p A a b ≠ negF p c) (h5 : addF p A b c ≠ negF p a) :
    addF p A (addF p A a b) c = addF p A a (addF p A b c) := by
  have hp : 0 < p := by have := h.five; omega
  have hs := slope_ok h ka kb hab
  have ht := slope_ok h kb kc hbc
  rw [addF_third h fa fb ka kb hab hs] at h4 ⊢
  rw [addF_third h fb fc kb kc hbc ht] at h5 ⊢
  have k4 := third_on hp ka hs
  have k5 := third_on hp kb ht
  have x4 := third_x p a.x a.y b.x (slopeF p A a b)
  have y4 := third_y p a.x a.y b.x (slopeF p A a b)
  have x5 := third_x p b.x b.y c.x (slopeF p A b c)
  have y5 := third_y p b.x b.y c.x (slopeF p A b c)
  have f4 : (third p a.x a.y b.x (slopeF p A a b)).far = false := rfl
  have f5 : (third p b.x b.y c.x (slopeF p A b c)).far = false := rfl
  generalize slopeF p A a b = l at *
  generalize slopeF p A b c = m at *
  generalize third p a.x a.y b.x l = d at *
  generalize third p b.x b.y c.x m = e at *
  have o4 : ¬ Opp p d.x d.y c.x c.y := fun k => h4 (opp_eq hp fc f4 kc k4 k.swap)
  have o5 : ¬ Opp p a.x a.y e.x e.y := fun k => h5 (opp_eq hp fa f5 ka k5 k)
  have s1 := hs.s1
  have s2 := hs.s2
  have t1 := ht.s1
  have t2 := ht.s2
  -- the two slopes part
  have hd : ¬ (p : Int) ∣ m - l := by
    intro hd
    have e1 : (p : Int) ∣ (c.x - a.x) * (a.x + b.x + c.x - l * l) := comb5 s2 t2 s1 t1 hd (1) (-1) (-l) (-m) (2 * b.y + (m + l) * (c.x - b.x)) (by grind)
    rcases h.prime.dvd_mul_int e1 with e2 | e2
    · have ex : c.x = a.x := eq_of_dvd kc.x0 kc.x1 ka.x0 ka.x1 e2
      apply hne
      refine Pt.ext' ex.symm ?_ (fa.trans fc.symm)
      rw [ex] at t1
      refine eq_of_dvd ka.y0 ka.y1 kc.y0 kc.y1 ?_
      exact comb3 s1 t1 hd 1 1 (b.x - a.x) (by grind)
    · have ex : d.x = c.x := eq_of_dvd k4.x0 k4.x1 kc.x0 kc.x1 (comb2 x4 e2 1 (-1) (by grind))
      refine o4 ⟨ex, ?_⟩
      rw [ex] at y4
      exact comb4 y4 s1 t1 hd 1 (-1) (-1) (c.x - b.x) (by grind)
  obtain ⟨t, ht⟩ : ∃ t, (p : Int) ∣ t * (m - l) - (c.x - a.x) := by
    refine ⟨(c.x - a.x) * iv p (m - l), ?_⟩
    have := iv_spec h.prime hd
    generalize iv p (m - l) = i at *
    exact comb1 this (c.x - a.x) (by grind)
  have hR : (p : Int) ∣ 2 * b.y - (t * (a.x + b.x + c.x) - (m + l) * (a.x - b.x) - m * m * t) := by
    have : (p : Int) ∣ (m - l) * (2 * b.y - (t * (a.x + b.x + c.x) - (m + l) * (a.x - b.x) - m * m * t)) :=
      comb5 t2 s2 t1 s1 ht 1 (-1) m l (m * m - a.x - b.x - c.x) (by grind)
    exact (h.prime.dvd_mul_int this).resolve_left hd
  have n1 : Slope p A d.x d.y c.x c.y (t - l) := by
    constructor
    · exact comb6 y4 x4 ht s1 t1 hR 1 (-t) (l + m) (-1) 1 (-1) (by grind)
    · have g := Int.dvd_add (comb6 y4 x4 ht s2 s1 t1 (-l + t) (-l * t + a.x + b.x - c.x - d.x) (l * l + l * m - b.x + c.x) 1 (-t) (l - t) rfl) (comb1 hR (-l) rfl)
      exact comb1 g 1 (by grind)
  have n2 : Slope p A a.x a.y e.x e.y (t - m) := by
    constructor
    · exact comb4 y5 x5 s1 hR (-1) t 1 1 (by grind)
    · exact comb6 y5 x5 ht s2 s1 hR (-m + t) (-m * t - a.x + b.x + c.x - e.x) (-(m * m) + 2 * b.x + c.x) 1 (-l - m + t) (-l) (by grind)
  rw [addF_third h f4 fc k4 kc o4 n1, addF_third h fa f5 ka k5 o5 n2]
  refine third_congr (y2 := 0) ?_ ?_
  · exact comb3 x4 x5 ht (-1) 1 2 (by grind)
  · have x6 := third_x p d.x d.y c.x (t - l)
    generalize (third p d.x d.y c.x (t - l)).x = z at *
    have g := Int.dvd_add (comb6 x6 y4 x4 ht s1 hR (l - m) (-1) (-l + m + t) (l - m - t) 2 1 rfl) (comb1 t1 0 rfl)
    exact comb1 g 1 (by grind)

/-- Sums may be put together otherwise. -/
theorem addF_assoc (h : Cv p A B) {a b c : Pt} (ha : On p A B a) (hb : On p A B b) (hc : On p A B c) : addF p A (addF p A a b) c = addF p A a (addF p A b c) := by
  have hp : 0 < p := by have := h.five; omega
  by_cases fa : a.far = true
  · rw [ha.far_eq fa]; rfl
  have fa' : a.far = false := by simpa using fa
  by_cases fb : b.far = true
  · rw [hb.far_eq fb, addF_far_right ha]; rfl
  have fb' : b.far = false := by simpa using fb
  by_cases fc : c.far = true
  · rw [hc.far_eq fc, addF_far_right (addF_on h ha hb), addF_far_right hb]
  have fc' : c.far = false := by simpa using fc
  have na := negF_on hp ha
  have nb := negF_on hp hb
  have nc := negF_on hp hc
  by_cases hab : Opp p a.x a.y b.x b.y
  · rw [addF_opp fa' fb' hab]
    have e := opp_eq hp fb' fa' (hb.aff fb') (ha.aff fa') hab.swap
    show c = _
    rw [e, addF_cancel h hb hc]
  by_cases hbc : Opp p b.x b.y c.x c.y
  · rw [addF_opp fb' fc' hbc, addF_far_right ha]
    have e := opp_eq hp fb' fc' (hb.aff fb') (hc.aff fc') hbc
    rw [e, addF_comm h (addF_on h ha hb) nb, addF_comm h ha hb, addF_cancel h hb ha]
  by_cases hac : a = c
  · subst hac
    rw [addF_comm h (addF_on h ha hb) ha, addF_comm h ha hb]
  by_cases h4 : addF p A a b = negF p c
  · have e : addF p A b c = negF p a := by
      have e1 : c = negF p (addF p A a b) := by rw [h4, negF_negF hp hc]
      rw [e1, addF_comm h ha hb, negF_addF h hb ha]
      have := addF_cancel h nb na
      rwa [negF_negF hp hb] at this
    rw [h4, e, negF_add_self h hc, add_negF h ha]
  by_cases h5 : addF p A b c = negF p a
  · have e : addF p A a b = negF p c := by
      have e1 : a = negF p (addF p A b c) := by rw [h5, negF_negF hp ha]
      rw [e1, negF_addF h hb hc, addF_comm h (addF_on h nb nc) hb]
      have := addF_cancel h nb nc
      rwa [negF_negF hp hb] at this
    exact absurd e h4
  exact assoc_far_apart h fa' fb' fc' (ha.aff fa') (hb.aff fb') (hc.aff fc') hab hbc hac h4 h5

/-- A point taken n times. -/
def nF (p : Nat) (A : Int) : Nat → Pt → Pt
  | 0, _ => farP
  | n + 1, a => addF p A (nF p A n a) a

theorem nF_on (h : Cv p A B) {a : Pt} (ha : On p A B a) (n : Nat) : On p A B (nF p A n a) := by
  induction n with
  | zero => exact on_far _ _ _
  | succ n ih => exact addF_on h ih ha

theorem nF_add (h : Cv p A B) {a : Pt} (ha : On p A B a) (m n : Nat) : nF p A (m + n) a = addF p A (nF p A m a) (nF p A n a) := by
  induction n with
  | zero => exact (addF_far_right (nF_on h ha m)).symm
  | succ n ih =>
    show addF p A (nF p A (m + n) a) a = addF p A (nF p A m a) (addF p A (nF p A n a) a)
    rw [ih, addF_assoc h (nF_on h ha m) (nF_on h ha n) ha]

theorem nF_mul (h : Cv p A B) {a : Pt} (ha : On p A B a) (m n : Nat) : nF p A m (nF p A n a) = nF p A (m * n) a := by
  induction m with
  | zero => rw [Nat.zero_mul]; rfl
  | succ m ih => rw [Nat.succ_mul, nF_add h ha, ← ih]; rfl

theorem nF_far (n : Nat) : nF p A n farP = farP := by
  induction n with
  | zero => rfl
  | succ n ih => show addF p A (nF p A n farP) farP = farP; rw [ih]; rfl

/-- A multiple by doubling, as the model and the program reckon it. -/
def mulAcc (p : Nat) (A : Int) : Nat → Nat → Pt → Pt → Pt
  | 0, _, o, _ => o
  | f + 1, n, o, a => mulAcc p A f (n / 2) (if n % 2 = 1 then addF p A o a else o) (addF p A a a)

def mulF (p : Nat) (A : Int) (n : Nat) (a : Pt) : Pt := mulAcc p A 64 n farP a

theorem mulAcc_eq (h : Cv p A B) : ∀ (f n : Nat) (o a : Pt), On p A B o → On p A B a → n < 2 ^ f → mulAcc p A f n o a = addF p A o (nF p A n a) := by
  intro f
  induction f with
  | zero =>
    intro n o a ho ha hn
    obtain rfl : n = 0 := by simpa using hn
    exact (addF_far_right ho).symm
  | succ f ih =>
    intro n o a ho ha hn
    have h2 : n / 2 < 2 ^ f := by rw [Nat.pow_succ] at hn; omega
    have haa := addF_on h ha ha
    have e2 : nF p A (n / 2) (addF p A a a) = nF p A (n / 2 * 2) a := by
      have := nF_mul h ha (n / 2) 2
      rwa [show nF p A 2 a = addF p A a a from rfl] at this
    rw [mulAcc]
    by_cases hodd : n % 2 = 1
    · rw [if_pos hodd, ih _ _ _ (addF_on h ho ha) haa h2, e2, addF_assoc h ho ha (nF_on h ha _)]
      congr 1
      rw [addF_comm h ha (nF_on h ha _)]
      show nF p A (n / 2 * 2 + 1) a = _
      rw [show n / 2 * 2 + 1 = n by omega]
    · rw [if_neg hodd, ih _ _ _ ho haa h2, e2, show n / 2 * 2 = n by omega]

theorem mulF_eq (h : Cv p A B) {n : Nat} (hn : n < 2 ^ 64) {a : Pt} (ha : On p A B a) : mulF p A n a = nF p A n a := by
  unfold mulF
  rw [mulAcc_eq h 64 n farP a (on_far _ _ _) ha hn]
  rfl

theorem mulF_on (h : Cv p A B) {n : Nat} (hn : n < 2 ^ 64) {a : Pt} (ha : On p A B a) : On p A B (mulF p A n a) := by
  rw [mulF_eq h hn ha]; exact nF_on h ha n

end
end

section
set_option linter.unusedVariables false
open Go.RowKit

/-- A call's answer is whether a is a point of the curve. -/
def GivesOn (p : Int) (A B : Int) (a : Pt) (r : Ending) : Prop := ∃ ok : Bool, r = .returned (.bool ok) ∧ (0 ≤ A → (ok = true ↔ On p.toNat A B a)) ∧ (ok = true → a.far = false → 0 ≤ a.x ∧ a.x < p ∧ 0 ≤ a.y ∧ a.y < p)

theorem mulBd {x y p q : Int} (hx0 : 0 ≤ x) (hx : x ≤ p) (hy0 : 0 ≤ y) (hy : y ≤ q) : 0 ≤ x * y ∧ x * y ≤ p * q :=
  ⟨Int.mul_nonneg hx0 hy0, Int.mul_le_mul hx hy hy0 (by omega)⟩

theorem givesOn_no {p A B x y : Int} (h : ¬ (0 ≤ x ∧ x ≤ p - 1 ∧ 0 ≤ y ∧ y ≤ p - 1)) (hp : 0 ≤ p) : GivesOn p A B ⟨x, y, false⟩ (.returned (.bool false)) := by
  refine ⟨false, rfl, fun _ => ⟨fun k => by simp at k, fun k => ?_⟩, fun k => by simp at k⟩
  have k1 := k.aff rfl
  have a1 := k1.x0; have a2 := k1.x1; have a3 := k1.y0; have a4 := k1.y1
  simp only at a1 a2 a3 a4
  exact absurd ⟨a1, by omega, a3, by omega⟩ h

theorem givesOn_far {p A B x y : Int} {ok : Bool} (h : ok = true ↔ x = 0 ∧ y = 0) : GivesOn p A B ⟨x, y, true⟩ (.returned (.bool ok)) := by
  refine ⟨ok, rfl, fun _ => ?_, fun _ k => by simp at k⟩
  rw [h]
  constructor
  · rintro ⟨rfl, rfl⟩; exact Or.inl ⟨rfl, rfl, rfl⟩
  · rintro (⟨_, h1, h2⟩ | ⟨h, _⟩)
    · exact ⟨h1, h2⟩
    · simp at h

/-- The curve's equation, as the model reckons it. -/
theorem on_model {p A B x y : Int} (hp : 0 < p) : y * y % p = ((x * x % p + A) * x + B) % p ↔ p ∣ y * y - (x * x * x + A * x + B) := by
  have h1 := mod_dvd p (x * x)
  constructor
  · intro h
    have h2 := Int.dvd_of_emod_eq_zero (Int.emod_eq_emod_iff_emod_sub_eq_zero.1 h)
    generalize x * x % p = q at *
    exact comb2 h2 h1 1 x (by grind)
  · intro h
    apply mod_eq
    generalize x * x % p = q at *
    exact comb2 h h1 1 (-x) (by grind)

theorem givesOn_eq {p A B x y : Int} (hx0 : 0 ≤ x) (hx : x ≤ p - 1) (hy0 : 0 ≤ y) (hy : y ≤ p - 1) (hB : 0 ≤ B) {ok : Bool} (h : ok = (y * y % p == Int.tmod ((x * x % p + A) * x + B) p)) : GivesOn p A B ⟨x, y, false⟩ (.returned (.bool ok)) := by
  refine ⟨ok, rfl, fun hA => ?_, fun _ _ => ⟨hx0, by simp only; omega, hy0, by simp only; omega⟩⟩
  have hm := Int.emod_nonneg (x * x) (show p ≠ 0 by omega)
  have hn : 0 ≤ (x * x % p + A) * x + B := Int.add_nonneg (Int.mul_nonneg (by omega) hx0) hB
  rw [Int.tmod_eq_emod_of_nonneg hn] at h
  rw [h, beq_iff_eq, on_model (by omega)]
  have e : ((p.toNat : Nat) : Int) = p := by omega
  constructor
  · intro hd
    exact Or.inr ⟨rfl, ⟨hx0, by simp only; omega, hy0, by simp only; omega, by rw [e]; exact hd⟩⟩
  · intro hd
    have := (hd.aff rfl).on
    rwa [e] at this

set_option maxHeartbeats 800000 in
theorem l3On_any (p A B N gx gy x y : Int) (f : Bool) (w : World) (hp0 : 0 ≤ p) (hp : p ≤ 2097152) (hA0 : -1 ≤ A) (hA : A ≤ 2097152) (hB0 : 0 ≤ B) (hB : B ≤ 2097152) :
    Calls Tryz.prog 88 #[.agg #[.int .i64 p, .int .i64 A, .int .i64 B, .int .i64 N, .int .i64 gx, .int .i64 gy], .agg #[.int .i64 x, .int .i64 y, .bool f]] w fun r w' => GivesOn p A B ⟨x, y, f⟩ r ∧ Below w.heap.size w w' := by
  cases f
  · by_cases c1 : 0 ≤ x ∧ x ≤ p - 1
    · have hin : (decide ((0 : Int) ≤ x) && decide (x ≤ p - 1)) = true := by simp; omega
      by_cases c2 : 0 ≤ y ∧ y ≤ p - 1
      · have hin2 : (decide ((0 : Int) ≤ y) && decide (y ≤ p - 1)) = true := by simp; omega
        obtain ⟨x0, x1⟩ := c1
        obtain ⟨y0, y1⟩ := c2
        have Hy : Hid (∀ ok : Bool, ok = (y * y % p == Int.tmod ((x * x % p + A) * x + B) p) → GivesOn p A B ⟨x, y, false⟩ (.returned (.bool ok))) := fun ok h => givesOn_eq x0 x1 y0 y1 hB0 h
        have pp : 0 < p := by omega
        obtain ⟨a0, a1⟩ := mulBd y0 (show y ≤ 2097152 by omega) y0 (show y ≤ 2097152 by omega)
        obtain ⟨b0, b1⟩ := mulBd x0 (show x ≤ 2097152 by omega) x0 (show x ≤ 2097152 by omega)
        have m0 := Int.emod_nonneg (x * x) (show p ≠ 0 by omega)
        have m1 := Int.emod_lt_of_pos (x * x) pp
        have z : -2097152 ≤ (x * x % p + A) * x ∧ (x * x % p + A) * x ≤ 8796093022208 := by
          generalize x * x % p = q at *
          have h1 := mulBd (show 0 ≤ q + A + 1 by omega) (show q + A + 1 ≤ 4194304 by omega) x0 (show x ≤ 2097152 by omega)
          rw [Int.add_mul, Int.one_mul] at h1
          omega
        obtain ⟨z0, z1⟩ := z
        go_enter Tryz.func88, Tryz.ntmps88
        go_wp2_with fail
        refine (l1In_int _ _ _ _).mono ?_
        rintro r w' ⟨rfl, hw⟩
        subst hw
        rw [hin]
        go_wp2_with fail
        refine (l1In_int _ _ _ _).mono ?_
        rintro r w' ⟨rfl, hw⟩
        subst hw
        rw [hin2]
        clear hin hin2
        go_wp2
        go_quiet (fail)
        go_wp2
        go_ret
        exact ⟨Hy.out _ rfl, below_drewN (((Below.refl _ _).alloc (Nat.le_refl _) _).alloc (by simp) _) _⟩
      · have hin2 : (decide ((0 : Int) ≤ y) && decide (y ≤ p - 1)) = false := by simp; omega
        have Hno : Hid (GivesOn p A B ⟨x, y, false⟩ (.returned (.bool false))) := givesOn_no (fun h => c2 ⟨h.2.2.1, h.2.2.2⟩) hp0
        go_enter Tryz.func88, Tryz.ntmps88
        go_wp2_with fail
        refine (l1In_int _ _ _ _).mono ?_
        rintro r w' ⟨rfl, hw⟩
        subst hw
        rw [hin]
        go_wp2_with fail
        refine (l1In_int _ _ _ _).mono ?_
        rintro r w' ⟨rfl, hw⟩
        subst hw
        rw [hin2]
        clear hin hin2
        go_wp2
        go_ret
        exact ⟨Hno.out, ((Below.refl _ _).alloc (Nat.le_refl _) _).alloc (by simp) _⟩
    · have hin : (decide ((0 : Int) ≤ x) && decide (x ≤ p - 1)) = false := by simp; omega
      have Hno : Hid (GivesOn p A B ⟨x, y, false⟩ (.returned (.bool false))) := givesOn_no (fun h => c1 ⟨h.1, h.2.1⟩) hp0
      go_enter Tryz.func88, Tryz.ntmps88
      go_wp2_with fail
      refine (l1In_int _ _ _ _).mono ?_
      rintro r w' ⟨rfl, hw⟩
      subst hw
      rw [hin]
      clear hin
      go_wp2
      go_ret
      exact ⟨Hno.out, ((Below.refl _ _).alloc (Nat.le_refl _) _).alloc (by simp) _⟩
  · by_cases cx : x = 0
    · by_cases cy : y = 0
      · subst cx cy
        go_enter Tryz.func88, Tryz.ntmps88
        go_wp2
        go_ret
        exact ⟨givesOn_far (by simp), ((Below.refl _ _).alloc (Nat.le_refl _) _).alloc (by simp) _⟩
      · have hb : (y == 0) = false := by simpa using cy
        have Hno : Hid (GivesOn p A B ⟨0, y, true⟩ (.returned (.bool false))) := givesOn_far (by simp [cy])
        subst cx
        go_enter Tryz.func88, Tryz.ntmps88
        go_wp2
        go_ret
        exact ⟨Hno.out, ((Below.refl _ _).alloc (Nat.le_refl _) _).alloc (by simp) _⟩
    · have hb : (x == 0) = false := by simpa using cx
      have Hno : Hid (GivesOn p A B ⟨x, y, true⟩ (.returned (.bool false))) := givesOn_far (by simp [cx])
      go_enter Tryz.func88, Tryz.ntmps88
      go_wp2
      go_ret
      exact ⟨Hno.out, ((Below.refl _ _).alloc (Nat.le_refl _) _).alloc (by simp) _⟩
end

section
set_option linter.unusedVariables false
open Go.RowKit

/-- A point as the program has it. -/
def ptV (a : Pt) : Value := .agg #[.int .i64 a.x, .int .i64 a.y, .bool a.far]

theorem iv_of_isInv {p : Nat} (hp : Prime p) (h3 : 3 ≤ p) {a v : Int} {ok : Bool} (h : IsInv p (invR a p) v ok) : v = iv p a := by
  have hr := invR_lt (a := a) (m := (p : Int)) (by omega)
  rw [Int.toNat_natCast] at hr
  obtain ⟨h1, h2⟩ := hr
  have hi := iv_range (show 0 < p by omega) a
  by_cases hd : (p : Int) ∣ a
  · rw [iv_zero h3 hd]
    have e0 : invR a p = 0 := by
      have := Int.emod_eq_zero_of_dvd hd
      rw [h2] at this
      omega
    apply h.no
    have k := h.dec
    simp only [e0, Nat.gcd_zero_right] at k
    rw [k]
    simp; omega
  · have hs := iv_spec hp hd
    have e1 : ¬ p ∣ invR a p := by
      intro k
      apply hd
      have k2 : (p : Int) ∣ a % p := by rw [h2]; exact Int.ofNat_dvd.2 k
      have k3 := Int.dvd_sub k2 (mod_dvd (p : Int) a)
      rwa [show a % (p : Int) - (a % p - a) = a by omega] at k3
    have hg : ok = true := by rw [h.dec]; simpa using hp.coprime e1
    obtain ⟨v0, v1, v2⟩ := h.yes hg
    rw [← h2] at v2
    have d1 : (p : Int) ∣ v * (a % p) - 1 := by
      have := mod_dvd (p : Int) (v * (a % p))
      rw [v2] at this
      have := Int.dvd_neg.2 this
      rwa [show -(1 - v * (a % (p : Int))) = v * (a % p) - 1 by omega] at this
    have d2 := mod_dvd (p : Int) a
    refine eq_of_dvd v0 v1 hi.1 hi.2 ?_
    have d3 : (p : Int) ∣ a * (v - iv p a) := by
      generalize iv p a = i at *
      generalize a % (p : Int) = r at *
      exact comb3 d1 hs d2 1 (-1) (-v) (by grind)
    exact (hp.dvd_mul_int d3).resolve_left hd

theorem l2Inv_iv (a : Int) (p : Nat) (w : World) (h0 : -9223372036854775808 ≤ a) (h1 : a ≤ 9223372036854775807) (hp : Prime p) (h3 : 3 ≤ p) (hm : p ≤ 1073741824) :
    Calls Tryz.prog 118 #[.int .i64 a, .int .i64 (p : Int)] w fun r w' => r = .returned (.int .i64 (iv p a)) ∧ ∃ q, w' = w.drewN q := by
  refine (l2Inv_any a p w h0 h1 (by omega) hm).mono ?_
  rintro r w' ⟨⟨v, rfl, hI, _⟩, hq⟩
  rw [iv_of_isInv hp h3 hI]
  exact ⟨rfl, hq⟩

theorem tmod_bd (a : Int) {p : Int} (hp : 0 < p) : -p < Int.tmod a p ∧ Int.tmod a p < p := ⟨Int.lt_tmod_of_pos a hp, Int.tmod_lt_of_pos a hp⟩

theorem tmod_dvd (p a : Int) : p ∣ Int.tmod a p - a := by
  have := Int.tmod_add_mul_tdiv a p
  exact ⟨-(Int.tdiv a p), by rw [Int.mul_neg]; omega⟩

theorem abs_mul {T v p : Int} (hp : p ≤ 2097152) (h0 : -p < T) (h1 : T < p) (v0 : -p < v) (v1 : v < p) : -4398046511104 ≤ T * v ∧ T * v ≤ 4398046511104 := by
  have e1 := mulBd (show 0 ≤ T + p by omega) (show T + p ≤ 4194304 by omega) (show 0 ≤ v + p by omega) (show v + p ≤ 4194304 by omega)
  have e2 := mulBd (show 0 ≤ p - T by omega) (show p - T ≤ 4194304 by omega) (show 0 ≤ v + p by omega) (show v + p ≤ 4194304 by omega)
  rcases Int.le_total 0 T with hT | hT
  · rcases Int.le_total 0 v with hv | hv
    · have := mulBd hT (show T ≤ 2097152 by omega) hv (show v ≤ 2097152 by omega); omega
    · have := mulBd hT (show T ≤ 2097152 by omega) (show 0 ≤ -v by omega) (show -v ≤ 2097152 by omega)
      rw [Int.mul_neg] at this; omega
  · rcases Int.le_total 0 v with hv | hv
    · have := mulBd (show 0 ≤ -T by omega) (show -T ≤ 2097152 by omega) hv (show v ≤ 2097152 by omega)
      rw [Int.neg_mul] at this; omega
    · have := mulBd (show 0 ≤ -T by omega) (show -T ≤ 2097152 by omega) (show 0 ≤ -v by omega) (show -v ≤ 2097152 by omega)
      rw [Int.neg_mul_neg] at this; omega

theorem sq_bd {T p : Int} (hp : p ≤ 2097152) (h0 : -p < T) (h1 : T < p) : 0 ≤ T * T ∧ T * T ≤ 4398046511104 := by
  refine ⟨?_, (abs_mul hp h0 h1 h0 h1).2⟩
  rcases Int.le_total 0 T with hT | hT
  · exact Int.mul_nonneg hT hT
  · have := Int.mul_nonneg (show 0 ≤ -T by omega) (show 0 ≤ -T by omega)
    rwa [Int.neg_mul_neg] at this

/-- The third point by whatever number that leaves the slope. -/
theorem third_of {p : Nat} {x1 y1 x2 S l : Int} (h : (p : Int) ∣ S - l) : third p x1 y1 x2 l = ⟨(S * S - x1 - x2) % p, (S * (x1 - (S * S - x1 - x2) % p) - y1) % p, false⟩ := by
  symm
  refine third_congr (y2 := 0) (comb1 h (S + l) (by grind)) ?_
  generalize (third p x1 y1 x2 S).x = z at *
  exact comb1 h (x1 - z) (by grind)

theorem slope_tan {p : Nat} {A x y y' : Int} {f f' : Bool} : (p : Int) ∣ Int.tmod (Int.tmod (3 * x % p * x + A) p * iv p (2 * y)) p - slopeF p A ⟨x, y, f⟩ ⟨x, y', f'⟩ := by
  unfold slopeF
  simp only [if_pos]
  generalize iv p (2 * y) = i
  have e1 := tmod_dvd (p : Int) (Int.tmod (3 * x % p * x + A) p * i)
  have e2 := tmod_dvd (p : Int) (3 * x % p * x + A)
  have e3 := mod_dvd (p : Int) (3 * x)
  have e4 := mod_dvd (p : Int) ((3 * x * x + A) * i)
  generalize Int.tmod (Int.tmod (3 * x % p * x + A) p * i) p = S at *
  generalize Int.tmod (3 * x % p * x + A) p = T at *
  generalize 3 * x % (p : Int) = u at *
  generalize (3 * x * x + A) * i % (p : Int) = l at *
  exact comb4 e1 e2 e3 e4 1 i (x * i) (-1) (by grind)

theorem slope_chord {p : Nat} {A x1 y1 x2 y2 : Int} {f f' : Bool} (h : x1 ≠ x2) : (p : Int) ∣ (y2 - y1) % p * iv p (x2 - x1) % p - slopeF p A ⟨x1, y1, f⟩ ⟨x2, y2, f'⟩ := by
  unfold slopeF
  simp only [if_neg h]
  generalize iv p (x2 - x1) = i
  have e1 := mod_dvd (p : Int) ((y2 - y1) % p * i)
  have e2 := mod_dvd (p : Int) (y2 - y1)
  have e4 := mod_dvd (p : Int) ((y2 - y1) * i)
  generalize (y2 - y1) % (p : Int) * i % p = S at *
  generalize (y2 - y1) % (p : Int) = T at *
  generalize (y2 - y1) * i % (p : Int) = l at *
  exact comb3 e1 e2 e4 1 i (-1) (by grind)

theorem addF_fin {p : Nat} {A x1 y1 x2 y2 : Int} (h : ¬ (x1 = x2 ∧ (y1 + y2) % p = 0)) : addF p A ⟨x1, y1, false⟩ ⟨x2, y2, false⟩ = third p x1 y1 x2 (slopeF p A ⟨x1, y1, false⟩ ⟨x2, y2, false⟩) := by
  unfold addF
  rw [if_neg (by simp), if_neg (by simp), if_neg h]

theorem addF_opp' {p : Nat} {A x1 y1 x2 y2 : Int} (h : x1 = x2 ∧ (y1 + y2) % p = 0) : addF p A ⟨x1, y1, false⟩ ⟨x2, y2, false⟩ = farP := by
  unfold addF
  rw [if_neg (by simp), if_neg (by simp), if_pos h]

/-- The numbers of a point are below p. -/
structure InR (p : Nat) (a : Pt) : Prop where
  x0 : 0 ≤ a.x
  x1 : a.x < p
  y0 : 0 ≤ a.y
  y1 : a.y < p

theorem addF_inR {p : Nat} (hp : 0 < p) {A : Int} {a b : Pt} (ha : InR p a) (hb : InR p b) : InR p (addF p A a b) := by
  unfold addF
  split
  · exact hb
  · split
    · exact ha
    · split
      · exact ⟨Int.le_refl _, by show (0 : Int) < p; omega, Int.le_refl _, by show (0 : Int) < p; omega⟩
      · exact ⟨Int.emod_nonneg _ (by omega), Int.emod_lt_of_pos _ (by omega), Int.emod_nonneg _ (by omega), Int.emod_lt_of_pos _ (by omega)⟩

set_option maxHeartbeats 1600000 in
theorem l3Add_tan (p : Nat) (A B N gx gy x1 y1 x2 y2 : Int) (w : World) (hpr : Prime p) (h5 : 5 ≤ p) (hp : p ≤ 1048576) (hA0 : -1 ≤ A) (hA : A ≤ 2097152) (a0 : 0 ≤ x1) (a1 : x1 < p) (a2 : 0 ≤ y1) (a3 : y1 < p) (b0 : 0 ≤ x2) (b1 : x2 < p) (b2 : 0 ≤ y2) (b3 : y2 < p) (hno : ¬ (y1 + y2) % (p : Int) = 0) :
    Calls Tryz.prog 89 #[.agg #[.int .i64 p, .int .i64 A, .int .i64 B, .int .i64 N, .int .i64 gx, .int .i64 gy], .agg #[.int .i64 x1, .int .i64 y1, .bool false], .agg #[.int .i64 x1, .int .i64 y2, .bool false]] w fun r w' => r = .returned (ptV (addF p A ⟨x1, y1, false⟩ ⟨x1, y2, false⟩)) ∧ Below w.heap.size w w' := by
  have pp : (0 : Int) < p := by omega
  have hp2 : (p : Int) ≤ 2097152 := by omega
  have hb2 : ((y1 + y2) % (p : Int) == 0) = false := by simpa using hno
  have e3 := addF_fin (A := A) (x1 := x1) (x2 := x1) (y1 := y1) (y2 := y2) (p := p) (fun h => hno h.2)
  rw [third_of (slope_tan (A := A) (x := x1) (y := y1) (y' := y2) (f := false) (f' := false))] at e3
  have HV := hide e3
  clear e3 hno
  have hxx : (x1 == x1) = true := by simp
  have m0 := Int.emod_nonneg (3 * x1) (show (p : Int) ≠ 0 by omega)
  have m1 := Int.emod_lt_of_pos (3 * x1) pp
  obtain ⟨g0, g1⟩ := abs_mul (T := 3 * x1 % (p : Int)) (v := x1) hp2 (by omega) (by omega) (by omega) (by omega)
  obtain ⟨t0, t1⟩ := tmod_bd (3 * x1 % (p : Int) * x1 + A) pp
  obtain ⟨i0, i1⟩ := iv_range (show 0 < p by omega) (2 * y1)
  obtain ⟨k0, k1⟩ := abs_mul (T := Int.tmod (3 * x1 % (p : Int) * x1 + A) p) (v := iv p (2 * y1)) hp2 t0 t1 (by omega) i1
  obtain ⟨S0, S1⟩ := tmod_bd (Int.tmod (3 * x1 % (p : Int) * x1 + A) p * iv p (2 * y1)) pp
  go_enter Tryz.func89, Tryz.ntmps89
  go_wp2
  go_quiet ((go_at_call 118; exact Calls.quiet_of (l2Inv_iv _ p _ (by omega) (by omega) hpr (by omega) (by omega))))
  generalize Int.tmod (Int.tmod (3 * x1 % (p : Int) * x1 + A) p * iv p (2 * y1)) p = S at *
  obtain ⟨q0, q1⟩ := sq_bd hp2 S0 S1
  go_wp2_with fail
  refine (l2Left_any _ _ _ (by omega) (by omega) (by omega) (by omega)).mono ?_
  rintro r w' ⟨rfl, hw⟩
  subst hw
  have X0 := Int.emod_nonneg (S * S - x1 - x1) (show (p : Int) ≠ 0 by omega)
  have X1 := Int.emod_lt_of_pos (S * S - x1 - x1) pp
  generalize (S * S - x1 - x1) % (p : Int) = X at *
  obtain ⟨u0, u1⟩ := abs_mul (T := S) (v := x1 - X) hp2 S0 S1 (by omega) (by omega)
  go_wp2_with fail
  refine (l2Left_any _ _ _ (by omega) (by omega) (by omega) (by omega)).mono ?_
  rintro r w' ⟨rfl, hw⟩
  subst hw
  generalize (S * (x1 - X) - y1) % (p : Int) = Y at *
  go_wp2
  refine bodyPost_ret (v := .agg #[.int .i64 X, .int .i64 Y, .bool false]) (by simp [results, Tryz.results89, go_sem]) rfl ⟨?_, ?_⟩
  · rw [HV.out]; rfl
  · repeat (first | exact Below.refl _ _ | refine Below.setCell ?_ (by simp <;> omega) _ | refine Below.alloc ?_ (by simp <;> omega) _ | refine below_drewN ?_ _)

set_option maxHeartbeats 1600000 in
theorem l3Add_cho (p : Nat) (A B N gx gy x1 y1 x2 y2 : Int) (w : World) (hpr : Prime p) (h5 : 5 ≤ p) (hp : p ≤ 1048576) (hA0 : -1 ≤ A) (hA : A ≤ 2097152) (a0 : 0 ≤ x1) (a1 : x1 < p) (a2 : 0 ≤ y1) (a3 : y1 < p) (b0 : 0 ≤ x2) (b1 : x2 < p) (b2 : 0 ≤ y2) (b3 : y2 < p) (hne : x1 ≠ x2) :
    Calls Tryz.prog 89 #[.agg #[.int .i64 p, .int .i64 A, .int .i64 B, .int .i64 N, .int .i64 gx, .int .i64 gy], .agg #[.int .i64 x1, .int .i64 y1, .bool false], .agg #[.int .i64 x2, .int .i64 y2, .bool false]] w fun r w' => r = .returned (ptV (addF p A ⟨x1, y1, false⟩ ⟨x2, y2, false⟩)) ∧ Below w.heap.size w w' := by
  have pp : (0 : Int) < p := by omega
  have hp2 : (p : Int) ≤ 2097152 := by omega
  have hxx : (x1 == x2) = false := by simpa using hne
  have e3 := addF_fin (A := A) (x1 := x1) (x2 := x2) (y1 := y1) (y2 := y2) (p := p) (fun h => hne h.1)
  rw [third_of (slope_chord (A := A) (x1 := x1) (y1 := y1) (x2 := x2) (y2 := y2) (f := false) (f' := false) hne)] at e3
  have HV := hide e3
  clear e3 hne
  have m0 := Int.emod_nonneg (y2 - y1) (show (p : Int) ≠ 0 by omega)
  have m1 := Int.emod_lt_of_pos (y2 - y1) pp
  obtain ⟨i0, i1⟩ := iv_range (show 0 < p by omega) (x2 - x1)
  obtain ⟨k0, k1⟩ := mulBd (x := (y2 - y1) % (p : Int)) (y := iv p (x2 - x1)) (p := 2097152) (q := 2097152) m0 (by omega) i0 (by omega)
  have S0 : -(p : Int) < (y2 - y1) % (p : Int) * iv p (x2 - x1) % (p : Int) := by have := Int.emod_nonneg ((y2 - y1) % (p : Int) * iv p (x2 - x1)) (show (p : Int) ≠ 0 by omega); omega
  have S1 := Int.emod_lt_of_pos ((y2 - y1) % (p : Int) * iv p (x2 - x1)) pp
  go_enter Tryz.func89, Tryz.ntmps89
  go_wp2
  go_quiet (first | (go_at_call 118; exact Calls.quiet_of (l2Inv_iv _ p _ (by omega) (by omega) hpr (by omega) (by omega))) | (go_at_call 119; exact Calls.quiet_of_same (l2Left_any _ _ _ (by omega) (by omega) (by omega) (by omega))))
  generalize ((y2 - y1) % (p : Int) * iv p (x2 - x1) % (p : Int)) = S at *
  obtain ⟨q0, q1⟩ := sq_bd hp2 S0 S1
  go_wp2_with fail
  refine (l2Left_any _ _ _ (by omega) (by omega) (by omega) (by omega)).mono ?_
  rintro r w' ⟨rfl, hw⟩
  subst hw
  have X0 := Int.emod_nonneg (S * S - x1 - x2) (show (p : Int) ≠ 0 by omega)
  have X1 := Int.emod_lt_of_pos (S * S - x1 - x2) pp
  generalize (S * S - x1 - x2) % (p : Int) = X at *
  obtain ⟨u0, u1⟩ := abs_mul (T := S) (v := x1 - X) hp2 S0 S1 (by omega) (by omega)
  go_wp2_with fail
  refine (l2Left_any _ _ _ (by omega) (by omega) (by omega) (by omega)).mono ?_
  rintro r w' ⟨rfl, hw⟩
  subst hw
  generalize (S * (x1 - X) - y1) % (p : Int) = Y at *
  go_wp2
  refine bodyPost_ret (v := .agg #[.int .i64 X, .int .i64 Y, .bool false]) (by simp [results, Tryz.results89, go_sem]) rfl ⟨?_, ?_⟩
  · rw [HV.out]; rfl
  · repeat (first | exact Below.refl _ _ | refine Below.setCell ?_ (by simp <;> omega) _ | refine Below.alloc ?_ (by simp <;> omega) _ | refine below_drewN ?_ _)
end

end Go.Proofs.YtigjjkondbdgjaaGreatDoor
