/- Numbers of many digits, plain: the value of a list of digits to the base 65536, its bounds, and that a list without noughts at its end is told by its value. Nothing of the program. -/
import Derived.WalkKit
namespace Go.Proofs.YtdaneanloknkpabDoor
set_option linter.unusedVariables false

/-- 65536 to a power. -/
def pw : Nat → Int
  | 0 => 1
  | k + 1 => pw k * 65536

theorem pw_pos (k : Nat) : 0 < pw k := by
  induction k with
  | zero => simp [pw]
  | succ k ih => simp only [pw]; omega

theorem pw_add (a b : Nat) : pw (a + b) = pw a * pw b := by
  induction b with
  | zero => simp [pw]
  | succ b ih => rw [← Nat.add_assoc]; simp only [pw, ih]; grind

theorem pw_le {a b : Nat} (h : a ≤ b) : pw a ≤ pw b := by
  induction b with
  | zero => obtain rfl : a = 0 := by omega
            exact Int.le_refl _
  | succ b ih =>
    by_cases e : a = b + 1
    · subst e; exact Int.le_refl _
    · have := ih (by omega)
      have := pw_pos b
      simp only [pw]
      omega

/-- The value of the first n digits. -/
def val (f : Nat → Int) : Nat → Int
  | 0 => 0
  | n + 1 => val f n + f n * pw n

theorem val_congr {f g : Nat → Int} {n : Nat} (h : ∀ i, i < n → f i = g i) : val f n = val g n := by
  induction n with
  | zero => rfl
  | succ n ih => simp only [val]; rw [ih (fun i hi => h i (by omega)), h n (by omega)]

/-- The first n are digits. -/
def Digs (f : Nat → Int) (n : Nat) : Prop := ∀ i, i < n → 0 ≤ f i ∧ f i ≤ 65535

theorem Digs.mono {f : Nat → Int} {n m : Nat} (h : Digs f n) (hm : m ≤ n) : Digs f m := fun i hi => h i (by omega)

theorem Digs.congr {f g : Nat → Int} {n : Nat} (h : Digs f n) (e : ∀ i, i < n → f i = g i) : Digs g n := fun i hi => by rw [← e i hi]; exact h i hi

theorem mul_bd {d P : Int} (hP : 0 ≤ P) (h0 : 0 ≤ d) (h1 : d ≤ 65535) : 0 ≤ d * P ∧ d * P ≤ 65535 * P :=
  ⟨Int.mul_nonneg h0 hP, Int.mul_le_mul_of_nonneg_right h1 hP⟩

theorem val_bd {f : Nat → Int} {n : Nat} (h : Digs f n) : 0 ≤ val f n ∧ val f n < pw n := by
  induction n with
  | zero => simp [val, pw]
  | succ n ih =>
    have h1 := ih (h.mono (by omega))
    have h2 := h n (by omega)
    have h3 := mul_bd (d := f n) (Int.le_of_lt (pw_pos n)) h2.1 h2.2
    simp only [val, pw]
    omega

/-- Quotient and rest are told by the sum. -/
theorem split_eq {a b r s P : Int} (hr : 0 ≤ r) (hr' : r < P) (hs : 0 ≤ s) (hs' : s < P) (h : r + a * P = s + b * P) : a = b ∧ r = s := by
  have hP : 0 ≤ P := by omega
  have key : ∀ x y u v : Int, 0 ≤ u → u < P → 0 ≤ v → v < P → u + x * P = v + y * P → ¬ x < y := by
    intro x y u v h1 h2 h3 h4 h5 hlt
    have h6 : (x + 1) * P ≤ y * P := Int.mul_le_mul_of_nonneg_right (by omega) hP
    rw [Int.add_mul, Int.one_mul] at h6
    omega
  have h1 := key a b r s hr hr' hs hs' h
  have h2 := key b a s r hs hs' hr hr' h.symm
  obtain rfl : a = b := by omega
  exact ⟨rfl, by omega⟩

theorem digs_unique {f g : Nat → Int} {n : Nat} (hf : Digs f n) (hg : Digs g n) (h : val f n = val g n) : ∀ i, i < n → f i = g i := by
  induction n with
  | zero => intro i hi; omega
  | succ n ih =>
    simp only [val] at h
    have b1 := val_bd (hf.mono (Nat.le_succ n))
    have b2 := val_bd (hg.mono (Nat.le_succ n))
    obtain ⟨e1, e2⟩ := split_eq b1.1 b1.2 b2.1 b2.2 h
    intro i hi
    by_cases e : i = n
    · subst e; exact e1
    · exact ih (hf.mono (by omega)) (hg.mono (by omega)) e2 i (by omega)

/-- Digits, the last one not 0. -/
structure Canon (n : Nat) (f : Nat → Int) : Prop where
  digs : Digs f n
  last : n = 0 ∨ f (n - 1) ≠ 0

theorem Canon.congr {f g : Nat → Int} {n : Nat} (h : Canon n f) (e : ∀ i, i < n → f i = g i) : Canon n g :=
  ⟨h.digs.congr e, by
    by_cases h0 : n = 0
    · exact .inl h0
    · exact .inr (by rw [← e (n - 1) (by omega)]; exact h.last.resolve_left h0)⟩

/-- A list without noughts at its end is as long as its value asks. -/
theorem Canon.low {f : Nat → Int} {n : Nat} (h : Canon (n + 1) f) : pw n ≤ val f (n + 1) := by
  have b := val_bd (h.digs.mono (Nat.le_succ n))
  have d := h.digs n (by omega)
  have hl : f n ≠ 0 := by simpa using h.last
  have := Int.mul_le_mul_of_nonneg_right (show (1 : Int) ≤ f n by omega) (Int.le_of_lt (pw_pos n))
  simp only [val]
  omega

theorem canon_lt {f g : Nat → Int} {n m : Nat} (hf : Digs f n) (hg : Canon m g) (h : n < m) : val f n < val g m := by
  obtain ⟨k, rfl⟩ : ∃ k, m = k + 1 := ⟨m - 1, by omega⟩
  have h1 := (val_bd hf).2
  have h2 := pw_le (show n ≤ k by omega)
  have h3 := hg.low
  omega

theorem canon_unique {f g : Nat → Int} {n m : Nat} (hf : Canon n f) (hg : Canon m g) (h : val f n = val g m) : n = m ∧ ∀ i, i < n → f i = g i := by
  have e : n = m := by
    rcases Nat.lt_trichotomy n m with hlt | rfl | hlt
    · have := canon_lt hf.digs hg hlt; omega
    · rfl
    · have := canon_lt hg.digs hf hlt; omega
  subst e
  exact ⟨rfl, digs_unique hf.digs hg.digs h⟩

/-- The digit of x at a place. -/
def dgt (x : Int) (i : Nat) : Int := x / pw i % 65536

theorem dgt_bd (x : Int) (i : Nat) : 0 ≤ dgt x i ∧ dgt x i ≤ 65535 := by unfold dgt; omega

theorem div_step {x : Int} (k : Nat) : x / pw k / 65536 = x / pw (k + 1) := by
  simp only [pw]
  rw [Int.ediv_ediv_of_nonneg (Int.le_of_lt (pw_pos k))]

theorem val_dgt (x : Int) (k : Nat) : val (dgt x) k + x / pw k * pw k = x := by
  induction k with
  | zero => simp [val, pw]
  | succ k ih =>
    simp only [val]
    rw [← div_step]
    have e : x / pw k = dgt x k + 65536 * (x / pw k / 65536) := by unfold dgt; omega
    generalize x / pw k = q at *
    generalize q / 65536 = q2 at *
    generalize dgt x k = d at *
    simp only [pw]
    grind

theorem div_small {x : Int} {k : Nat} (h0 : 0 ≤ x) (h : x < pw k) : x / pw k = 0 := Int.ediv_eq_zero_of_lt h0 h

theorem div_nonneg {x : Int} (k : Nat) (h0 : 0 ≤ x) : 0 ≤ x / pw k := Int.ediv_nonneg h0 (Int.le_of_lt (pw_pos k))

/-- The digits of x, as many as it has. -/
theorem canon_dgt {x : Int} {k : Nat} (h0 : x / pw k = 0) (hl : k = 0 ∨ 0 < x / pw (k - 1)) : Canon k (dgt x) ∧ val (dgt x) k = x := by
  have hv := val_dgt x k
  rw [h0] at hv
  refine ⟨⟨fun i _ => dgt_bd x i, ?_⟩, by omega⟩
  rcases hl with hl | hl
  · exact .inl hl
  · by_cases e : k = 0
    · exact .inl e
    · obtain ⟨j, rfl⟩ : ∃ j, k = j + 1 := ⟨k - 1, by omega⟩
      rw [← div_step] at h0
      refine .inr ?_
      simp only [Nat.add_sub_cancel] at hl ⊢
      unfold dgt
      omega

theorem pow_pw (k : Nat) : (2 : Int) ^ (16 * k) = pw k := by
  induction k with
  | zero => simp [pw]
  | succ k ih => rw [Nat.mul_succ, Int.pow_add, ih]; simp [pw]

theorem val_split (f : Nat → Int) (k m : Nat) : val f (k + m) = val f k + val (fun j => f (k + j)) m * pw k := by
  induction m with
  | zero => simp [val]
  | succ m ih =>
    rw [← Nat.add_assoc]
    simp only [val]
    rw [ih, pw_add]
    grind

theorem val_cons (f : Nat → Int) (m : Nat) : val f (m + 1) = f 0 + 65536 * val (fun j => f (j + 1)) m := by
  have h := val_split f 1 m
  rw [Nat.add_comm] at h
  rw [h]
  simp only [val, pw]
  rw [val_congr (g := fun j => f (j + 1)) (fun i _ => by rw [Nat.add_comm])]
  grind


/-- One digit more at the low end. -/
theorem step_top (f : Nat → Int) {n m : Nat} (h : m < n) : val (fun j => f (m + 1 + j)) (n - (m + 1)) * 65536 + f m = val (fun j => f (m + j)) (n - m) := by
  obtain ⟨r, rfl⟩ : ∃ r, n = m + 1 + r := ⟨n - (m + 1), by omega⟩
  rw [show m + 1 + r - m = r + 1 by omega, show m + 1 + r - (m + 1) = r by omega, val_cons]
  rw [val_congr (f := fun j => f (m + 1 + j)) (g := fun j => f (m + (j + 1))) (fun i _ => by rw [show m + 1 + i = m + (i + 1) by omega])]
  simp only [Nat.add_zero]
  omega

end Go.Proofs.YtdaneanloknkpabDoor
