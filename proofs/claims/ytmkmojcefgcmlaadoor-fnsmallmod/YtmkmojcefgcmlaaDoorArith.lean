/- Sums of digits with a carry, plain. Nothing of the program. Differences of digits with what is lacking, plain. Nothing of the program. Products of digits, plain: a digit changed, noughts above a value's end, one step of long multiplication. Nothing of the program. Division, plain: a digit times a list, one digit more, a guess of a digit. Nothing of the program. -/
import Derived.Test.YtmkmojcefgcmlaaDoorNum
namespace Go.Proofs.YtmkmojcefgcmlaaDoor
set_option linter.unusedVariables false

/-- The carry into a place. -/
def addC (A B : Nat → Int) : Nat → Int
  | 0 => 0
  | k + 1 => (A k + B k + addC A B k) / 65536

/-- The digit of the sum at a place. -/
def addD (A B : Nat → Int) (k : Nat) : Int := (A k + B k + addC A B k) % 65536

theorem addC_bd {A B : Nat → Int} (ha : ∀ i, 0 ≤ A i ∧ A i ≤ 65535) (hb : ∀ i, 0 ≤ B i ∧ B i ≤ 65535) (k : Nat) : 0 ≤ addC A B k ∧ addC A B k ≤ 1 := by
  induction k with
  | zero => simp [addC]
  | succ k ih =>
    have h1 := ha k
    have h2 := hb k
    simp only [addC]
    omega

theorem addD_bd (A B : Nat → Int) (k : Nat) : 0 ≤ addD A B k ∧ addD A B k ≤ 65535 := by unfold addD; omega

theorem add_inv (A B : Nat → Int) (k : Nat) : val (addD A B) k + addC A B k * pw k = val A k + val B k := by
  induction k with
  | zero => simp [val, addC]
  | succ k ih =>
    have e : A k + B k + addC A B k = addD A B k + 65536 * addC A B (k + 1) := by simp only [addD, addC]; omega
    simp only [val, pw]
    generalize addC A B (k + 1) = c2 at *
    generalize addC A B k = c1 at *
    generalize addD A B k = d at *
    grind

/-- A canonical list has at most 64 digits just when its value is below 65536 to the 64. -/
theorem canon_len {n : Nat} {f : Nat → Int} (h : Canon n f) (m : Nat) : n ≤ m ↔ val f n < pw m := by
  constructor
  · intro hn
    have := (val_bd h.digs).2
    have := pw_le hn
    omega
  · intro hv
    by_cases e : n ≤ m
    · exact e
    · obtain ⟨k, rfl⟩ : ∃ k, n = k + 1 := ⟨n - 1, by omega⟩
      have := h.low
      have := pw_le (show m ≤ k by omega)
      omega

/-- What is lacking at a place, when B is taken t times out of A. -/
def subL (A B : Nat → Int) (t : Int) : Nat → Int
  | 0 => 0
  | k + 1 => -((A k - subL A B t k - t * B k) / 65536)

/-- The digit that is left at a place. -/
def subD (A B : Nat → Int) (t : Int) (k : Nat) : Int := (A k - subL A B t k - t * B k) % 65536

theorem mul_digit {t d : Int} (ht : 0 ≤ t) (h0 : 0 ≤ d) (h1 : d ≤ 65535) : 0 ≤ t * d ∧ t * d ≤ t * 65535 :=
  ⟨Int.mul_nonneg ht h0, Int.mul_le_mul_of_nonneg_left h1 ht⟩

theorem subL_bd {A B : Nat → Int} {t : Int} (ht : 0 ≤ t) (ha : ∀ i, 0 ≤ A i ∧ A i ≤ 65535) (hb : ∀ i, 0 ≤ B i ∧ B i ≤ 65535) (k : Nat) : 0 ≤ subL A B t k ∧ subL A B t k ≤ t := by
  induction k with
  | zero => exact ⟨Int.le_refl _, ht⟩
  | succ k ih =>
    have h1 := ha k
    have h2 := mul_digit ht (hb k).1 (hb k).2
    simp only [subL]
    generalize t * B k = p at *
    omega

theorem subD_bd (A B : Nat → Int) (t : Int) (k : Nat) : 0 ≤ subD A B t k ∧ subD A B t k ≤ 65535 := by unfold subD; omega

theorem sub_inv (A B : Nat → Int) (t : Int) (k : Nat) : val (subD A B t) k + t * val B k = val A k + subL A B t k * pw k := by
  induction k with
  | zero => simp [val, subL]
  | succ k ih =>
    have e : A k - subL A B t k - t * B k = subD A B t k - 65536 * subL A B t (k + 1) := by simp only [subD, subL]; omega
    simp only [val, pw]
    generalize subL A B t (k + 1) = c2 at *
    generalize subL A B t k = c1 at *
    generalize subD A B t k = d at *
    grind

/-- Where so much is there, nothing is lacking at the end. -/
theorem sub_done {A B : Nat → Int} {t : Int} {n : Nat} (ht : 0 ≤ t) (ha : ∀ i, 0 ≤ A i ∧ A i ≤ 65535) (hb : ∀ i, 0 ≤ B i ∧ B i ≤ 65535) (h : t * val B n ≤ val A n) :
    subL A B t n = 0 ∧ val (subD A B t) n = val A n - t * val B n := by
  have i := sub_inv A B t n
  have b := (val_bd (f := subD A B t) (n := n) (fun i _ => subD_bd A B t i))
  have l := subL_bd ht ha hb n
  have p := pw_pos n
  have e : subL A B t n = 0 := by
    by_cases h0 : subL A B t n = 0
    · exact h0
    · have := Int.mul_le_mul_of_nonneg_right (show (1 : Int) ≤ subL A B t n by omega) (Int.le_of_lt p)
      omega
  refine ⟨e, ?_⟩
  rw [e] at i
  omega

/-- One place changed. -/
def upd (h : Nat → Int) (k : Nat) (x : Int) : Nat → Int := fun j => if j = k then x else h j

theorem upd_same (h : Nat → Int) (k : Nat) (x : Int) : upd h k x k = x := by simp [upd]
theorem upd_other {h : Nat → Int} {k j : Nat} {x : Int} (e : j ≠ k) : upd h k x j = h j := by simp [upd, e]

theorem upd_digs {h : Nat → Int} {n k : Nat} {x : Int} (hd : Digs h n) (h0 : 0 ≤ x) (h1 : x ≤ 65535) : Digs (upd h k x) n := by
  intro i hi
  by_cases e : i = k
  · subst e; rw [upd_same]; exact ⟨h0, h1⟩
  · rw [upd_other e]; exact hd i hi

theorem val_upd {h : Nat → Int} {n k : Nat} {x : Int} (hk : k < n) : val (upd h k x) n = val h n + (x - h k) * pw k := by
  induction n with
  | zero => omega
  | succ n ih =>
    simp only [val]
    by_cases e : k = n
    · subst e
      rw [upd_same, val_congr (f := upd h k x) (g := h) (fun i hi => upd_other (by omega))]
      grind
    · rw [ih (by omega), upd_other (by omega)]
      omega

/-- Above a value's end there are noughts. -/
theorem val_high {h : Nat → Int} {n m : Nat} (hd : Digs h n) (hv : val h n < pw m) : ∀ j, m ≤ j → j < n → h j = 0 := by
  induction n with
  | zero => intro j _ hj; omega
  | succ n ih =>
    have b := val_bd (hd.mono (Nat.le_succ n))
    have d := hd n (by omega)
    simp only [val] at hv
    intro j h1 h2
    have hm : m ≤ n := by omega
    have p := pw_le hm
    have pp := pw_pos n
    have hz : h n = 0 := by
      by_cases e : h n = 0
      · exact e
      · have := Int.mul_le_mul_of_nonneg_right (show (1 : Int) ≤ h n by omega) (Int.le_of_lt pp)
        omega
    by_cases e : j = n
    · subst e; exact hz
    · rw [hz] at hv
      exact ih (hd.mono (by omega)) (by omega) j h1 (by omega)

/-- One step of a row of long multiplication. -/
theorem mul_step {h g : Nat → Int} {N i k : Nat} {V d c x : Int} (hk : i + k < N) (hx : x = h (i + k) + d * g k + c) (inv : val h N + c * pw (i + k) = V + d * val g k * pw i) :
    val (upd h (i + k) (x % 65536)) N + x / 65536 * pw (i + (k + 1)) = V + d * val g (k + 1) * pw i := by
  rw [val_upd hk, show i + (k + 1) = (i + k) + 1 from rfl]
  have e : x = x % 65536 + 65536 * (x / 65536) := by omega
  generalize x % 65536 = r at *
  generalize x / 65536 = q at *
  simp only [val, pw]
  rw [pw_add] at *
  grind

theorem prod_bd {d y : Int} (h0 : 0 ≤ d) (h1 : d ≤ 65535) (y0 : 0 ≤ y) (y1 : y ≤ 65535) : 0 ≤ d * y ∧ d * y ≤ 4294836225 := by
  have a := Int.mul_le_mul_of_nonneg_right h1 y0
  exact ⟨Int.mul_nonneg h0 y0, by omega⟩

theorem val_mul_lt {f g : Nat → Int} {i n2 : Nat} (hf : Digs f i) (hg : Digs g n2) : 0 ≤ val f i * val g n2 ∧ val f i * val g n2 < pw (i + n2) := by
  have a := val_bd hf
  have b := val_bd hg
  have p := pw_pos n2
  refine ⟨Int.mul_nonneg a.1 b.1, ?_⟩
  have h1 := Int.mul_le_mul_of_nonneg_left (Int.le_of_lt b.2) a.1
  have h2 := Int.mul_lt_mul_of_pos_right a.2 p
  rw [pw_add]
  omega

/-- The carry when A is taken d times. -/
def tmC (A : Nat → Int) (d : Int) : Nat → Int
  | 0 => 0
  | k + 1 => (A k * d + tmC A d k) / 65536

/-- The digit of A taken d times. -/
def tmD (A : Nat → Int) (d : Int) (k : Nat) : Int := (A k * d + tmC A d k) % 65536

theorem tmC_bd {A : Nat → Int} {d : Int} (ha : ∀ i, 0 ≤ A i ∧ A i ≤ 65535) (h0 : 0 ≤ d) (h1 : d ≤ 65535) (k : Nat) : 0 ≤ tmC A d k ∧ tmC A d k ≤ 65535 := by
  induction k with
  | zero => exact ⟨Int.le_refl _, by show (0 : Int) ≤ 65535; omega⟩
  | succ k ih =>
    have p := prod_bd (ha k).1 (ha k).2 h0 h1
    simp only [tmC]
    generalize A k * d = x at *
    omega

theorem tmD_bd (A : Nat → Int) (d : Int) (k : Nat) : 0 ≤ tmD A d k ∧ tmD A d k ≤ 65535 := by unfold tmD; omega

theorem tm_inv (A : Nat → Int) (d : Int) (k : Nat) : val (tmD A d) k + tmC A d k * pw k = val A k * d := by
  induction k with
  | zero => simp [val, tmC]
  | succ k ih =>
    have e : A k * d + tmC A d k = tmD A d k + 65536 * tmC A d (k + 1) := by simp only [tmD, tmC]; omega
    simp only [val, pw]
    generalize tmC A d (k + 1) = c2 at *
    generalize tmC A d k = c1 at *
    generalize tmD A d k = x at *
    grind

/-- A digit ahead at the low end. -/
def consF (x : Int) (f : Nat → Int) : Nat → Int := fun j => if j = 0 then x else f (j - 1)

theorem val_consF (x : Int) (f : Nat → Int) (m : Nat) : val (consF x f) (m + 1) = x + 65536 * val f m := by
  rw [val_cons]
  rw [val_congr (f := fun j => consF x f (j + 1)) (g := f) (fun i _ => by simp [consF])]
  simp [consF]

theorem consF_digs {x : Int} {f : Nat → Int} {m : Nat} (h0 : 0 ≤ x) (h1 : x ≤ 65535) (hf : Digs f m) : Digs (consF x f) (m + 1) := by
  intro i hi
  by_cases e : i = 0
  · subst e; simp [consF]; omega
  · simp only [consF, if_neg e]; exact hf _ (by omega)

/-- A quotient is told by two bounds. -/
theorem quo_eq {r v q : Int} (hv : 0 < v) (h1 : q * v ≤ r) (h2 : r < (q + 1) * v) : r / v = q := by
  have a := Int.le_ediv_of_mul_le hv h1
  have b := Int.ediv_lt_of_lt_mul hv h2
  omega

/-- The guess by the two highest digits is right, or one too high. -/
theorem guess_ok {A3 B2 P al bl : Int} (hP : 0 < P) (ha0 : 0 ≤ al) (ha1 : al < P) (hb0 : 0 ≤ bl) (hb1 : bl < P) (hB : 65536 ≤ B2) (hA : 0 ≤ A3) (hlt : A3 * P + al < 65536 * (B2 * P + bl)) :
    A3 / B2 = (A3 * P + al) / (B2 * P + bl) ∨ A3 / B2 = (A3 * P + al) / (B2 * P + bl) + 1 := by
  have hBP : 0 < B2 * P := Int.mul_pos (by omega) hP
  have hv : 0 < B2 * P + bl := by omega
  have hAP : 0 ≤ A3 * P := Int.mul_nonneg hA (by omega)
  have q0 : 0 ≤ (A3 * P + al) / (B2 * P + bl) := Int.ediv_nonneg (by omega) (by omega)
  have q1 : (A3 * P + al) / (B2 * P + bl) < 65536 := Int.ediv_lt_of_lt_mul hv (by omega)
  have q2 := Int.mul_ediv_self_le (x := A3 * P + al) (k := B2 * P + bl) (by omega)
  have q3 := Int.lt_mul_ediv_self_add (x := A3 * P + al) (k := B2 * P + bl) hv
  generalize hQ : (A3 * P + al) / (B2 * P + bl) = Q at *
  -- Q B2 ≤ A3
  have u1 : Q * B2 ≤ A3 := by
    have e : (Q * B2) * P ≤ A3 * P + al := by
      have : Q * (B2 * P + bl) = Q * B2 * P + Q * bl := by grind
      have n := Int.mul_nonneg q0 hb0
      rw [Int.mul_comm] at q2
      omega
    by_cases h : Q * B2 ≤ A3
    · exact h
    · have m := Int.mul_le_mul_of_nonneg_right (show A3 + 1 ≤ Q * B2 by omega) (Int.le_of_lt hP)
      rw [Int.add_mul, Int.one_mul] at m
      omega
  -- A3 < (Q + 2) B2
  have u2 : A3 < (Q + 2) * B2 := by
    by_cases h : A3 < (Q + 2) * B2
    · exact h
    · have m := Int.mul_le_mul_of_nonneg_right (show (Q + 2) * B2 ≤ A3 by omega) (Int.le_of_lt hP)
      have n := Int.mul_le_mul_of_nonneg_left (show bl ≤ P by omega) (show 0 ≤ Q + 1 by omega)
      have e1 : (B2 * P + bl) * Q + (B2 * P + bl) = (Q + 1) * B2 * P + (Q + 1) * bl := by grind
      have e2 : (Q + 2) * B2 * P = (Q + 1) * B2 * P + B2 * P := by grind
      have e3 := Int.mul_le_mul_of_nonneg_right (show Q + 1 ≤ B2 by omega) (Int.le_of_lt hP)
      omega
  have g1 := Int.le_ediv_of_mul_le (show 0 < B2 by omega) u1
  have g2 := Int.ediv_lt_of_lt_mul (show 0 < B2 by omega) u2
  omega

end Go.Proofs.YtmkmojcefgcmlaaDoor
