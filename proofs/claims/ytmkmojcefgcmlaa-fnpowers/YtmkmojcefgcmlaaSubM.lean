/- Differences of digits with what is lacking, plain. Nothing of the program. -/
import Derived.Test.YtmkmojcefgcmlaaNum
namespace Go.Proofs.Ytmkmojcefgcmlaa
set_option linter.unusedVariables false

/-- What is lacking at a place, when B is taken t times out of A. -/
def subL (A B : Nat → Int) (t : Int) : Nat → Int
  | 0 => 0
  | k + 1 => -((A k - subL A B t k - t * B k) / 65536)

/-- The digit that is left at a place. -/
def subD (A B : Nat → Int) (t : Int) (k : Nat) : Int := (A k - subL A B t k - t * B k) % 65536

theorem mul_digit {t d : Int} (ht : 0 ≤ t) (h0 : 0 ≤ d) (h1 : d ≤ 65535) : 0 ≤ t * d ∧ t * d ≤ t * 65535 :=
  ⟨Int.mul_nonneg ht h0, Int.mul_le_mul_of_nonneg_left h1 ht⟩

theorem subL_bd {A B : Nat → Int} {t : Int} (ht : 0 ≤ t) (ha : ∀ i, 0 ≤ A i ∧ A i ≤ 65535) (hb : ∀ i, 0 ≤ B i ∧ B i ≤ 65535) (k : Nat) : 0 ≤ subL A B t k ∧ subL A B t k ≤ t := by
  induction k with
  | zero => exact ⟨Int.le_refl _, ht⟩
  | succ k ih =>
    have h1 := ha k
    have h2 := mul_digit ht (hb k).1 (hb k).2
    simp only [subL]
    generalize t * B k = p at *
    omega

theorem subD_bd (A B : Nat → Int) (t : Int) (k : Nat) : 0 ≤ subD A B t k ∧ subD A B t k ≤ 65535 := by unfold subD; omega

theorem sub_inv (A B : Nat → Int) (t : Int) (k : Nat) : val (subD A B t) k + t * val B k = val A k + subL A B t k * pw k := by
  induction k with
  | zero => simp [val, subL]
  | succ k ih =>
    have e : A k - subL A B t k - t * B k = subD A B t k - 65536 * subL A B t (k + 1) := by simp only [subD, subL]; omega
    simp only [val, pw]
    generalize subL A B t (k + 1) = c2 at *
    generalize subL A B t k = c1 at *
    generalize subD A B t k = d at *
    grind

/-- Where so much is there, nothing is lacking at the end. -/
theorem sub_done {A B : Nat → Int} {t : Int} {n : Nat} (ht : 0 ≤ t) (ha : ∀ i, 0 ≤ A i ∧ A i ≤ 65535) (hb : ∀ i, 0 ≤ B i ∧ B i ≤ 65535) (h : t * val B n ≤ val A n) :
    subL A B t n = 0 ∧ val (subD A B t) n = val A n - t * val B n := by
  have i := sub_inv A B t n
  have b := (val_bd (f := subD A B t) (n := n) (fun i _ => subD_bd A B t i))
  have l := subL_bd ht ha hb n
  have p := pw_pos n
  have e : subL A B t n = 0 := by
    by_cases h0 : subL A B t n = 0
    · exact h0
    · have := Int.mul_le_mul_of_nonneg_right (show (1 : Int) ≤ subL A B t n by omega) (Int.le_of_lt p)
      omega
  refine ⟨e, ?_⟩
  rw [e] at i
  omega

end Go.Proofs.Ytmkmojcefgcmlaa
