/- Sums of digits with a carry, plain. Nothing of the program. -/
import Derived.Test.YtmkmojcefgcmlaaNum
namespace Go.Proofs.Ytmkmojcefgcmlaa
set_option linter.unusedVariables false

/-- The carry into a place. -/
def addC (A B : Nat → Int) : Nat → Int
  | 0 => 0
  | k + 1 => (A k + B k + addC A B k) / 65536

/-- The digit of the sum at a place. -/
def addD (A B : Nat → Int) (k : Nat) : Int := (A k + B k + addC A B k) % 65536

theorem addC_bd {A B : Nat → Int} (ha : ∀ i, 0 ≤ A i ∧ A i ≤ 65535) (hb : ∀ i, 0 ≤ B i ∧ B i ≤ 65535) (k : Nat) : 0 ≤ addC A B k ∧ addC A B k ≤ 1 := by
  induction k with
  | zero => simp [addC]
  | succ k ih =>
    have h1 := ha k
    have h2 := hb k
    simp only [addC]
    omega

theorem addD_bd (A B : Nat → Int) (k : Nat) : 0 ≤ addD A B k ∧ addD A B k ≤ 65535 := by unfold addD; omega

theorem add_inv (A B : Nat → Int) (k : Nat) : val (addD A B) k + addC A B k * pw k = val A k + val B k := by
  induction k with
  | zero => simp [val, addC]
  | succ k ih =>
    have e : A k + B k + addC A B k = addD A B k + 65536 * addC A B (k + 1) := by simp only [addD, addC]; omega
    simp only [val, pw]
    generalize addC A B (k + 1) = c2 at *
    generalize addC A B k = c1 at *
    generalize addD A B k = d at *
    grind

/-- A canonical list has at most 64 digits just when its value is below 65536 to the 64. -/
theorem canon_len {n : Nat} {f : Nat → Int} (h : Canon n f) (m : Nat) : n ≤ m ↔ val f n < pw m := by
  constructor
  · intro hn
    have := (val_bd h.digs).2
    have := pw_le hn
    omega
  · intro hv
    by_cases e : n ≤ m
    · exact e
    · obtain ⟨k, rfl⟩ : ∃ k, n = k + 1 := ⟨n - 1, by omega⟩
      have := h.low
      have := pw_le (show m ≤ k by omega)
      omega

end Go.Proofs.Ytmkmojcefgcmlaa
