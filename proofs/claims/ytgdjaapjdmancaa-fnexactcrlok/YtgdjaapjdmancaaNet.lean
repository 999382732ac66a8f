/- Walks: four numbers, InNet of both. -/
import Derived.Test.YtgdjaapjdmancaaLists
import Derived.Test.YtgdjaapjdmancaaNatOk
import Derived.Test.YtgdjaapjdmancaaBits
import Derived.Deep.RegionWith
namespace Go.Proofs.Ytgdjaapjdmancaa
set_option linter.unusedVariables false
set_option linter.unusedSimpArgs false
open Go.RowKit

/-- Four numbers of 0 .. 255. -/
def octs (f : Nat → Int) : Nat → Bool
  | 0 => true
  | n + 1 => octs f n && (decide (0 ≤ f n) && decide (f n ≤ 255))
theorem octs_iff (f : Nat → Int) (n : Nat) : octs f n = true ↔ ∀ i, i < n → 0 ≤ f i ∧ f i ≤ 255 := by
  induction n with
  | zero => simp [octs]
  | succ n ih =>
    simp only [octs, Bool.and_eq_true, ih, decide_eq_true_eq]
    constructor
    · rintro ⟨h, h0, h1⟩ i hi
      by_cases e : i = n
      · subst e; exact ⟨h0, h1⟩
      · exact h i (by omega)
    · intro h
      exact ⟨fun i hi => h i (by omega), (h n (by omega)).1, (h n (by omega)).2⟩
def fourB (n : Nat) (f : Nat → Int) : Bool := octs f n && decide (n = 4)
theorem four_no {f : Nat → Int} {n k : Nat} (hk : k < n) (h : f k < 0 ∨ 255 < f k) : fourB n f = false := by
  unfold fourB
  cases e : octs f n with
  | false => rfl
  | true => have := (octs_iff f n).1 e k hk; omega
theorem four_end {f : Nat → Int} {n : Nat} (h : ∀ i, i < n → 0 ≤ f i ∧ f i ≤ 255) : fourB n f = decide (n = 4) := by
  unfold fourB
  rw [(octs_iff f n).2 h, Bool.true_and]
theorem four_is {f : Nat → Int} {n : Nat} (h : fourB n f = true) : n = 4 ∧ ∀ i, i < 4 → 0 ≤ f i ∧ f i ≤ 255 := by
  unfold fourB at h
  simp only [Bool.and_eq_true, decide_eq_true_eq] at h
  obtain ⟨h1, rfl⟩ := h
  exact ⟨rfl, (octs_iff f 4).1 h1⟩

/-- The number that an address is. -/
def whole (f : Nat → Int) : Int := f 0 * 16777216 + f 1 * 65536 + f 2 * 256 + f 3

theorem or_byteN (a b : Int) (ha : 0 ≤ a) (ha' : a ≤ 16777215) (hb : 0 ≤ b) (hb' : b ≤ 255) : bits .or .i64 (a * 256) b = a * 256 + b := by
  show IntKind.i64.wrap ((BitVec.ofInt 64 (a * 256) ||| BitVec.ofInt 64 b).toNat : Int) = _
  obtain ⟨A, rfl⟩ := Int.eq_ofNat_of_zero_le ha
  obtain ⟨B, rfl⟩ := Int.eq_ofNat_of_zero_le hb
  have e1 : ((A : Int) * 256 % 18446744073709551616).toNat = 2 ^ 8 * A := by omega
  have e2 : ((B : Int) % 18446744073709551616).toNat = B := by omega
  rw [BitVec.toNat_or, ofInt64, ofInt64, e1, e2, ← Nat.two_pow_add_eq_or_of_lt (by omega), IntKind.wrap_i64]
  omega

def wholeK (f : Nat → Int) : Nat → Int
  | 0 => 0
  | k + 1 => wholeK f k * 256 + f k

/-- What is left of a number when the low bits go. -/
def lowCut (x : Int) (bits : Int) : Int := x / 2 ^ (32 - bits).toNat
def netB (n : Nat) (f : Nat → Int) (bits : Int) (m : Nat) (g : Nat → Int) : Bool :=
  fourB n f && (fourB m g && (decide (0 ≤ bits) && decide (bits ≤ 32) && (lowCut (whole f) bits == lowCut (whole g) bits)))

end Go.Proofs.Ytgdjaapjdmancaa
