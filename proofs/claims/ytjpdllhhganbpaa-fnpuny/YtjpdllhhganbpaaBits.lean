/- Plain facts on the model's bit operations of int: and with 65535, or of what does not meet, shifts. Nothing of the program. -/
import Derived.WalkKit
namespace Go.Proofs.Ytjpdllhhganbpaa
set_option linter.unusedVariables false

theorem ofInt64 (x : Int) : (BitVec.ofInt 64 x).toNat = (x % 18446744073709551616).toNat := by
  rw [BitVec.toNat_ofInt]; rfl

/-- 'x & 65535' is what is left of x by 65536, below 0 too. -/
theorem and_top (x : Int) : bits .and .i64 x 65535 = x % 65536 := by
  show IntKind.i64.wrap ((BitVec.ofInt 64 x &&& BitVec.ofInt 64 65535).toNat : Int) = _
  have h2 : (BitVec.ofInt 64 65535).toNat = 2 ^ 16 - 1 := by decide
  rw [BitVec.toNat_and, ofInt64, h2, Nat.and_two_pow_sub_one_eq_mod, IntKind.wrap_i64]
  omega

/-- 'a<<16 | b' with b a digit. -/
theorem or_low (a b : Int) (ha : 0 ≤ a) (ha' : a ≤ 70368744177664) (hb : 0 ≤ b) (hb' : b ≤ 65535) : bits .or .i64 (a * 65536) b = a * 65536 + b := by
  show IntKind.i64.wrap ((BitVec.ofInt 64 (a * 65536) ||| BitVec.ofInt 64 b).toNat : Int) = _
  obtain ⟨A, rfl⟩ := Int.eq_ofNat_of_zero_le ha
  obtain ⟨B, rfl⟩ := Int.eq_ofNat_of_zero_le hb
  have e1 : ((A : Int) * 65536 % 18446744073709551616).toNat = 2 ^ 16 * A := by omega
  have e2 : ((B : Int) % 18446744073709551616).toNat = B := by omega
  rw [BitVec.toNat_or, ofInt64, ofInt64, e1, e2, ← Nat.two_pow_add_eq_or_of_lt (by omega), IntKind.wrap_i64]
  omega

theorem and_one (x : Int) : bits .and .i64 x 1 = x % 2 := by
  show IntKind.i64.wrap ((BitVec.ofInt 64 x &&& BitVec.ofInt 64 1).toNat : Int) = _
  have h2 : (BitVec.ofInt 64 1).toNat = 2 ^ 1 - 1 := by decide
  rw [BitVec.toNat_and, ofInt64, h2, Nat.and_two_pow_sub_one_eq_mod, IntKind.wrap_i64]
  omega

/-- A bit that is told by a shift. -/
theorem bit_test (x k : Nat) : (bits .and .i64 ((x : Int) / 2 ^ k) 1 == 1) = decide (x / 2 ^ k % 2 = 1) := by
  rw [and_one]
  have e : (x : Int) / 2 ^ k = ((x / 2 ^ k : Nat) : Int) := by simp
  rw [e]
  generalize x / 2 ^ k = y
  by_cases h : y % 2 = 1
  · have : (y : Int) % 2 = 1 := by omega
    simp [h, this]
  · have : (y : Int) % 2 = 0 := by omega
    simp [h, this]

end Go.Proofs.Ytjpdllhhganbpaa
