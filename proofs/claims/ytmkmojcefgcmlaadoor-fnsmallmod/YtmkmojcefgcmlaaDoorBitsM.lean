/- Plain numbers: the bits of a list of digits. Nothing of the program. -/
import Derived.Test.YtmkmojcefgcmlaaDoorBitLen
import Derived.Test.YtmkmojcefgcmlaaDoorLen
namespace Go.Proofs.YtmkmojcefgcmlaaDoor
set_option linter.unusedVariables false
open Go.RowKit

theorem pow_split (i : Nat) : (2 : Int) ^ i = pw (i / 16) * 2 ^ (i % 16) := by
  rw [← pow_pw, ← Int.pow_add, Nat.div_add_mod]

theorem bits_nonneg (n : Nat) (f : Nat → Int) : 0 ≤ bitsOf n f := by
  unfold bitsOf
  by_cases h : n = 0
  · rw [if_pos h]; omega
  · rw [if_neg h]; omega

theorem bits_le16 {n : Nat} {f : Nat → Int} (hd : Digs f n) : bitsOf n f ≤ 16 * n := by
  unfold bitsOf
  by_cases h : n = 0
  · rw [if_pos h]; omega
  · rw [if_neg h]
    have d := hd (n - 1) (by omega)
    have := bitLen_le16 (f (n - 1)) d.1 d.2
    omega

/-- A number is below the power of 2 that its bits tell. -/
theorem val_lt_bits {n : Nat} {f : Nat → Int} (hd : Digs f n) : val f n < 2 ^ (bitsOf n f).toNat := by
  by_cases h : n = 0
  · subst h; simp [val, bitsOf]
  · obtain ⟨m, rfl⟩ : ∃ m, n = m + 1 := ⟨n - 1, by omega⟩
    have d := hd m (by omega)
    have b := val_bd (hd.mono (show m ≤ m + 1 by omega))
    have l := bitLen_lt (f m).toNat (by omega)
    have e : (bitsOf (m + 1) f).toNat = 16 * m + Lib.bitLen (f m).toNat := by
      simp only [bitsOf, if_neg h, Nat.add_sub_cancel]
      omega
    rw [e, Int.pow_add, pow_pw]
    have l2 : f m < 2 ^ Lib.bitLen (f m).toNat := by
      have : ((f m).toNat : Int) < ((2 ^ Lib.bitLen (f m).toNat : Nat) : Int) := by omega
      rw [Int.natCast_pow] at this
      have e2 : ((f m).toNat : Int) = f m := by omega
      rwa [e2] at this
    have p := Int.mul_le_mul_of_nonneg_left (show f m + 1 ≤ 2 ^ Lib.bitLen (f m).toNat by omega) (Int.le_of_lt (pw_pos m))
    rw [Int.mul_add, Int.mul_one] at p
    have ev : val f (m + 1) = val f m + f m * pw m := rfl
    rw [ev, Int.mul_comm (f m)]
    omega

/-- A bit of a number is one of its digit's. -/
theorem val_bit {n : Nat} {f : Nat → Int} (hd : Digs f n) {i : Nat} (hi : i / 16 < n) : val f n / 2 ^ i % 2 = f (i / 16) / 2 ^ (i % 16) % 2 := by
  have hs := val_split f (i / 16) (n - i / 16)
  rw [show i / 16 + (n - i / 16) = n by omega] at hs
  obtain ⟨m, hm⟩ : ∃ m, n - i / 16 = m + 1 := ⟨n - i / 16 - 1, by omega⟩
  rw [hm, val_cons] at hs
  simp only [Nat.add_zero] at hs
  have b := val_bd (hd.mono (show i / 16 ≤ n by omega))
  have p := pw_pos (i / 16)
  generalize val (fun j => f (i / 16 + (j + 1))) m = r at hs
  have e1 : val f n / pw (i / 16) = f (i / 16) + 65536 * r := by
    rw [hs, Int.add_mul_ediv_right _ _ (by omega), Int.ediv_eq_zero_of_lt b.1 b.2, Int.zero_add]
  rw [pow_split, ← Int.ediv_ediv_of_nonneg (Int.le_of_lt p), e1]
  have h16 : i % 16 < 16 := Nat.mod_lt _ (by omega)
  generalize i % 16 = j at *
  generalize f (i / 16) = x
  have e2 : (65536 : Int) = 2 ^ j * 2 ^ (16 - j) := by
    rw [← Int.pow_add, show j + (16 - j) = 16 by omega]; rfl
  have e3 : (2 : Int) ^ (16 - j) = 2 * 2 ^ (15 - j) := by
    rw [show 16 - j = (15 - j) + 1 by omega, Int.pow_succ, Int.mul_comm]
  have pj : (0 : Int) < 2 ^ j := Int.pow_pos (by omega)
  rw [e2, Int.mul_assoc, Int.add_mul_ediv_left _ _ (by omega), e3, Int.mul_assoc, Int.add_mul_emod_self_left]

end Go.Proofs.YtmkmojcefgcmlaaDoor
