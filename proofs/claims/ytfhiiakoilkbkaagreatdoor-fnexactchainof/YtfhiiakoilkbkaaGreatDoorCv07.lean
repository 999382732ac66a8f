/- Plain numbers: powers by squaring, inverses by Euclid's rule. Nothing of the program. Numbers of many digits, plain: the value of a list of digits to the base 65536, its bounds, and that a list without noughts at its end is told by its value. Nothing of the program. Walks: bits.Len of a digit, and the program's digitsBits: how many bits a list of digits has. Walks: bits.Len of any number: how many bits it has. Plain facts on the model's bit operations of int: and with 65535, or of what does not meet, shifts. Nothing of the program. Walks: powers of numbers: the model's l2Pow and PowInt, the program's intPower and PowInt. Walks: inverses of numbers: the model's l2Left, l2Inv and InvInt, the program's intRest and InvInt. Plain numbers: Fermat's theorem, Euler's rule and square roots by a prime number. Nothing of the program. Walks: PrimeInt, of the model and of the program: whether a number is prime. -/
import Derived.Lib.BitFns
import Derived.Lib.Tables
import Derived.Test.YtfhiiakoilkbkaaGreatDoorCv06
namespace Go.Proofs.YtfhiiakoilkbkaaGreatDoor
set_option linter.unusedVariables false
set_option linter.unusedSimpArgs false
section
theorem pow_odd (o b x m : Nat) (h : x % 2 = 1) : (o * b % m) * (b * b % m) ^ (x / 2) % m = o * b ^ x % m := by
 have e : b ^ x = b * (b * b) ^ (x / 2) := by
  conv => lhs; rw [show x = 1 + 2 * (x / 2) by omega, Nat.pow_add, Nat.pow_mul, Nat.pow_two, Nat.pow_one]
 rw [e, Nat.mul_mod, Nat.mod_mod, ← Nat.pow_mod, ← Nat.mul_mod, ← Nat.mul_assoc]
theorem pow_even (o b x m : Nat) (h : x % 2 = 0) : o * (b * b % m) ^ (x / 2) % m = o * b ^ x % m := by
 have e : b ^ x = (b * b) ^ (x / 2) := by
  conv => lhs; rw [show x = 2 * (x / 2) by omega, Nat.pow_mul, Nat.pow_two]
 rw [e, Nat.mul_mod, ← Nat.pow_mod, ← Nat.mul_mod]
theorem pow_start (a e m : Nat) : 1 % m * (a % m) ^ e % m = a ^ e % m := by
 rw [Nat.mul_mod, Nat.mod_mod, ← Nat.pow_mod, ← Nat.mul_mod, Nat.one_mul]
theorem mul_small {x y m : Nat} (hm : m ≤ 1073741824) (hx : x < m) (hy : y < m) : (x : Int) * (y : Int) ≤ 1152921504606846976 := by
 have : x * y ≤ 1073741824 * 1073741824 := Nat.mul_le_mul (by omega) (by omega)
 have h2 : ((x * y : Nat) : Int) ≤ 1152921504606846976 := by omega
 rwa [Int.natCast_mul] at h2
structure Euclid (m a R S : Nat) (X Y : Int) : Prop where
 lt : S < R
 gcd : Nat.gcd R S = Nat.gcd m a
 dx : (m : Int) ∣ X * a - R
 dy : (m : Int) ∣ Y * a - S
 bd : ∃ U V : Nat, ((X = U ∧ Y = -(V : Int)) ∨ (X = -(U : Int) ∧ Y = V)) ∧ U * S + V * R = m ∧ U ≤ V
theorem euclid_start {m a : Nat} (h : a < m) : Euclid m a m a 0 1 :=
 ⟨h, rfl, ⟨-1, by omega⟩, ⟨0, by omega⟩, 0, 1, Or.inr ⟨by omega, by omega⟩, by omega, by omega⟩
theorem Euclid.step {m a R S : Nat} {X Y : Int} (h : Euclid m a R S X Y) (hS : 0 < S) : Euclid m a S (R % S) Y (X - (R / S : Nat) * Y) := by
 refine ⟨Nat.mod_lt _ hS, ?_, h.dy, ?_, ?_⟩
 ·rw [← h.gcd, Nat.gcd_comm R S, Nat.gcd_rec S R, Nat.gcd_comm]
 ·obtain ⟨c, hc⟩ := h.dx
  obtain ⟨d, hd⟩ := h.dy
  refine ⟨c - (R / S : Nat) * d, ?_⟩
  have e : (R : Int) = S * (R / S : Nat) + (R % S : Nat) := by
   have := Nat.div_add_mod R S
   rw [← Int.natCast_mul]; omega
  grind
 ·obtain ⟨U, V, hs, hm, hle⟩ := h.bd
  have hq : 1 ≤ R / S := (Nat.le_div_iff_mul_le hS).2 (by have := h.lt; omega)
  refine ⟨V, U + R / S * V, ?_, ?_, ?_⟩
  ·rcases hs with ⟨rfl, rfl⟩ | ⟨rfl, rfl⟩
   ·right
    refine ⟨rfl, ?_⟩
    rw [Int.natCast_add, Int.natCast_mul]; grind
   ·left
    refine ⟨rfl, ?_⟩
    rw [Int.natCast_add, Int.natCast_mul]; grind
  ·have := Nat.div_add_mod R S
   generalize R / S = q at *
   generalize R % S = t at *
   subst this
   grind
  ·have : 1 * V ≤ R / S * V := Nat.mul_le_mul_right V hq
   omega
theorem Euclid.small {m a R S : Nat} {X Y : Int} (h : Euclid m a R S X Y) : X ≤ m ∧ -(m : Int) ≤ X ∧ Y ≤ m ∧ -(m : Int) ≤ Y := by
 obtain ⟨U, V, hs, hm, hle⟩ := h.bd
 have hV : V * 1 ≤ V * R := Nat.mul_le_mul_left V (by have := h.lt; omega)
 have : V ≤ m := by omega
 rcases hs with ⟨rfl, rfl⟩ | ⟨rfl, rfl⟩ <;> omega
theorem Euclid.small_mul {m a R S : Nat} {X Y : Int} (h : Euclid m a R S X Y) (hS : 0 < S) : (R / S : Nat) * Y ≤ m ∧ -(m : Int) ≤ (R / S : Nat) * Y := by
 have k := (h.step hS).small
 have l := h.small
 obtain ⟨U, V, hs, hm, hle⟩ := h.bd
 have z : 0 ≤ ((R / S : Nat) : Int) * (V : Int) := Int.mul_nonneg (Int.natCast_nonneg _) (Int.natCast_nonneg _)
 rcases hs with ⟨rfl, rfl⟩ | ⟨rfl, rfl⟩
 ·rw [Int.mul_neg] at *; omega
 ·omega
structure IsInv (m a : Nat) (v : Int) (ok : Bool) : Prop where
 yes : ok = true → 0 ≤ v ∧ v < m ∧ v * a % m = 1
 no : ok = false → v = 0
 dec : ok = decide (Nat.gcd m a = 1)
theorem Euclid.done {m a R : Nat} {X Y : Int} (h : Euclid m a R 0 X Y) (hm : 2 ≤ m) (h1 : R = 1) : IsInv m a (X % m) true ∧ 0 < X % m := by
 subst h1
 have hg := h.gcd
 rw [Nat.gcd_zero_right] at hg
 have hx : X % m * a % m = 1 := by
  rw [Int.mul_emod, Int.emod_emod, ← Int.mul_emod]
  have hd := h.dx
  have := Int.emod_eq_emod_iff_emod_sub_eq_zero.2 (Int.emod_eq_zero_of_dvd hd)
  rw [this, show ((1 : Nat) : Int) = 1 from rfl, Int.emod_eq_of_lt (by omega) (by omega)]
 have h0 := Int.emod_nonneg X (show (m : Int) ≠ 0 by omega)
 have h1 := Int.emod_lt_of_pos X (show (0 : Int) < m by omega)
 refine ⟨⟨fun _ => ⟨h0, h1, hx⟩, fun h => by simp at h, by simp [← hg]⟩, ?_⟩
 rcases Int.lt_or_eq_of_le h0 with h2 | h2
 ·exact h2
 ·rw [← h2] at hx; simp at hx
theorem Euclid.done_no {m a R : Nat} {X Y : Int} (h : Euclid m a R 0 X Y) (h1 : R ≠ 1) : IsInv m a 0 false := by
 have hg := h.gcd
 rw [Nat.gcd_zero_right] at hg
 refine ⟨fun h => by simp at h, fun _ => rfl, ?_⟩
 have : ¬ Nat.gcd m a = 1 := by omega
 simp [this]
def pw : Nat → Int
 | 0 => 1
 | k + 1 => pw k * 65536
end
section
open Go.RowKit
set_option maxRecDepth 100000 in
theorem tab_size : (Lib.len8tab.size : Int) = 256 := by
 have : Lib.len8tab.size = 256 := by decide
 omega
theorem tab_get (y : Int) (h : y.toNat < Lib.len8tab.size) (h0 : 0 ≤ y) (h1 : y ≤ 255) : ((Lib.len8tab[y.toNat]'h).toNat : Int) = (Lib.bitLen y.toNat : Int) := by
 rw [← Lib.len8_of y h0 h1]
 unfold Lib.len8
 rw [getElem?_pos Lib.len8tab y.toNat h]
 rfl
theorem bit_low (x : Int) (h0 : 0 ≤ x) (h1 : x ≤ 255) (h : x.toNat < Lib.len8tab.size) : wrap64 (wrap64 ((Lib.len8tab[x.toNat]'h).toNat : Int)) = (Lib.bitLen x.toNat : Int) := by
 rw [tab_get x h h0 h1]
 have := Lib.bitLen_le8' x h0 h1
 unfold wrap64
 omega
theorem bit_high (x : Int) (h0 : 256 ≤ x) (h1 : x ≤ 65535) (h : (x / 256).toNat < Lib.len8tab.size) : wrap64 (8 + wrap64 ((Lib.len8tab[(x / 256).toNat]'h).toNat : Int)) = (Lib.bitLen x.toNat : Int) := by
 rw [tab_get (x / 256) h (by omega) (by omega)]
 have l := Lib.bitLen_le8' (x / 256) (by omega) (by omega)
 rw [Lib.bitLen_shift8 x.toNat (by omega) (by omega), show (x / 256).toNat = x.toNat / 256 by omega] at *
 unfold wrap64
 omega
set_option maxHeartbeats 400000 in
set_option maxRecDepth 100000 in
theorem len64_any (x : Int) (w : World) (h0 : 0 ≤ x) (h1 : x ≤ 65535) :
  Calls Tryz.prog 196 #[.int .u64 x] w fun e w' => e = .returned (.int .i64 (Lib.bitLen x.toNat)) ∧ w' = w := by
 have n1 : ¬ (4294967296 : Int) ≤ x := by omega
 have n2 : ¬ (65536 : Int) ≤ x := by omega
 have hsz := tab_size
 by_cases h : 256 ≤ x
 ·have n3 : 0 ≤ x / 256 := by omega
  have n4 : x / 256 < 256 := by omega
  go_enter Tryz.func196, Tryz.ntmps196
  go_wp2
  go_ret
  exact ⟨ret_int (bit_high x h h1 (by omega)), rfl⟩
 ·go_enter Tryz.func196, Tryz.ntmps196
  go_wp2
  go_ret
  exact ⟨ret_int (bit_low x h0 (by omega) (by omega)), rfl⟩
set_option maxHeartbeats 400000 in
theorem len_any (x : Int) (w : World) (h0 : 0 ≤ x) (h1 : x ≤ 65535) :
  Calls Tryz.prog 175 #[.int .u64 x] w fun e w' => e = .returned (.int .i64 (Lib.bitLen x.toNat)) ∧ w' = w := by
 go_enter Tryz.func175, Tryz.ntmps175
 go_wp2_with fail
 refine (len64_any x _ h0 h1).mono ?_
 rintro e w' ⟨rfl, hw⟩
 subst hw
 go_wp2
 go_ret
 exact ⟨rfl, rfl⟩
def bitsOf (n : Nat) (f : Nat → Int) : Int := if n = 0 then 0 else 16 * ((n : Int) - 1) + Lib.bitLen (f (n - 1)).toNat
theorem bitLen_le16 (x : Int) (h0 : 0 ≤ x) (h1 : x ≤ 65535) : Lib.bitLen x.toNat ≤ 16 := by
 by_cases h : 256 ≤ x
 ·rw [Lib.bitLen_shift8 x.toNat (by omega) (by omega)]
  have := Lib.bitLen_le8' (x / 256) (by omega) (by omega)
  rw [show (x / 256).toNat = x.toNat / 256 by omega] at this
  omega
 ·have := Lib.bitLen_le8' x h0 (by omega)
  omega
set_option maxHeartbeats 400000 in
theorem digitsBits_any (a : Option Addr) (b off n cap : Nat) (f : Nat → Int) (w : World) (hs : Seg w a b off n f) (hn : n ≤ 1048576) (hd : n = 0 ∨ (0 ≤ f (n - 1) ∧ f (n - 1) ≤ 65535)) :
  Calls Tryz.prog 158 #[.slice a n cap] w fun e w' => e = .returned (.int .i64 (bitsOf n f)) ∧ w' = w := by
 by_cases h0 : n = 0
 ·subst h0
  go_enter Tryz.func158, Tryz.ntmps158
  go_wp2
  go_ret
  exact ⟨rfl, rfl⟩
 ·obtain ⟨m, rfl⟩ : ∃ m, n = m + 1 := ⟨n - 1, by omega⟩
  obtain rfl := hs.at' (by omega)
  have hc := hs.cell m (by omega)
  have hdm : 0 ≤ f m ∧ f m ≤ 65535 := by simpa using hd.resolve_left h0
  obtain ⟨d0, d1⟩ := hdm
  clear hd
  have hz : ((m : Int) + 1 == 0) = false := by simp; omega
  have Hfin : Hid (bitsOf (m + 1) f = 16 * (m : Int) + Lib.bitLen (f m).toNat) := by
   show bitsOf (m + 1) f = _
   simp [bitsOf]
  have hl := bitLen_le16 (f m) d0 d1
  go_enter Tryz.func158, Tryz.ntmps158
  go_wp2_with fail
  refine (len_any (f m) _ d0 d1).mono ?_
  rintro e w' ⟨rfl, hw⟩
  subst hw
  go_wp2
  go_ret
  exact ⟨ret_int (by rw [Hfin.out]), rfl⟩
theorem bit_fin (n y : Int) (h0 : 0 ≤ y) (h1 : y ≤ 255) (hn : 0 ≤ n) (hn2 : n ≤ 64) (h : y.toNat < Lib.len8tab.size) : wrap64 (n + wrap64 ((Lib.len8tab[y.toNat]'h).toNat : Int)) = n + (Lib.bitLen y.toNat : Int) := by
 rw [tab_get y h h0 h1]
 have := Lib.bitLen_le8' y h0 h1
 unfold wrap64
 omega
theorem bitLen_32 (x : Int) (h : 4294967296 ≤ x) (hx : x ≤ 18446744073709551615) : (Lib.bitLen x.toNat : Int) = 32 + Lib.bitLen (x / 4294967296).toNat := by
 rw [Lib.bitLen_shift32 x.toNat (by omega) (by omega), show (x / 4294967296).toNat = x.toNat / 4294967296 by omega]
 omega
theorem bitLen_16 (x : Int) (h : 65536 ≤ x) (hx : x ≤ 18446744073709551615) : (Lib.bitLen x.toNat : Int) = 16 + Lib.bitLen (x / 65536).toNat := by
 rw [Lib.bitLen_shift16 x.toNat (by omega) (by omega), show (x / 65536).toNat = x.toNat / 65536 by omega]
 omega
theorem bitLen_8 (x : Int) (h : 256 ≤ x) (hx : x ≤ 18446744073709551615) : (Lib.bitLen x.toNat : Int) = 8 + Lib.bitLen (x / 256).toNat := by
 rw [Lib.bitLen_shift8 x.toNat (by omega) (by omega), show (x / 256).toNat = x.toNat / 256 by omega]
 omega
set_option maxHeartbeats 1600000 in
set_option maxRecDepth 100000 in
theorem len64_all (x : Int) (w : World) (h0 : 0 ≤ x) (h1 : x ≤ 18446744073709551615) :
  Calls Tryz.prog 196 #[.int .u64 x] w fun e w' => e = .returned (.int .i64 (Lib.bitLen x.toNat)) ∧ w' = w := by
 have hsz := tab_size
 by_cases c1 : 4294967296 ≤ x
 ·have e1 := bitLen_32 x c1 h1
  have E1 := hide e1
  clear e1
  have y0 : 0 ≤ x / 4294967296 := by omega
  have y1 : x / 4294967296 ≤ 4294967295 := by omega
  by_cases c2 : 65536 ≤ x / 4294967296
  ·have E2 := hide (bitLen_16 _ c2 (by omega))
   by_cases c3 : 256 ≤ x / 4294967296 / 65536
   ·have E3 := hide (bitLen_8 _ c3 (by omega))
    have k0 : 0 ≤ x / 4294967296 / 65536 / 256 := by omega
    have k1 : x / 4294967296 / 65536 / 256 < 256 := by omega
    go_enter Tryz.func196, Tryz.ntmps196
    go_wp2
    go_ret
    exact ⟨ret_int (by rw [bit_fin _ _ k0 (by omega) (by omega) (by omega), E1.out, E2.out, E3.out]; omega), rfl⟩
   ·have k0 : 0 ≤ x / 4294967296 / 65536 := by omega
    have k1 : x / 4294967296 / 65536 < 256 := by omega
    go_enter Tryz.func196, Tryz.ntmps196
    go_wp2
    go_ret
    exact ⟨ret_int (by rw [bit_fin _ _ k0 (by omega) (by omega) (by omega), E1.out, E2.out]; omega), rfl⟩
  ·by_cases c3 : 256 ≤ x / 4294967296
   ·have E3 := hide (bitLen_8 _ c3 (by omega))
    have k0 : 0 ≤ x / 4294967296 / 256 := by omega
    have k1 : x / 4294967296 / 256 < 256 := by omega
    go_enter Tryz.func196, Tryz.ntmps196
    go_wp2
    go_ret
    exact ⟨ret_int (by rw [bit_fin _ _ k0 (by omega) (by omega) (by omega), E1.out, E3.out]; omega), rfl⟩
   ·have k1 : x / 4294967296 < 256 := by omega
    go_enter Tryz.func196, Tryz.ntmps196
    go_wp2
    go_ret
    exact ⟨ret_int (by rw [bit_fin _ _ y0 (by omega) (by omega) (by omega), E1.out]), rfl⟩
 ·by_cases c2 : 65536 ≤ x
  ·have E2 := hide (bitLen_16 _ c2 (by omega))
   have y0 : 0 ≤ x / 65536 := by omega
   by_cases c3 : 256 ≤ x / 65536
   ·have E3 := hide (bitLen_8 _ c3 (by omega))
    have k0 : 0 ≤ x / 65536 / 256 := by omega
    have k1 : x / 65536 / 256 < 256 := by omega
    go_enter Tryz.func196, Tryz.ntmps196
    go_wp2
    go_ret
    exact ⟨ret_int (by rw [bit_fin _ _ k0 (by omega) (by omega) (by omega), E2.out, E3.out]; omega), rfl⟩
   ·have k1 : x / 65536 < 256 := by omega
    go_enter Tryz.func196, Tryz.ntmps196
    go_wp2
    go_ret
    exact ⟨ret_int (by rw [bit_fin _ _ y0 (by omega) (by omega) (by omega), E2.out]), rfl⟩
  ·exact len64_any x w h0 (by omega)
set_option maxHeartbeats 400000 in
theorem len_all (x : Int) (w : World) (h0 : 0 ≤ x) (h1 : x ≤ 18446744073709551615) :
  Calls Tryz.prog 175 #[.int .u64 x] w fun e w' => e = .returned (.int .i64 (Lib.bitLen x.toNat)) ∧ w' = w := by
 go_enter Tryz.func175, Tryz.ntmps175
 go_wp2_with fail
 refine (len64_all x _ h0 h1).mono ?_
 rintro e w' ⟨rfl, hw⟩
 subst hw
 go_wp2
 go_ret
 exact ⟨rfl, rfl⟩
theorem bitLen_lt (x : Nat) (h : x < 2 ^ 64) : x < 2 ^ Lib.bitLen x := by
 have key : ∀ f x, x < 2 ^ f → f ≤ 64 → x < 2 ^ Lib.bitLen x := by
  intro f
  induction f with
  | zero => intro x hx _; have : x = 0 := by simpa using hx
            subst this; exact Nat.pow_pos (by omega)
  | succ f ih =>
   intro x hx hf
   by_cases h0 : x = 0
   ·subst h0; exact Nat.pow_pos (by omega)
   ·have hx64 : x < 2 ^ 64 := Nat.lt_of_lt_of_le hx (Nat.pow_le_pow_right (by omega) hf)
    rw [Lib.bitLen_half x h0 hx64]
    have := ih (x / 2) (by rw [Nat.pow_succ] at hx; omega) (by omega)
    rw [Nat.pow_add, Nat.pow_one]
    omega
 exact key 64 x h (Nat.le_refl _)
end
section
theorem ofInt64 (x : Int) : (BitVec.ofInt 64 x).toNat = (x % 18446744073709551616).toNat := by
 rw [BitVec.toNat_ofInt]; rfl
theorem and_one (x : Int) : bits .and .i64 x 1 = x % 2 := by
 show IntKind.i64.wrap ((BitVec.ofInt 64 x &&& BitVec.ofInt 64 1).toNat : Int) = _
 have h2 : (BitVec.ofInt 64 1).toNat = 2 ^ 1 - 1 := by decide
 rw [BitVec.toNat_and, ofInt64, h2, Nat.and_two_pow_sub_one_eq_mod, IntKind.wrap_i64]
 omega
theorem bit_test (x k : Nat) : (bits .and .i64 ((x : Int) / 2 ^ k) 1 == 1) = decide (x / 2 ^ k % 2 = 1) := by
 rw [and_one]
 have e : (x : Int) / 2 ^ k = ((x / 2 ^ k : Nat) : Int) := by simp
 rw [e]
 generalize x / 2 ^ k = y
 by_cases h : y % 2 = 1
 ·have : (y : Int) % 2 = 1 := by omega
  simp [h, this]
 ·have : (y : Int) % 2 = 0 := by omega
  simp [h, this]
end
section
open Go.RowKit
theorem cast_mulmod (x y m : Nat) : ((x : Int) * (y : Int)) % (m : Int) = ((x * y % m : Nat) : Int) := by
 rw [Int.natCast_emod, Int.natCast_mul]
set_option maxHeartbeats 800000 in
theorem l2Pow_any (a e m : Nat) (w : World) (ha : a ≤ 9223372036854775807) (he : e ≤ 9223372036854775807) (hm0 : 0 < m) (hm : m ≤ 1073741824) :
  Calls Tryz.prog 144 #[.int .i64 a, .int .i64 e, .int .i64 m] w fun r w' => r = .returned (.int .i64 ((a ^ e % m : Nat) : Int)) ∧ Drawn w w' := by
 have hmi : 0 < (m : Int) := by omega
 have hr1 : (1 : Int) % (m : Int) = ((1 % m : Nat) : Int) := by rw [Int.natCast_emod]; rfl
 have hr2 : (a : Int) % (m : Int) = ((a % m : Nat) : Int) := by omega
 have l1 : 1 % m < m := Nat.mod_lt _ hm0
 have l2 : a % m < m := Nat.mod_lt _ hm0
 have Hs := hide (pow_start a e m)
 go_enter Tryz.func144, Tryz.ntmps144
 go_wp2
 go_quiet (fail)
 generalize 1 % m = o0 at *
 generalize a % m = b0 at *
 go_wp2
 go_loopw [1, 7, 8] (fun x o b wr => ∃ X O B : Nat, x = .int .i64 X ∧ o = .int .i64 O ∧ b = .int .i64 B ∧ O < m ∧ B < m ∧ X ≤ 9223372036854775807 ∧ O * B ^ X % m = a ^ e % m ∧ Drawn w wr) (fun x _ _ _ => (intOf x).toNat)
 case atStart => exact ⟨e, o0, b0, rfl, by rw [hr1], by rw [hr2], l1, l2, he, Hs.out, (Drawn.refl _).more _⟩
 case round =>
  obtain ⟨X, O, B, rfl, rfl, rfl, hO, hB, hX, hV, hQ⟩ := hrel
  clear hr1 hr2 l1 l2 Hs
  have HV := hide hV
  clear hV
  by_cases h0 : X = 0
  ·subst h0
   go_wp2
   go_ret
   exact ⟨ret_int (by rw [← HV.out, Nat.pow_zero, Nat.mul_one, Nat.mod_eq_of_lt hO]), hQ⟩
  ·have hp : 0 < (X : Int) := by omega
   have p1 := mul_small hm hO hB
   have p2 := mul_small hm hB hB
   have z1 : 0 ≤ (O : Int) * (B : Int) := Int.mul_nonneg (by omega) (by omega)
   have z2 : 0 ≤ (B : Int) * (B : Int) := Int.mul_nonneg (by omega) (by omega)
   have E1 := hide (cast_mulmod O B m)
   have E2 := hide (cast_mulmod B B m)
   by_cases hodd : X % 2 = 1
   ·have hb : (X : Int) % 2 = 1 := by omega
    have Hn := hide (pow_odd O B X m hodd)
    go_wp2
    go_roundw
    case rel => exact ⟨X / 2, O * B % m, B * B % m, by go_num, by rw [E1.out], by rw [E2.out], Nat.mod_lt _ hm0, Nat.mod_lt _ hm0, by omega, Hn.out.trans HV.out, hQ⟩
    case measure => simp [intOf]; omega
   ·have hb : (X : Int) % 2 = 0 := by omega
    have Hn := hide (pow_even O B X m (by omega))
    go_wp2
    go_roundw
    case rel => exact ⟨X / 2, O, B * B % m, by go_num, rfl, by rw [E2.out], hO, Nat.mod_lt _ hm0, by omega, Hn.out.trans HV.out, hQ⟩
    case measure => simp [intOf]; omega
set_option maxHeartbeats 800000 in
theorem intPower_any (a e m : Nat) (w : World) (ha : a < m) (he : e ≤ 9223372036854775807) (hm0 : 0 < m) (hm : m ≤ 1073741824) :
  Calls Tryz.prog 201 #[.int .i64 a, .int .i64 e, .int .i64 m] w fun r w' => r = .returned (.int .i64 ((a ^ e % m : Nat) : Int)) ∧ w' = w := by
 have hmi : 0 < (m : Int) := by omega
 have hr1 : (1 : Int) % (m : Int) = ((1 % m : Nat) : Int) := by rw [Int.natCast_emod]; rfl
 have l1 : 1 % m < m := Nat.mod_lt _ hm0
 have Hs : Hid (1 % m * a ^ e % m = a ^ e % m) := by
  have := pow_start a e m
  rwa [Nat.mod_eq_of_lt ha] at this
 have hlen := Lib.bitLen_le e 64 (by omega) (by omega)
 have Hlt := hide (bitLen_lt e (by omega))
 generalize 1 % m = o0 at *
 generalize a ^ e % m = R at *
 go_enter Tryz.func201, Tryz.ntmps201
 go_wp2_with fail
 refine (len_all (e : Int) _ (by omega) (by omega)).mono ?_
 rintro r w' ⟨rfl, hw⟩
 subst hw
 rw [Int.toNat_natCast]
 generalize Lib.bitLen e = L at *
 go_wp2
 go_loop [7, 8, 16] (fun o b i => ∃ O B K : Nat, o = .int .i64 O ∧ b = .int .i64 B ∧ i = .int .i64 K ∧ K ≤ L ∧ O < m ∧ B < m ∧ O * B ^ (e / 2 ^ K) % m = R) (fun _ _ i => L - (intOf i).toNat)
 case atStart => exact ⟨o0, a, 0, by first | rfl | rw [hr1], rfl, rfl, by omega, l1, ha, by simpa using Hs.out⟩
 case round =>
  obtain ⟨O, B, K, rfl, rfl, rfl, hK, hO, hB, hV⟩ := hrel
  clear hr1 l1 Hs
  have HV := hide hV
  clear hV
  by_cases hend : K = L
  ·subst hend
   go_wp2
   go_ret
   exact ⟨ret_int (by rw [← HV.out, Nat.div_eq_of_lt Hlt.out, Nat.pow_zero, Nat.mul_one, Nat.mod_eq_of_lt hO]), rfl⟩
  ·have hlt : (K : Int) < (L : Int) := by omega
   have p1 := mul_small hm hO hB
   have p2 := mul_small hm hB hB
   have z1 : 0 ≤ (O : Int) * (B : Int) := Int.mul_nonneg (by omega) (by omega)
   have z2 : 0 ≤ (B : Int) * (B : Int) := Int.mul_nonneg (by omega) (by omega)
   have E1 := hide (cast_mulmod O B m)
   have E2 := hide (cast_mulmod B B m)
   have Hd := hide (show e / 2 ^ (K + 1) = e / 2 ^ K / 2 by rw [Nat.pow_succ, Nat.div_div_eq_div_mul])
   by_cases hodd : e / 2 ^ K % 2 = 1
   ·have hb : (bits .and .i64 ((e : Int) / 2 ^ K) 1 == 1) = true := by rw [bit_test]; simpa using hodd
    have Hn := hide (pow_odd O B (e / 2 ^ K) m hodd)
    clear hodd
    go_wp2
    go_round
    case rel => exact ⟨O * B % m, B * B % m, K + 1, by rw [E1.out], by rw [E2.out], by go_num, by omega, Nat.mod_lt _ hm0, Nat.mod_lt _ hm0, by rw [Hd.out]; exact Hn.out.trans HV.out⟩
    case measure => simp [intOf]; omega
   ·have hb : (bits .and .i64 ((e : Int) / 2 ^ K) 1 == 1) = false := by rw [bit_test]; simpa using hodd
    have Hn := hide (pow_even O B (e / 2 ^ K) m (by omega))
    clear hodd
    go_wp2
    go_round
    case rel => exact ⟨O, B * B % m, K + 1, rfl, by rw [E2.out], by go_num, by omega, hO, Nat.mod_lt _ hm0, by rw [Hd.out]; exact Hn.out.trans HV.out⟩
    case measure => simp [intOf]; omega
theorem left_neg (a m : Int) (ha : a < 0) (hm : 0 < m) : Int.tmod a m % m = a % m := by
 have e := Int.tmod_add_mul_tdiv a m
 have e2 : Int.tmod a m = a + m * -(Int.tdiv a m) := by rw [Int.mul_neg]; omega
 rw [e2, Int.add_mul_emod_self_left]
theorem tmod_neg {a m : Int} (ha : a < 0) : Int.tmod a m ≤ 0 := by
 have e : Int.tmod a m = -(Int.tmod (-a) m) := by rw [Int.neg_tmod]; omega
 have := Int.tmod_nonneg m (show 0 ≤ -a by omega)
 omega
set_option maxHeartbeats 400000 in
theorem l2Left_any (a m : Int) (w : World) (h0 : -9223372036854775808 ≤ a) (h1 : a ≤ 9223372036854775807) (hm0 : 2 ≤ m) (hm : m ≤ 1073741824) :
  Calls Tryz.prog 143 #[.int .i64 a, .int .i64 m] w fun r w' => r = .returned (.int .i64 (a % m)) ∧ w' = w := by
 have hmp : 0 < m := by omega
 by_cases h : 0 ≤ a
 ·have r0 := Int.emod_nonneg a (show m ≠ 0 by omega)
  have r1 := Int.emod_lt_of_pos a hmp
  go_enter Tryz.func143, Tryz.ntmps143
  go_wp2
  go_ret
  exact ⟨ret_int (by rw [Int.add_emod_right, Int.emod_emod]), rfl⟩
 ·have Hf := hide (left_neg a m (by omega) hmp)
  have t0 : -m < Int.tmod a m := Int.lt_tmod_of_pos a hmp
  have t1 : Int.tmod a m ≤ 0 := tmod_neg (by omega)
  go_enter Tryz.func143, Tryz.ntmps143
  go_wp2
  go_ret
  exact ⟨ret_int Hf.out, rfl⟩
set_option maxHeartbeats 400000 in
theorem intRest_any (a m : Int) (w : World) (h0 : -9223372036854775808 ≤ a) (h1 : a ≤ 9223372036854775807) (hm0 : 2 ≤ m) (hm : m ≤ 1073741824) :
  Calls Tryz.prog 190 #[.int .i64 a, .int .i64 m] w fun r w' => r = .returned (.int .i64 (a % m)) ∧ w' = w := by
 have hmp : 0 < m := by omega
 by_cases h : 0 ≤ a
 ·have r0 := Int.emod_nonneg a (show m ≠ 0 by omega)
  have r1 := Int.emod_lt_of_pos a hmp
  go_enter Tryz.func190, Tryz.ntmps190
  go_wp2
  go_ret
  exact ⟨ret_int (by rw [Int.add_emod_right, Int.emod_emod]), rfl⟩
 ·have Hf := hide (left_neg a m (by omega) hmp)
  have t0 : -m < Int.tmod a m := Int.lt_tmod_of_pos a hmp
  have t1 : Int.tmod a m ≤ 0 := tmod_neg (by omega)
  go_enter Tryz.func190, Tryz.ntmps190
  go_wp2
  go_ret
  exact ⟨ret_int Hf.out, rfl⟩
def invR (a m : Int) : Nat := (a % m).toNat
theorem invR_lt {a m : Int} (hm : 2 ≤ m) : invR a m < m.toNat ∧ a % m = (invR a m : Int) := by
 have r0 := Int.emod_nonneg a (show m ≠ 0 by omega)
 have r1 := Int.emod_lt_of_pos a (show 0 < m by omega)
 unfold invR
 omega
theorem div_mod_int (R S : Nat) : (R : Int) - ((R / S : Nat) : Int) * (S : Int) = ((R % S : Nat) : Int) := by
 have := Nat.div_add_mod R S
 rw [← Int.natCast_mul, Nat.mul_comm]
 omega
def InvAns (a m v : Int) (ok : Bool) : Prop :=
 (m < 2 ∨ 1073741824 < m → v = 0 ∧ ok = false) ∧ (2 ≤ m → m ≤ 1073741824 → IsInv m.toNat (invR a m) v ok)
def GivesInv (a m : Int) (r : Ending) : Prop := ∃ v ok, r = .returned (.tuple #[.int .i64 v, .bool ok]) ∧ InvAns a m v ok
set_option maxHeartbeats 1600000 in
theorem l2Inv_any (a : Int) (m : Nat) (w : World) (h0 : -9223372036854775808 ≤ a) (h1 : a ≤ 9223372036854775807) (hm0 : 2 ≤ m) (hm : m ≤ 1073741824) :
  Calls Tryz.prog 142 #[.int .i64 a, .int .i64 (m : Int)] w fun r w' => (∃ v, r = .returned (.int .i64 v) ∧ IsInv m (invR a m) v (decide (0 < v)) ∧ 0 ≤ v) ∧ Drawn w w' := by
 obtain ⟨hlt, he⟩ := invR_lt (a := a) (m := (m : Int)) (by omega)
 rw [Int.toNat_natCast] at hlt
 generalize invR a (m : Int) = A at *
 go_enter Tryz.func142, Tryz.ntmps142
 go_wp2_with fail
 refine (l2Left_any a (m : Int) _ h0 h1 (by omega) (by omega)).mono ?_
 rintro r w' ⟨rfl, hw⟩
 obtain rfl := hw.symm
 rw [he]
 have E0 := hide (euclid_start hlt)
 clear he
 go_wp2
 go_loopw [5, 6, 7, 8] (fun r s x y wr => ∃ (R S : Nat) (X Y : Int), r = .int .i64 R ∧ s = .int .i64 S ∧ x = .int .i64 X ∧ y = .int .i64 Y ∧ Euclid m A R S X Y ∧ R ≤ m ∧ Drawn w wr) (fun _ s _ _ _ => (intOf s).toNat)
 case atStart => exact ⟨m, A, 0, 1, rfl, rfl, rfl, rfl, E0.out, by omega, Drawn.refl _⟩
 case round =>
  obtain ⟨R, S, X, Y, rfl, rfl, rfl, rfl, hE, hR, hQ⟩ := hrel
  clear E0
  have sm := hE.small
  obtain ⟨s1, s2, s3, s4⟩ := sm
  by_cases hS : S = 0
  ·subst hS
   by_cases hR1 : R = 1
   ·obtain ⟨hI, hpos⟩ := hE.done hm0 hR1
    have HI := hide hI
    have HP := hide hpos
    subst hR1
    clear hE hI hpos
    go_wp2_with fail
    refine (l2Left_any X (m : Int) _ (by omega) (by omega) (by omega) (by omega)).mono ?_
    rintro r w' ⟨rfl, hw⟩
    subst hw
    generalize X % (m : Int) = v at *
    go_wp2
    go_ret
    exact ⟨⟨v, rfl, by rw [decide_eq_true HP.out]; exact HI.out, Int.le_of_lt HP.out⟩, hQ⟩
   ·have HI := hide (hE.done_no hR1)
    have hb : ((R : Int) != 1) = true := by simp; omega
    clear hE hR1
    go_wp2
    go_ret
    exact ⟨⟨0, rfl, by simpa using HI.out, Int.le_refl _⟩, hQ⟩
  ·have hSp : 0 < S := by omega
   have hst := hide (hE.step hSp)
   obtain ⟨q1, q2⟩ := hE.small_mul hSp
   have hq := hide (hE.step hSp).small
   have hdiv : (R : Int) / (S : Int) = ((R / S : Nat) : Int) := by omega
   have hmod : (R : Int) % (S : Int) = ((R % S : Nat) : Int) := by omega
   have ml := Nat.mod_lt R hSp
   have dl := Nat.div_le_self R S
   have hlt := hE.lt
   clear hE
   generalize R / S = Q at *
   generalize R % S = T at *
   obtain ⟨t1, t2, t3, t4⟩ := hq.out
   clear hq
   generalize hz : (Q : Int) * Y = Z at *
   go_wp2
   go_quiet (fail)
   go_wp2
   go_roundw
   case rel => exact ⟨S, T, Y, X - Z, rfl, by first | rfl | rw [hmod], rfl, rfl, hst.out, by omega, hQ.more _⟩
   case measure => simp [intOf]; omega
set_option maxHeartbeats 1600000 in
theorem implInvInt_any (a m : Int) (w : World) (h0 : -9223372036854775808 ≤ a) (h1 : a ≤ 9223372036854775807) :
  Calls Tryz.prog 202 #[.int .i64 a, .int .i64 m] w fun r w' => GivesInv a m r ∧ w' = w := by
 by_cases c : 2 ≤ m ∧ m ≤ 1073741824
 ·obtain ⟨z, rfl⟩ := Int.eq_ofNat_of_zero_le (show 0 ≤ m by omega)
  obtain ⟨c1, c2⟩ := c
  obtain ⟨hlt, he⟩ := invR_lt (a := a) (m := (z : Int)) (by omega)
  rw [Int.toNat_natCast] at hlt
  have hm0 : 2 ≤ z := by omega
  have HA : Hid (∀ v ok, IsInv z (invR a z) v ok → InvAns a (z : Int) v ok) := fun v ok h => ⟨fun h => by omega, fun _ _ => by rw [Int.toNat_natCast]; exact h⟩
  generalize invR a (z : Int) = A at *
  go_enter Tryz.func202, Tryz.ntmps202
  go_wp2_with fail
  refine (intRest_any a (z : Int) _ h0 h1 (by omega) (by omega)).mono ?_
  rintro r w' ⟨rfl, hw⟩
  obtain rfl := hw.symm
  rw [he]
  have E0 := hide (euclid_start hlt)
  clear he
  go_wp2
  go_loop [6, 7, 8, 9] (fun r s x y => ∃ (R S : Nat) (X Y : Int), r = .int .i64 R ∧ s = .int .i64 S ∧ x = .int .i64 X ∧ y = .int .i64 Y ∧ Euclid z A R S X Y ∧ R ≤ z) (fun _ s _ _ => (intOf s).toNat)
  case atStart => exact ⟨z, A, 0, 1, rfl, rfl, rfl, rfl, E0.out, by omega⟩
  case round =>
   obtain ⟨R, S, X, Y, rfl, rfl, rfl, rfl, hE, hR⟩ := hrel
   clear E0
   have sm := hE.small
   obtain ⟨s1, s2, s3, s4⟩ := sm
   by_cases hS : S = 0
   ·subst hS
    by_cases hR1 : R = 1
    ·obtain ⟨hI, hpos⟩ := hE.done hm0 hR1
     have HI := hide hI
     subst hR1
     clear hE hI hpos
     go_wp2_with fail
     refine (intRest_any X (z : Int) _ (by omega) (by omega) (by omega) (by omega)).mono ?_
     rintro r w' ⟨rfl, hw⟩
     obtain rfl := hw.symm
     generalize X % (z : Int) = v at *
     go_wp2
     go_ret2
     exact ⟨⟨v, true, rfl, HA.out _ _ HI.out⟩, rfl⟩
    ·have HI := hide (hE.done_no hR1)
     have hb : ((R : Int) != 1) = true := by simp; omega
     clear hE hR1
     go_wp2
     go_ret2
     exact ⟨⟨0, false, rfl, HA.out _ _ HI.out⟩, rfl⟩
   ·have hSp : 0 < S := by omega
    have hst := hide (hE.step hSp)
    obtain ⟨q1, q2⟩ := hE.small_mul hSp
    have hq := hide (hE.step hSp).small
    have hdiv : (R : Int) / (S : Int) = ((R / S : Nat) : Int) := by omega
    have hmod := div_mod_int R S
    have ml := Nat.mod_lt R hSp
    have dl := Nat.div_le_self R S
    have hlt := hE.lt
    clear hE
    generalize R / S = Q at *
    generalize R % S = T at *
    obtain ⟨t1, t2, t3, t4⟩ := hq.out
    clear hq
    generalize hz : (Q : Int) * Y = Z at *
    generalize hz2 : (Q : Int) * (S : Int) = Z2 at *
    go_wp2
    go_round
    case rel => exact ⟨S, T, Y, X - Z, rfl, by first | rfl | rw [hmod], rfl, rfl, hst.out, by omega⟩
    case measure => simp [intOf]; omega
 ·have HA : Hid (InvAns a m 0 false) := ⟨fun _ => ⟨rfl, rfl⟩, fun h h' => absurd ⟨h, h'⟩ c⟩
  by_cases c1 : m < 2
  ·clear c
   go_enter Tryz.func202, Tryz.ntmps202
   go_wp2
   go_ret2
   exact ⟨⟨0, false, rfl, HA.out⟩, rfl⟩
  ·have c2 : 1073741824 < m := by omega
   clear c
   go_enter Tryz.func202, Tryz.ntmps202
   go_wp2
   go_ret2
   exact ⟨⟨0, false, rfl, HA.out⟩, rfl⟩
end
section
def Prime (p : Nat) : Prop := 2 ≤ p ∧ ∀ d, 2 ≤ d → d * d ≤ p → ¬ d ∣ p
theorem Prime.no_div {p : Nat} (h : Prime p) {d : Nat} (h1 : 2 ≤ d) (h2 : d < p) : ¬ d ∣ p := by
 intro hd
 by_cases hq : d * d ≤ p
 ·exact h.2 d h1 hq hd
 ·obtain ⟨c, rfl⟩ := hd
  have hc : c < d := by
   rcases Nat.lt_or_ge c d with h | h
   ·exact h
   ·exact absurd (Nat.mul_le_mul_left d h) hq
  have hc2 : 2 ≤ c := by
   rcases Nat.lt_or_ge c 2 with h' | h'
   ·have : c = 0 ∨ c = 1 := by omega
    rcases this with rfl | rfl <;> omega
   ·exact h'
  refine h.2 c hc2 ?_ ⟨d, Nat.mul_comm _ _⟩
  exact Nat.mul_le_mul_right c (Nat.le_of_lt hc)
theorem Prime.coprime {p : Nat} (h : Prime p) {n : Nat} (hn : ¬ p ∣ n) : Nat.Coprime p n := by
 have hg := Nat.gcd_dvd_left p n
 have hn' := Nat.gcd_dvd_right p n
 have hle := Nat.le_of_dvd (by have := h.1; omega) hg
 have hpos : 0 < Nat.gcd p n := Nat.gcd_pos_of_pos_left _ (by have := h.1; omega)
 rcases Nat.lt_or_ge (Nat.gcd p n) 2 with hlt | hge
 ·show Nat.gcd p n = 1
  omega
 ·rcases Nat.lt_or_ge (Nat.gcd p n) p with h1 | h1
  ·exact absurd hg (h.no_div hge h1)
  ·have e : Nat.gcd p n = p := by omega
   rw [e] at hn'
   exact absurd hn' hn
theorem Prime.dvd_mul {p : Nat} (h : Prime p) {a b : Nat} (hd : p ∣ a * b) : p ∣ a ∨ p ∣ b := by
 by_cases ha : p ∣ a
 ·exact Or.inl ha
 ·exact Or.inr ((h.coprime ha).dvd_of_dvd_mul_left hd)
def ch : Nat → Nat → Nat
 | _, 0 => 1
 | 0, _ + 1 => 0
 | n + 1, k + 1 => ch n k + ch n (k + 1)
theorem ch_zero (n : Nat) : ch n 0 = 1 := by cases n <;> rfl
theorem ch_succ (n k : Nat) : ch (n + 1) (k + 1) = ch n k + ch n (k + 1) := rfl
theorem ch_big (n : Nat) : ∀ k, n < k → ch n k = 0 := by
 induction n with
 | zero => intro k hk; obtain ⟨j, rfl⟩ : ∃ j, k = j + 1 := ⟨k - 1, by omega⟩; rfl
 | succ n ih => intro k hk; obtain ⟨j, rfl⟩ : ∃ j, k = j + 1 := ⟨k - 1, by omega⟩; rw [ch_succ, ih _ (by omega), ih _ (by omega)]
theorem ch_self (n : Nat) : ch n n = 1 := by
 induction n with
 | zero => rfl
 | succ n ih => rw [ch_succ, ih, ch_big n (n + 1) (by omega)]
theorem ch_absorb (n : Nat) : ∀ k, (k + 1) * ch (n + 1) (k + 1) = (n + 1) * ch n k := by
 induction n with
 | zero =>
  intro k
  cases k with
  | zero => rfl
  | succ k => simp [ch]
 | succ n ih =>
  intro k
  cases k with
  | zero => simp only [ch_succ (n + 1) 0, ch_zero]; have := ih 0; simp only [ch_zero] at this; simp only [Nat.zero_add] at *; omega
  | succ k =>
   have h1 := ih k
   have h2 := ih (k + 1)
   rw [ch_succ (n + 1) (k + 1)]
   have e := ch_succ n k
   have : (k + 1 + 1) * (ch (n + 1) (k + 1) + ch (n + 1) (k + 1 + 1)) = (k + 1) * ch (n + 1) (k + 1) + ch (n + 1) (k + 1) + (k + 1 + 1) * ch (n + 1) (k + 1 + 1) := by
    rw [Nat.mul_add, Nat.add_mul (k + 1) 1, Nat.one_mul]
   rw [this, h1, h2, e]
   grind
theorem Prime.ch_dvd {p : Nat} (h : Prime p) {k : Nat} (h0 : 0 < k) (h1 : k < p) : p ∣ ch p k := by
 obtain ⟨q, rfl⟩ : ∃ q, p = q + 1 := ⟨p - 1, by omega⟩
 obtain ⟨j, rfl⟩ : ∃ j, k = j + 1 := ⟨k - 1, by omega⟩
 have e := ch_absorb q j
 rcases h.dvd_mul (a := j + 1) (b := ch (q + 1) (j + 1)) ⟨ch q j, e⟩ with hd | hd
 ·exact absurd (Nat.le_of_dvd (by omega) hd) (by omega)
 ·exact hd
def bin (n x : Nat) : Nat → Nat
 | 0 => 0
 | m + 1 => bin n x m + ch n m * x ^ m
theorem bin_step (n x : Nat) : ∀ m, bin (n + 1) x (m + 1) = bin n x (m + 1) + x * bin n x m := by
 intro m
 induction m with
 | zero => simp [bin, ch_zero]
 | succ m ih =>
  rw [bin, ih, ch_succ]
  conv => rhs; rw [bin]
  have e : x * bin n x (m + 1) = x * bin n x m + ch n m * x ^ (m + 1) := by
   rw [bin, Nat.mul_add, Nat.pow_succ]; grind
  rw [e, Nat.add_mul]
  omega
theorem bin_all (n x : Nat) : bin n x (n + 1) = (x + 1) ^ n := by
 induction n with
 | zero => simp [bin, ch_zero]
 | succ n ih =>
  rw [bin_step, bin, ch_big n (n + 1) (by omega), ih, Nat.pow_succ]
  grind
theorem Prime.bin_mid {p : Nat} (h : Prime p) (x : Nat) : ∀ m, m < p → bin p x (m + 1) % p = 1 % p := by
 intro m
 induction m with
 | zero => intro _; simp [bin, ch_zero]
 | succ m ih =>
  intro hm
  rw [bin, Nat.add_mod, ih (by omega)]
  have hd : p ∣ ch p (m + 1) * x ^ (m + 1) := Nat.dvd_trans (h.ch_dvd (by omega) hm) (Nat.dvd_mul_right _ _)
  rw [Nat.mod_eq_zero_of_dvd hd]
  simp
theorem Prime.dream {p : Nat} (h : Prime p) (x : Nat) : (x + 1) ^ p % p = (x ^ p + 1) % p := by
 obtain ⟨q, rfl⟩ : ∃ q, p = q + 1 := ⟨p - 1, by have := h.1; omega⟩
 rw [← bin_all, bin, Nat.add_mod, h.bin_mid x q (by omega), ch_self, Nat.one_mul, ← Nat.add_mod, Nat.add_comm]
theorem Prime.fermat' {p : Nat} (h : Prime p) (x : Nat) : x ^ p % p = x % p := by
 induction x with
 | zero => rw [Nat.zero_pow (by have := h.1; omega)]
 | succ x ih => rw [h.dream, Nat.add_mod, ih, ← Nat.add_mod]
theorem Prime.cancel {p : Nat} (h : Prime p) {c a b : Nat} (hc : ¬ p ∣ c) (e : c * a % p = c * b % p) : a % p = b % p := by
 have key : ∀ a b : Nat, a ≤ b → c * a % p = c * b % p → a % p = b % p := by
  intro a b hab e
  have hd : p ∣ c * (b - a) := by
   rw [Nat.mul_sub]
   exact Nat.dvd_of_mod_eq_zero (Nat.sub_mod_eq_zero_of_mod_eq e.symm)
  have hd2 : p ∣ b - a := (h.dvd_mul hd).resolve_left hc
  obtain ⟨t, ht⟩ := hd2
  rw [show b = a + p * t by omega, Nat.add_mul_mod_self_left]
 rcases Nat.le_total a b with hab | hab
 ·exact key a b hab e
 ·exact (key b a hab e.symm).symm
theorem Prime.fermat {p : Nat} (h : Prime p) {x : Nat} (hx : ¬ p ∣ x) : x ^ (p - 1) % p = 1 := by
 have e := h.fermat' x
 obtain ⟨q, rfl⟩ : ∃ q, p = q + 1 := ⟨p - 1, by have := h.1; omega⟩
 rw [Nat.pow_succ, Nat.mul_comm] at e
 have := h.cancel hx (a := x ^ q) (b := 1) (by rw [e, Nat.mul_one])
 simp only [Nat.add_sub_cancel]
 rw [this, Nat.mod_eq_of_lt (by have := h.1; omega)]
theorem Prime.root_one {p : Nat} (h : Prime p) {y : Nat} (hy : y < p) (e : y * y % p = 1) : y = 1 ∨ y = p - 1 := by
 have hp := h.1
 have hd : p ∣ y * y - 1 := by
  apply Nat.dvd_of_mod_eq_zero
  apply Nat.sub_mod_eq_zero_of_mod_eq
  rw [e, Nat.mod_eq_of_lt (by omega)]
 have hy0 : 0 < y := by
  rcases Nat.eq_zero_or_pos y with rfl | h0
  ·simp at e
  ·exact h0
 have e2 : y * y - 1 = (y - 1) * (y + 1) := by
  obtain ⟨z, rfl⟩ : ∃ z, y = z + 1 := ⟨y - 1, by omega⟩
  simp only [Nat.add_sub_cancel]
  have : (z + 1) * (z + 1) = z * (z + 1 + 1) + 1 := by grind
  omega
 rw [e2] at hd
 rcases h.dvd_mul hd with h1 | h1
 ·left
  rcases Nat.eq_zero_or_pos (y - 1) with h0 | h0
  ·omega
  ·have := Nat.le_of_dvd h0 h1; omega
 ·right
  have := Nat.le_of_dvd (by omega) h1; omega
theorem Prime.dvd_mul_int {p : Nat} (h : Prime p) {a b : Int} (hd : (p : Int) ∣ a * b) : (p : Int) ∣ a ∨ (p : Int) ∣ b := by
 have := Int.natAbs_dvd_natAbs.2 hd
 rw [Int.natAbs_mul, Int.natAbs_natCast] at this
 rcases h.dvd_mul this with h1 | h1
 ·exact Or.inl (by rw [← Int.natAbs_dvd_natAbs, Int.natAbs_natCast]; exact h1)
 ·exact Or.inr (by rw [← Int.natAbs_dvd_natAbs, Int.natAbs_natCast]; exact h1)
theorem Prime.euler {p : Nat} (h : Prime p) (ho : p % 2 = 1) {x : Nat} (hx : ¬ p ∣ x) : x ^ ((p - 1) / 2) % p = 1 ∨ x ^ ((p - 1) / 2) % p = p - 1 := by
 have hp := h.1
 refine h.root_one (Nat.mod_lt _ (by omega)) ?_
 rw [← Nat.mul_mod, ← Nat.pow_add, show (p - 1) / 2 + (p - 1) / 2 = p - 1 by omega]
 exact h.fermat hx
theorem Prime.euler_square {p : Nat} (h : Prime p) (ho : p % 2 = 1) {x a : Nat} (ha : ¬ p ∣ a) (e : x * x % p = a % p) : a ^ ((p - 1) / 2) % p = 1 := by
 have hx : ¬ p ∣ x := by
  intro hd
  apply ha
  have : x * x % p = 0 := Nat.mod_eq_zero_of_dvd (Nat.dvd_trans hd (Nat.dvd_mul_right _ _))
  exact Nat.dvd_of_mod_eq_zero (by rw [← e, this])
 rw [Nat.pow_mod, ← e, ← Nat.pow_mod, ← Nat.pow_two, ← Nat.pow_mul, show 2 * ((p - 1) / 2) = p - 1 by omega]
 exact h.fermat hx
end
section
open Go.RowKit
def GivesPrime (n : Int) (r : Ending) : Prop := ∃ ok : Bool, r = .returned (.bool ok) ∧ (ok = true ↔ 2 ≤ n ∧ n ≤ 1099511627776 ∧ Prime n.toNat)
theorem sq_le {D N : Nat} (h : D * D ≤ N) (hN : N ≤ 1099511627776) : D ≤ 1048576 := by
 rcases Nat.lt_or_ge 1048576 D with h1 | h1
 ·have := Nat.mul_le_mul (show 1048577 ≤ D by omega) (show 1048577 ≤ D by omega)
  omega
 ·exact h1
theorem sq_int {D : Nat} (h : D ≤ 1048579) : 0 ≤ (D : Int) * (D : Int) ∧ (D : Int) * (D : Int) ≤ 2199023255552 := by
 have := Nat.mul_le_mul h h
 rw [← Int.natCast_mul]
 omega
theorem prime_end {N D : Nat} (h2 : 2 ≤ N) (hno : ∀ c, 2 ≤ c → c < D → ¬ c ∣ N) (h : ¬ D * D ≤ N) : Prime N := by
 refine ⟨h2, fun d hd hdd => hno d hd ?_⟩
 rcases Nat.lt_or_ge d D with h1 | h1
 ·exact h1
 ·exact absurd (Nat.le_trans (Nat.mul_le_mul h1 h1) hdd) h
theorem not_prime {N D : Nat} (h2 : 2 ≤ D) (h : D * D ≤ N) (hd : N % D = 0) : ¬ Prime N := fun hp => hp.2 D h2 h (Nat.dvd_of_mod_eq_zero hd)
set_option maxHeartbeats 800000 in
theorem specPrimeInt_any (n : Int) (w : World) (h1 : n ≤ 9223372036854775807) :
  Calls Tryz.prog 141 #[.int .i64 n] w fun r w' => GivesPrime n r ∧ w' = w := by
 by_cases c : 2 ≤ n ∧ n ≤ 1099511627776
 ·obtain ⟨N, rfl⟩ := Int.eq_ofNat_of_zero_le (show 0 ≤ n by omega)
  have hin : (decide ((2 : Int) ≤ (N : Int)) && decide ((N : Int) ≤ 1099511627776)) = true := by simp; omega
  obtain ⟨c1, c2⟩ := c
  have hN2 : 2 ≤ N := by omega
  have hNm : N ≤ 1099511627776 := by omega
  have Hy : Hid (∀ ok : Bool, (ok = true ↔ Prime N) → GivesPrime (N : Int) (.returned (.bool ok))) := fun ok h => ⟨ok, rfl, by
   rw [h, Int.toNat_natCast]
   exact ⟨fun hp => ⟨by omega, by omega, hp⟩, fun h => h.2.2⟩⟩
  go_enter Tryz.func141, Tryz.ntmps141
  go_wp2_with fail
  refine (l1In_int _ 2 1099511627776 _).mono ?_
  rintro r w' ⟨rfl, hw⟩
  obtain rfl := hw.symm
  rw [hin]
  clear hin
  go_wp2
  go_loop [3] (fun d => ∃ D : Nat, d = .int .i64 D ∧ 2 ≤ D ∧ D ≤ 1048577 ∧ ∀ c, 2 ≤ c → c < D → ¬ c ∣ N) (fun d => N + 3 - (intOf d).toNat)
  case atStart => exact ⟨2, rfl, by omega, by omega, fun c h1 h2 => by omega⟩
  case round =>
   obtain ⟨D, rfl, hD2, hDm, hno⟩ := hrel
   have Hno := hide hno
   clear hno
   obtain ⟨q0, q1⟩ := sq_int (show D ≤ 1048579 by omega)
   have hDp : 0 < (D : Int) := by omega
   by_cases hle : D * D ≤ N
   ·have hle' : (D : Int) * (D : Int) ≤ (N : Int) := by rw [← Int.natCast_mul]; omega
    have hs := sq_le hle hNm
    have hDN : D ≤ N := Nat.le_trans (Nat.le_mul_of_pos_left D (by omega)) hle
    have Hle := hide hle
    have hmod : (N : Int) % (D : Int) = ((N % D : Nat) : Int) := by omega
    clear hle
    by_cases hdv : N % D = 0
    ·have Hnp := hide (not_prime hD2 Hle.out hdv)
     have hz : (((N % D : Nat) : Int) == 0) = true := by rw [hdv]; rfl
     generalize N % D = T at *
     clear hdv
     go_wp2
     go_ret
     exact ⟨Hy.out false ⟨fun h => by simp at h, fun hp => absurd hp Hnp.out⟩, rfl⟩
    ·have hz : (((N % D : Nat) : Int) == 0) = false := by simp; omega
     have Hn : Hid (∀ c, 2 ≤ c → c < D + 1 → ¬ c ∣ N) := fun c h1 h2 => by
      rcases Nat.lt_or_ge c D with h3 | h3
      ·exact Hno.out c h1 h3
      ·obtain rfl : c = D := by omega
       exact fun hd => hdv (Nat.mod_eq_zero_of_dvd hd)
     generalize N % D = T at *
     clear hdv
     go_wp2
     go_round
     case rel => exact ⟨D + 1, by go_num, by omega, by omega, Hn.out⟩
     case measure => simp [intOf]; omega
   ·have hle' : ¬ (D : Int) * (D : Int) ≤ (N : Int) := by rw [← Int.natCast_mul]; omega
    have Hp := hide (prime_end hN2 Hno.out hle)
    clear hle
    go_wp2
    go_ret
    exact ⟨Hy.out true ⟨fun _ => Hp.out, fun _ => rfl⟩, rfl⟩
 ·have Hno : Hid (GivesPrime n (.returned (.bool false))) := ⟨false, rfl, ⟨fun h => by simp at h, fun h => absurd ⟨h.1, h.2.1⟩ c⟩⟩
  have hin : (decide ((2 : Int) ≤ n) && decide (n ≤ 1099511627776)) = false := by simp; omega
  clear c
  go_enter Tryz.func141, Tryz.ntmps141
  go_wp2_with fail
  refine (l1In_int _ 2 1099511627776 _).mono ?_
  rintro r w' ⟨rfl, hw⟩
  obtain rfl := hw.symm
  rw [hin]
  clear hin
  go_wp2
  go_ret
  exact ⟨Hno.out, rfl⟩
set_option maxHeartbeats 800000 in
theorem implPrimeInt_any (n : Int) (w : World) (h1 : n ≤ 9223372036854775807) :
  Calls Tryz.prog 200 #[.int .i64 n] w fun r w' => GivesPrime n r ∧ w' = w := by
 by_cases c : 2 ≤ n ∧ n ≤ 1099511627776
 ·obtain ⟨N, rfl⟩ := Int.eq_ofNat_of_zero_le (show 0 ≤ n by omega)
  obtain ⟨c1, c2⟩ := c
  have hN2 : 2 ≤ N := by omega
  have hNm : N ≤ 1099511627776 := by omega
  have Hy : Hid (∀ ok : Bool, (ok = true ↔ Prime N) → GivesPrime (N : Int) (.returned (.bool ok))) := fun ok h => ⟨ok, rfl, by
   rw [h, Int.toNat_natCast]
   exact ⟨fun hp => ⟨by omega, by omega, hp⟩, fun h => h.2.2⟩⟩
  by_cases hev : N % 2 = 0
  ·have hz : ((N : Int) % 2 == 0) = true := by simp; omega
   by_cases h2 : N = 2
   ·subst h2
    have Hp : Hid (Prime 2) := prime_end (D := 2) (by omega) (fun c h1 h2 => by omega) (by omega)
    go_enter Tryz.func200, Tryz.ntmps200
    go_wp2
    go_ret
    exact ⟨Hy.out true ⟨fun _ => Hp.out, fun _ => rfl⟩, rfl⟩
   ·have h2' : ((N : Int) == 2) = false := by simp; omega
    have Hp : Hid (¬ Prime N) := by
     by_cases h4 : 4 ≤ N
     ·exact not_prime (D := 2) (by omega) (by omega) hev
     ·omega
    go_enter Tryz.func200, Tryz.ntmps200
    go_wp2
    go_ret
    exact ⟨Hy.out false ⟨fun h => by simp at h, fun hp => absurd hp Hp.out⟩, rfl⟩
  ·have hz : ((N : Int) % 2 == 0) = false := by simp; omega
   go_enter Tryz.func200, Tryz.ntmps200
   go_wp2
   clear hz
   go_loop [3] (fun d => ∃ D : Nat, d = .int .i64 D ∧ 3 ≤ D ∧ D % 2 = 1 ∧ D ≤ 1048578 ∧ ∀ c, 2 ≤ c → c < D → ¬ c ∣ N) (fun d => N + 3 - (intOf d).toNat)
   case atStart =>
    refine ⟨3, rfl, by omega, by omega, by omega, fun c h1 h2 => ?_⟩
    obtain rfl : c = 2 := by omega
    exact fun hd => hev (Nat.mod_eq_zero_of_dvd hd)
   case round =>
    obtain ⟨D, rfl, hD2, hodd, hDm, hno⟩ := hrel
    have Hno := hide hno
    clear hno
    obtain ⟨q0, q1⟩ := sq_int (show D ≤ 1048579 by omega)
    have hDp : 0 < (D : Int) := by omega
    by_cases hle : D * D ≤ N
    ·have hle' : (D : Int) * (D : Int) ≤ (N : Int) := by rw [← Int.natCast_mul]; omega
     have hs := sq_le hle hNm
     have hDN : D ≤ N := Nat.le_trans (Nat.le_mul_of_pos_left D (by omega)) hle
     have Hle := hide hle
     have hmod : (N : Int) % (D : Int) = ((N % D : Nat) : Int) := by omega
     clear hle
     by_cases hdv : N % D = 0
     ·have hz : (((N % D : Nat) : Int) == 0) = true := by rw [hdv]; rfl
      have Hnp := hide (not_prime (show 2 ≤ D by omega) Hle.out hdv)
      generalize N % D = T at *
      clear hdv
      go_wp2
      go_ret
      exact ⟨Hy.out false ⟨fun h => by simp at h, fun hp => absurd hp Hnp.out⟩, rfl⟩
     ·have hz : (((N % D : Nat) : Int) == 0) = false := by simp; omega
      have Hn : Hid (∀ c, 2 ≤ c → c < D + 2 → ¬ c ∣ N) := fun c h1 h2 => by
       rcases Nat.lt_or_ge c D with h3 | h3
       ·exact Hno.out c h1 h3
       ·rcases (show c = D ∨ c = D + 1 by omega) with rfl | rfl
        ·exact fun hd => hdv (Nat.mod_eq_zero_of_dvd hd)
        ·exact fun hd => hev (Nat.mod_eq_zero_of_dvd (Nat.dvd_trans (Nat.dvd_of_mod_eq_zero (by omega)) hd))
      generalize N % D = T at *
      clear hdv
      go_wp2
      go_round
      case rel => exact ⟨D + 2, by go_num, by omega, by omega, by omega, Hn.out⟩
      case measure => simp [intOf]; omega
    ·have hle' : ¬ (D : Int) * (D : Int) ≤ (N : Int) := by rw [← Int.natCast_mul]; omega
     have Hp := hide (prime_end hN2 Hno.out hle)
     clear hle
     go_wp2
     go_ret
     exact ⟨Hy.out true ⟨fun _ => Hp.out, fun _ => rfl⟩, rfl⟩
 ·have Hno : Hid (GivesPrime n (.returned (.bool false))) := ⟨false, rfl, ⟨fun h => by simp at h, fun h => absurd ⟨h.1, h.2.1⟩ c⟩⟩
  by_cases c1 : n < 2
  ·clear c
   go_enter Tryz.func200, Tryz.ntmps200
   go_wp2
   go_ret
   exact ⟨Hno.out, rfl⟩
  ·have c2 : 1099511627776 < n := by omega
   clear c
   go_enter Tryz.func200, Tryz.ntmps200
   go_wp2
   go_ret
   exact ⟨Hno.out, rfl⟩
end
end Go.Proofs.YtfhiiakoilkbkaaGreatDoor
