/- Walks: powers of numbers: the model's l2Pow and PowInt, the program's intPower and PowInt. -/
import Derived.Test.YtdaneanloknkpabDoorChecked
import Derived.Test.YtdaneanloknkpabDoorBase
import Derived.Test.YtdaneanloknkpabDoorPowM
import Derived.Test.YtdaneanloknkpabDoorLen
import Derived.Test.YtdaneanloknkpabDoorBits
import Derived.Test.YtdaneanloknkpabDoorIn
namespace Go.Proofs.YtdaneanloknkpabDoor
set_option linter.unusedVariables false
open Go.RowKit

theorem cast_mulmod (x y m : Nat) : ((x : Int) * (y : Int)) % (m : Int) = ((x * y % m : Nat) : Int) := by
  rw [Int.natCast_emod, Int.natCast_mul]

set_option maxHeartbeats 800000 in
theorem l2Pow_any (a e m : Nat) (w : World) (ha : a ≤ 9223372036854775807) (he : e ≤ 9223372036854775807) (hm0 : 0 < m) (hm : m ≤ 1073741824) :
    Calls Tryd.prog 108 #[.int .i64 a, .int .i64 e, .int .i64 m] w fun r w' => r = .returned (.int .i64 ((a ^ e % m : Nat) : Int)) ∧ Drawn w w' := by
  have hmi : 0 < (m : Int) := by omega
  have hr1 : (1 : Int) % (m : Int) = ((1 % m : Nat) : Int) := by rw [Int.natCast_emod]; rfl
  have hr2 : (a : Int) % (m : Int) = ((a % m : Nat) : Int) := by omega
  have l1 : 1 % m < m := Nat.mod_lt _ hm0
  have l2 : a % m < m := Nat.mod_lt _ hm0
  have Hs := hide (pow_start a e m)
  go_enter Tryd.func108, Tryd.ntmps108
  go_wp2
  go_quiet (fail)
  generalize 1 % m = o0 at *
  generalize a % m = b0 at *
  go_wp2
  go_loopw [1, 7, 8] (fun x o b wr => ∃ X O B : Nat, x = .int .i64 X ∧ o = .int .i64 O ∧ b = .int .i64 B ∧ O < m ∧ B < m ∧ X ≤ 9223372036854775807 ∧ O * B ^ X % m = a ^ e % m ∧ Drawn w wr) (fun x _ _ _ => (intOf x).toNat)
  case atStart => exact ⟨e, o0, b0, rfl, by rw [hr1], by rw [hr2], l1, l2, he, Hs.out, (Drawn.refl _).more _⟩
  case round =>
    obtain ⟨X, O, B, rfl, rfl, rfl, hO, hB, hX, hV, hQ⟩ := hrel
    clear hr1 hr2 l1 l2 Hs
    have HV := hide hV
    clear hV
    by_cases h0 : X = 0
    · subst h0
      go_wp2
      go_ret
      exact ⟨ret_int (by rw [← HV.out, Nat.pow_zero, Nat.mul_one, Nat.mod_eq_of_lt hO]), hQ⟩
    · have hp : 0 < (X : Int) := by omega
      have p1 := mul_small hm hO hB
      have p2 := mul_small hm hB hB
      have z1 : 0 ≤ (O : Int) * (B : Int) := Int.mul_nonneg (by omega) (by omega)
      have z2 : 0 ≤ (B : Int) * (B : Int) := Int.mul_nonneg (by omega) (by omega)
      have E1 := hide (cast_mulmod O B m)
      have E2 := hide (cast_mulmod B B m)
      by_cases hodd : X % 2 = 1
      · have hb : (X : Int) % 2 = 1 := by omega
        have Hn := hide (pow_odd O B X m hodd)
        go_wp2
        go_roundw
        case rel => exact ⟨X / 2, O * B % m, B * B % m, by go_num, by rw [E1.out], by rw [E2.out], Nat.mod_lt _ hm0, Nat.mod_lt _ hm0, by omega, Hn.out.trans HV.out, hQ⟩
        case measure => simp [intOf]; omega
      · have hb : (X : Int) % 2 = 0 := by omega
        have Hn := hide (pow_even O B X m (by omega))
        go_wp2
        go_roundw
        case rel => exact ⟨X / 2, O, B * B % m, by go_num, rfl, by rw [E2.out], hO, Nat.mod_lt _ hm0, by omega, Hn.out.trans HV.out, hQ⟩
        case measure => simp [intOf]; omega

set_option maxHeartbeats 800000 in
theorem intPower_any (a e m : Nat) (w : World) (ha : a < m) (he : e ≤ 9223372036854775807) (hm0 : 0 < m) (hm : m ≤ 1073741824) :
    Calls Tryd.prog 162 #[.int .i64 a, .int .i64 e, .int .i64 m] w fun r w' => r = .returned (.int .i64 ((a ^ e % m : Nat) : Int)) ∧ w' = w := by
  have hmi : 0 < (m : Int) := by omega
  have hr1 : (1 : Int) % (m : Int) = ((1 % m : Nat) : Int) := by rw [Int.natCast_emod]; rfl
  have l1 : 1 % m < m := Nat.mod_lt _ hm0
  have Hs : Hid (1 % m * a ^ e % m = a ^ e % m) := by
    have := pow_start a e m
    rwa [Nat.mod_eq_of_lt ha] at this
  have hlen := Lib.bitLen_le e 64 (by omega) (by omega)
  have Hlt := hide (bitLen_lt e (by omega))
  generalize 1 % m = o0 at *
  generalize a ^ e % m = R at *
  go_enter Tryd.func162, Tryd.ntmps162
  go_wp2_with fail
  refine (len_all (e : Int) _ (by omega) (by omega)).mono ?_
  rintro r w' ⟨rfl, hw⟩
  subst hw
  rw [Int.toNat_natCast]
  generalize Lib.bitLen e = L at *
  go_wp2
  go_loop [7, 8, 16] (fun o b i => ∃ O B K : Nat, o = .int .i64 O ∧ b = .int .i64 B ∧ i = .int .i64 K ∧ K ≤ L ∧ O < m ∧ B < m ∧ O * B ^ (e / 2 ^ K) % m = R) (fun _ _ i => L - (intOf i).toNat)
  case atStart => exact ⟨o0, a, 0, by first | rfl | rw [hr1], rfl, rfl, by omega, l1, ha, by simpa using Hs.out⟩
  case round =>
    obtain ⟨O, B, K, rfl, rfl, rfl, hK, hO, hB, hV⟩ := hrel
    clear hr1 l1 Hs
    have HV := hide hV
    clear hV
    by_cases hend : K = L
    · subst hend
      go_wp2
      go_ret
      exact ⟨ret_int (by rw [← HV.out, Nat.div_eq_of_lt Hlt.out, Nat.pow_zero, Nat.mul_one, Nat.mod_eq_of_lt hO]), rfl⟩
    · have hlt : (K : Int) < (L : Int) := by omega
      have p1 := mul_small hm hO hB
      have p2 := mul_small hm hB hB
      have z1 : 0 ≤ (O : Int) * (B : Int) := Int.mul_nonneg (by omega) (by omega)
      have z2 : 0 ≤ (B : Int) * (B : Int) := Int.mul_nonneg (by omega) (by omega)
      have E1 := hide (cast_mulmod O B m)
      have E2 := hide (cast_mulmod B B m)
      have Hd := hide (show e / 2 ^ (K + 1) = e / 2 ^ K / 2 by rw [Nat.pow_succ, Nat.div_div_eq_div_mul])
      by_cases hodd : e / 2 ^ K % 2 = 1
      · have hb : (bits .and .i64 ((e : Int) / 2 ^ K) 1 == 1) = true := by rw [bit_test]; simpa using hodd
        have Hn := hide (pow_odd O B (e / 2 ^ K) m hodd)
        clear hodd
        go_wp2
        go_round
        case rel => exact ⟨O * B % m, B * B % m, K + 1, by rw [E1.out], by rw [E2.out], by go_num, by omega, Nat.mod_lt _ hm0, Nat.mod_lt _ hm0, by rw [Hd.out]; exact Hn.out.trans HV.out⟩
        case measure => simp [intOf]; omega
      · have hb : (bits .and .i64 ((e : Int) / 2 ^ K) 1 == 1) = false := by rw [bit_test]; simpa using hodd
        have Hn := hide (pow_even O B (e / 2 ^ K) m (by omega))
        clear hodd
        go_wp2
        go_round
        case rel => exact ⟨O, B * B % m, K + 1, rfl, by rw [E2.out], by go_num, by omega, hO, Nat.mod_lt _ hm0, by rw [Hd.out]; exact Hn.out.trans HV.out⟩
        case measure => simp [intOf]; omega

/-- PowInt's answer. -/
def powV (a e m : Int) : Int := if a < 0 ∨ e < 0 ∨ m < 1 ∨ 1073741824 < m then 0 else ((a.toNat ^ e.toNat % m.toNat : Nat) : Int)
def powB (a e m : Int) : Bool := !decide (a < 0 ∨ e < 0 ∨ m < 1 ∨ 1073741824 < m)

theorem ret_ib' {a b : Int} {p q : Bool} (h : a = b) (h2 : p = q) : Ending.returned (.tuple #[.int .i64 a, .bool p]) = .returned (.tuple #[.int .i64 b, .bool q]) := by rw [h, h2]

end Go.Proofs.YtdaneanloknkpabDoor
