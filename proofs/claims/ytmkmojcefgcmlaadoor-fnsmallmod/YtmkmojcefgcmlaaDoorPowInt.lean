/- Walks: powers of numbers: the model's l2Pow and PowInt, the program's intPower and PowInt. -/
import Derived.Test.YtmkmojcefgcmlaaDoorChecked
import Derived.Test.YtmkmojcefgcmlaaDoorBase
import Derived.Test.YtmkmojcefgcmlaaDoorTheory
import Derived.Test.YtmkmojcefgcmlaaDoorLen
import Derived.Test.YtmkmojcefgcmlaaDoorBits
import Derived.Test.YtmkmojcefgcmlaaDoorIn
namespace Go.Proofs.YtmkmojcefgcmlaaDoor
set_option linter.unusedVariables false
open Go.RowKit

theorem cast_mulmod (x y m : Nat) : ((x : Int) * (y : Int)) % (m : Int) = ((x * y % m : Nat) : Int) := by
  rw [Int.natCast_emod, Int.natCast_mul]

set_option maxHeartbeats 800000 in
theorem intPower_any (a e m : Nat) (w : World) (ha : a < m) (he : e ≤ 9223372036854775807) (hm0 : 0 < m) (hm : m ≤ 1073741824) :
    Calls Tryd.prog 15 #[.int .i64 a, .int .i64 e, .int .i64 m] w fun r w' => r = .returned (.int .i64 ((a ^ e % m : Nat) : Int)) ∧ w' = w := by
  have hmi : 0 < (m : Int) := by omega
  have hr1 : (1 : Int) % (m : Int) = ((1 % m : Nat) : Int) := by rw [Int.natCast_emod]; rfl
  have l1 : 1 % m < m := Nat.mod_lt _ hm0
  have Hs : Hid (1 % m * a ^ e % m = a ^ e % m) := by
    have := pow_start a e m
    rwa [Nat.mod_eq_of_lt ha] at this
  have hlen := Lib.bitLen_le e 64 (by omega) (by omega)
  have Hlt := hide (bitLen_lt e (by omega))
  generalize 1 % m = o0 at *
  generalize a ^ e % m = R at *
  go_enter Tryd.func15, Tryd.ntmps15
  go_wp2_with fail
  refine (len_all (e : Int) _ (by omega) (by omega)).mono ?_
  rintro r w' ⟨rfl, hw⟩
  subst hw
  rw [Int.toNat_natCast]
  generalize Lib.bitLen e = L at *
  go_wp2
  go_loop [7, 8, 16] (fun o b i => ∃ O B K : Nat, o = .int .i64 O ∧ b = .int .i64 B ∧ i = .int .i64 K ∧ K ≤ L ∧ O < m ∧ B < m ∧ O * B ^ (e / 2 ^ K) % m = R) (fun _ _ i => L - (intOf i).toNat)
  case atStart => exact ⟨o0, a, 0, by first | rfl | rw [hr1], rfl, rfl, by omega, l1, ha, by simpa using Hs.out⟩
  case round =>
    obtain ⟨O, B, K, rfl, rfl, rfl, hK, hO, hB, hV⟩ := hrel
    clear hr1 l1 Hs
    have HV := hide hV
    clear hV
    by_cases hend : K = L
    · subst hend
      go_wp2
      go_ret
      exact ⟨ret_int (by rw [← HV.out, Nat.div_eq_of_lt Hlt.out, Nat.pow_zero, Nat.mul_one, Nat.mod_eq_of_lt hO]), rfl⟩
    · have hlt : (K : Int) < (L : Int) := by omega
      have p1 := mul_small hm hO hB
      have p2 := mul_small hm hB hB
      have z1 : 0 ≤ (O : Int) * (B : Int) := Int.mul_nonneg (by omega) (by omega)
      have z2 : 0 ≤ (B : Int) * (B : Int) := Int.mul_nonneg (by omega) (by omega)
      have E1 := hide (cast_mulmod O B m)
      have E2 := hide (cast_mulmod B B m)
      have Hd := hide (show e / 2 ^ (K + 1) = e / 2 ^ K / 2 by rw [Nat.pow_succ, Nat.div_div_eq_div_mul])
      by_cases hodd : e / 2 ^ K % 2 = 1
      · have hb : (bits .and .i64 ((e : Int) / 2 ^ K) 1 == 1) = true := by rw [bit_test]; simpa using hodd
        have Hn := hide (pow_odd O B (e / 2 ^ K) m hodd)
        clear hodd
        go_wp2
        go_round
        case rel => exact ⟨O * B % m, B * B % m, K + 1, by rw [E1.out], by rw [E2.out], by go_num, by omega, Nat.mod_lt _ hm0, Nat.mod_lt _ hm0, by rw [Hd.out]; exact Hn.out.trans HV.out⟩
        case measure => simp [intOf]; omega
      · have hb : (bits .and .i64 ((e : Int) / 2 ^ K) 1 == 1) = false := by rw [bit_test]; simpa using hodd
        have Hn := hide (pow_even O B (e / 2 ^ K) m (by omega))
        clear hodd
        go_wp2
        go_round
        case rel => exact ⟨O, B * B % m, K + 1, rfl, by rw [E2.out], by go_num, by omega, hO, Nat.mod_lt _ hm0, by rw [Hd.out]; exact Hn.out.trans HV.out⟩
        case measure => simp [intOf]; omega

/-- PowInt's answer. -/
def powV (a e m : Int) : Int := if a < 0 ∨ e < 0 ∨ m < 1 ∨ 1073741824 < m then 0 else ((a.toNat ^ e.toNat % m.toNat : Nat) : Int)
def powB (a e m : Int) : Bool := !decide (a < 0 ∨ e < 0 ∨ m < 1 ∨ 1073741824 < m)

theorem ret_ib' {a b : Int} {p q : Bool} (h : a = b) (h2 : p = q) : Ending.returned (.tuple #[.int .i64 a, .bool p]) = .returned (.tuple #[.int .i64 b, .bool q]) := by rw [h, h2]

set_option maxHeartbeats 800000 in
theorem implPowInt_any (a e m : Int) (w : World) (ha : a ≤ 9223372036854775807) (he : e ≤ 9223372036854775807) (hm : m ≤ 9223372036854775807) :
    Calls Tryd.prog 6 #[.int .i64 a, .int .i64 e, .int .i64 m] w fun r w' => r = .returned (.tuple #[.int .i64 (powV a e m), .bool (powB a e m)]) ∧ w' = w := by
  by_cases c : a < 0 ∨ e < 0 ∨ m < 1 ∨ 1073741824 < m
  · have Hf := hide (show powV a e m = 0 ∧ powB a e m = false by
      constructor
      · rw [powV, if_pos c]
      · rw [powB, decide_eq_true c]; rfl)
    by_cases c1 : a < 0
    · go_enter Tryd.func6, Tryd.ntmps6
      go_wp2
      go_ret2
      exact ⟨ret_ib' Hf.out.1.symm Hf.out.2.symm, rfl⟩
    · by_cases c2 : e < 0
      · go_enter Tryd.func6, Tryd.ntmps6
        go_wp2
        go_ret2
        exact ⟨ret_ib' Hf.out.1.symm Hf.out.2.symm, rfl⟩
      · by_cases c3 : m < 1
        · go_enter Tryd.func6, Tryd.ntmps6
          go_wp2
          go_ret2
          exact ⟨ret_ib' Hf.out.1.symm Hf.out.2.symm, rfl⟩
        · have c4 : 1073741824 < m := by omega
          clear c
          go_enter Tryd.func6, Tryd.ntmps6
          go_wp2
          go_ret2
          exact ⟨ret_ib' Hf.out.1.symm Hf.out.2.symm, rfl⟩
  · obtain ⟨x, rfl⟩ := Int.eq_ofNat_of_zero_le (show 0 ≤ a by omega)
    obtain ⟨y, rfl⟩ := Int.eq_ofNat_of_zero_le (show 0 ≤ e by omega)
    obtain ⟨z, rfl⟩ := Int.eq_ofNat_of_zero_le (show 0 ≤ m by omega)
    have Hf := hide (show powV (x : Int) (y : Int) (z : Int) = ((x ^ y % z : Nat) : Int) ∧ powB (x : Int) (y : Int) (z : Int) = true by
      constructor
      · rw [powV, if_neg c]; simp
      · rw [powB, decide_eq_false c]; rfl)
    have z0 : 0 < (z : Int) := by omega
    have z1 : (z : Int) ≤ 1073741824 := by omega
    clear c
    go_enter Tryd.func6, Tryd.ntmps6
    go_wp2_with fail
    rw [show (x : Int) % (z : Int) = ((x % z : Nat) : Int) by omega]
    refine (intPower_any (x % z) y z _ (Nat.mod_lt _ (by omega)) (by omega) (by omega) (by omega)).mono ?_
    rintro r w' ⟨rfl, hw⟩
    subst hw
    rw [← Nat.pow_mod]
    generalize ((x ^ y % z : Nat) : Int) = v at *
    go_wp2
    go_ret2
    exact ⟨ret_ib' Hf.out.1.symm Hf.out.2.symm, rfl⟩

end Go.Proofs.YtmkmojcefgcmlaaDoor
