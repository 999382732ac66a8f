/- Walks: inverses of numbers: the model's l2Left, l2Inv and InvInt, the program's intRest and InvInt. -/
import Derived.Test.YtdaneanloknkpabDoorChecked
import Derived.Test.YtdaneanloknkpabDoorBase
import Derived.Test.YtdaneanloknkpabDoorPowM
import Derived.Test.YtdaneanloknkpabDoorPowInt
namespace Go.Proofs.YtdaneanloknkpabDoor
set_option linter.unusedVariables false
open Go.RowKit

theorem left_neg (a m : Int) (ha : a < 0) (hm : 0 < m) : Int.tmod a m % m = a % m := by
  have e := Int.tmod_add_mul_tdiv a m
  have e2 : Int.tmod a m = a + m * -(Int.tdiv a m) := by rw [Int.mul_neg]; omega
  rw [e2, Int.add_mul_emod_self_left]

theorem tmod_neg {a m : Int} (ha : a < 0) : Int.tmod a m ≤ 0 := by
  have e : Int.tmod a m = -(Int.tmod (-a) m) := by rw [Int.neg_tmod]; omega
  have := Int.tmod_nonneg m (show 0 ≤ -a by omega)
  omega

set_option maxHeartbeats 400000 in
theorem l2Left_any (a m : Int) (w : World) (h0 : -9223372036854775808 ≤ a) (h1 : a ≤ 9223372036854775807) (hm0 : 2 ≤ m) (hm : m ≤ 1073741824) :
    Calls Tryd.prog 107 #[.int .i64 a, .int .i64 m] w fun r w' => r = .returned (.int .i64 (a % m)) ∧ w' = w := by
  have hmp : 0 < m := by omega
  by_cases h : 0 ≤ a
  · have r0 := Int.emod_nonneg a (show m ≠ 0 by omega)
    have r1 := Int.emod_lt_of_pos a hmp
    go_enter Tryd.func107, Tryd.ntmps107
    go_wp2
    go_ret
    exact ⟨ret_int (by rw [Int.add_emod_right, Int.emod_emod]), rfl⟩
  · have Hf := hide (left_neg a m (by omega) hmp)
    have t0 : -m < Int.tmod a m := Int.lt_tmod_of_pos a hmp
    have t1 : Int.tmod a m ≤ 0 := tmod_neg (by omega)
    go_enter Tryd.func107, Tryd.ntmps107
    go_wp2
    go_ret
    exact ⟨ret_int Hf.out, rfl⟩

set_option maxHeartbeats 400000 in
theorem intRest_any (a m : Int) (w : World) (h0 : -9223372036854775808 ≤ a) (h1 : a ≤ 9223372036854775807) (hm0 : 2 ≤ m) (hm : m ≤ 1073741824) :
    Calls Tryd.prog 150 #[.int .i64 a, .int .i64 m] w fun r w' => r = .returned (.int .i64 (a % m)) ∧ w' = w := by
  have hmp : 0 < m := by omega
  by_cases h : 0 ≤ a
  · have r0 := Int.emod_nonneg a (show m ≠ 0 by omega)
    have r1 := Int.emod_lt_of_pos a hmp
    go_enter Tryd.func150, Tryd.ntmps150
    go_wp2
    go_ret
    exact ⟨ret_int (by rw [Int.add_emod_right, Int.emod_emod]), rfl⟩
  · have Hf := hide (left_neg a m (by omega) hmp)
    have t0 : -m < Int.tmod a m := Int.lt_tmod_of_pos a hmp
    have t1 : Int.tmod a m ≤ 0 := tmod_neg (by omega)
    go_enter Tryd.func150, Tryd.ntmps150
    go_wp2
    go_ret
    exact ⟨ret_int Hf.out, rfl⟩

/-- The answer of an inverse by m: what is left of a is taken. -/
def invR (a m : Int) : Nat := (a % m).toNat

theorem invR_lt {a m : Int} (hm : 2 ≤ m) : invR a m < m.toNat ∧ a % m = (invR a m : Int) := by
  have r0 := Int.emod_nonneg a (show m ≠ 0 by omega)
  have r1 := Int.emod_lt_of_pos a (show 0 < m by omega)
  unfold invR
  omega

theorem div_mod_int (R S : Nat) : (R : Int) - ((R / S : Nat) : Int) * (S : Int) = ((R % S : Nat) : Int) := by
  have := Nat.div_add_mod R S
  rw [← Int.natCast_mul, Nat.mul_comm]
  omega

/-- InvInt's answer. -/
def InvAns (a m v : Int) (ok : Bool) : Prop :=
  (m < 2 ∨ 1073741824 < m → v = 0 ∧ ok = false) ∧ (2 ≤ m → m ≤ 1073741824 → IsInv m.toNat (invR a m) v ok)

/-- A call's answer is InvInt's. -/
def GivesInv (a m : Int) (r : Ending) : Prop := ∃ v ok, r = .returned (.tuple #[.int .i64 v, .bool ok]) ∧ InvAns a m v ok

theorem InvAns.unique {a m v v' : Int} {ok ok' : Bool} (h : InvAns a m v ok) (h' : InvAns a m v' ok') : v = v' ∧ ok = ok' := by
  by_cases c : m < 2 ∨ 1073741824 < m
  · obtain ⟨rfl, rfl⟩ := h.1 c
    obtain ⟨rfl, rfl⟩ := h'.1 c
    exact ⟨rfl, rfl⟩
  · exact (h.2 (by omega) (by omega)).unique (h'.2 (by omega) (by omega))

set_option maxHeartbeats 1600000 in
theorem l2Inv_any (a : Int) (m : Nat) (w : World) (h0 : -9223372036854775808 ≤ a) (h1 : a ≤ 9223372036854775807) (hm0 : 2 ≤ m) (hm : m ≤ 1073741824) :
    Calls Tryd.prog 106 #[.int .i64 a, .int .i64 (m : Int)] w fun r w' => (∃ v, r = .returned (.int .i64 v) ∧ IsInv m (invR a m) v (decide (0 < v)) ∧ 0 ≤ v) ∧ Drawn w w' := by
  obtain ⟨hlt, he⟩ := invR_lt (a := a) (m := (m : Int)) (by omega)
  rw [Int.toNat_natCast] at hlt
  generalize invR a (m : Int) = A at *
  go_enter Tryd.func106, Tryd.ntmps106
  go_wp2_with fail
  refine (l2Left_any a (m : Int) _ h0 h1 (by omega) (by omega)).mono ?_
  rintro r w' ⟨rfl, hw⟩
  obtain rfl := hw.symm
  rw [he]
  have E0 := hide (euclid_start hlt)
  clear he
  go_wp2
  go_loopw [5, 6, 7, 8] (fun r s x y wr => ∃ (R S : Nat) (X Y : Int), r = .int .i64 R ∧ s = .int .i64 S ∧ x = .int .i64 X ∧ y = .int .i64 Y ∧ Euclid m A R S X Y ∧ R ≤ m ∧ Drawn w wr) (fun _ s _ _ _ => (intOf s).toNat)
  case atStart => exact ⟨m, A, 0, 1, rfl, rfl, rfl, rfl, E0.out, by omega, Drawn.refl _⟩
  case round =>
    obtain ⟨R, S, X, Y, rfl, rfl, rfl, rfl, hE, hR, hQ⟩ := hrel
    clear E0
    have sm := hE.small
    obtain ⟨s1, s2, s3, s4⟩ := sm
    by_cases hS : S = 0
    · subst hS
      by_cases hR1 : R = 1
      · obtain ⟨hI, hpos⟩ := hE.done hm0 hR1
        have HI := hide hI
        have HP := hide hpos
        subst hR1
        clear hE hI hpos
        go_wp2_with fail
        refine (l2Left_any X (m : Int) _ (by omega) (by omega) (by omega) (by omega)).mono ?_
        rintro r w' ⟨rfl, hw⟩
        subst hw
        generalize X % (m : Int) = v at *
        go_wp2
        go_ret
        exact ⟨⟨v, rfl, by rw [decide_eq_true HP.out]; exact HI.out, Int.le_of_lt HP.out⟩, hQ⟩
      · have HI := hide (hE.done_no hR1)
        have hb : ((R : Int) != 1) = true := by simp; omega
        clear hE hR1
        go_wp2
        go_ret
        exact ⟨⟨0, rfl, by simpa using HI.out, Int.le_refl _⟩, hQ⟩
    · have hSp : 0 < S := by omega
      have hst := hide (hE.step hSp)
      obtain ⟨q1, q2⟩ := hE.small_mul hSp
      have hq := hide (hE.step hSp).small
      have hdiv : (R : Int) / (S : Int) = ((R / S : Nat) : Int) := by omega
      have hmod : (R : Int) % (S : Int) = ((R % S : Nat) : Int) := by omega
      have ml := Nat.mod_lt R hSp
      have dl := Nat.div_le_self R S
      have hlt := hE.lt
      clear hE
      generalize R / S = Q at *
      generalize R % S = T at *
      obtain ⟨t1, t2, t3, t4⟩ := hq.out
      clear hq
      generalize hz : (Q : Int) * Y = Z at *
      go_wp2
      go_quiet (fail)
      go_wp2
      go_roundw
      case rel => exact ⟨S, T, Y, X - Z, rfl, by first | rfl | rw [hmod], rfl, rfl, hst.out, by omega, hQ.more _⟩
      case measure => simp [intOf]; omega

set_option maxHeartbeats 1600000 in
theorem implInvInt_any (a m : Int) (w : World) (h0 : -9223372036854775808 ≤ a) (h1 : a ≤ 9223372036854775807) :
    Calls Tryd.prog 163 #[.int .i64 a, .int .i64 m] w fun r w' => GivesInv a m r ∧ w' = w := by
  by_cases c : 2 ≤ m ∧ m ≤ 1073741824
  · obtain ⟨z, rfl⟩ := Int.eq_ofNat_of_zero_le (show 0 ≤ m by omega)
    obtain ⟨c1, c2⟩ := c
    obtain ⟨hlt, he⟩ := invR_lt (a := a) (m := (z : Int)) (by omega)
    rw [Int.toNat_natCast] at hlt
    have hm0 : 2 ≤ z := by omega
    have HA : Hid (∀ v ok, IsInv z (invR a z) v ok → InvAns a (z : Int) v ok) := fun v ok h => ⟨fun h => by omega, fun _ _ => by rw [Int.toNat_natCast]; exact h⟩
    generalize invR a (z : Int) = A at *
    go_enter Tryd.func163, Tryd.ntmps163
    go_wp2_with fail
    refine (intRest_any a (z : Int) _ h0 h1 (by omega) (by omega)).mono ?_
    rintro r w' ⟨rfl, hw⟩
    obtain rfl := hw.symm
    rw [he]
    have E0 := hide (euclid_start hlt)
    clear he
    go_wp2
    go_loop [6, 7, 8, 9] (fun r s x y => ∃ (R S : Nat) (X Y : Int), r = .int .i64 R ∧ s = .int .i64 S ∧ x = .int .i64 X ∧ y = .int .i64 Y ∧ Euclid z A R S X Y ∧ R ≤ z) (fun _ s _ _ => (intOf s).toNat)
    case atStart => exact ⟨z, A, 0, 1, rfl, rfl, rfl, rfl, E0.out, by omega⟩
    case round =>
      obtain ⟨R, S, X, Y, rfl, rfl, rfl, rfl, hE, hR⟩ := hrel
      clear E0
      have sm := hE.small
      obtain ⟨s1, s2, s3, s4⟩ := sm
      by_cases hS : S = 0
      · subst hS
        by_cases hR1 : R = 1
        · obtain ⟨hI, hpos⟩ := hE.done hm0 hR1
          have HI := hide hI
          subst hR1
          clear hE hI hpos
          go_wp2_with fail
          refine (intRest_any X (z : Int) _ (by omega) (by omega) (by omega) (by omega)).mono ?_
          rintro r w' ⟨rfl, hw⟩
          obtain rfl := hw.symm
          generalize X % (z : Int) = v at *
          go_wp2
          go_ret2
          exact ⟨⟨v, true, rfl, HA.out _ _ HI.out⟩, rfl⟩
        · have HI := hide (hE.done_no hR1)
          have hb : ((R : Int) != 1) = true := by simp; omega
          clear hE hR1
          go_wp2
          go_ret2
          exact ⟨⟨0, false, rfl, HA.out _ _ HI.out⟩, rfl⟩
      · have hSp : 0 < S := by omega
        have hst := hide (hE.step hSp)
        obtain ⟨q1, q2⟩ := hE.small_mul hSp
        have hq := hide (hE.step hSp).small
        have hdiv : (R : Int) / (S : Int) = ((R / S : Nat) : Int) := by omega
        have hmod := div_mod_int R S
        have ml := Nat.mod_lt R hSp
        have dl := Nat.div_le_self R S
        have hlt := hE.lt
        clear hE
        generalize R / S = Q at *
        generalize R % S = T at *
        obtain ⟨t1, t2, t3, t4⟩ := hq.out
        clear hq
        generalize hz : (Q : Int) * Y = Z at *
        generalize hz2 : (Q : Int) * (S : Int) = Z2 at *
        go_wp2
        go_round
        case rel => exact ⟨S, T, Y, X - Z, rfl, by first | rfl | rw [hmod], rfl, rfl, hst.out, by omega⟩
        case measure => simp [intOf]; omega
  · have HA : Hid (InvAns a m 0 false) := ⟨fun _ => ⟨rfl, rfl⟩, fun h h' => absurd ⟨h, h'⟩ c⟩
    by_cases c1 : m < 2
    · clear c
      go_enter Tryd.func163, Tryd.ntmps163
      go_wp2
      go_ret2
      exact ⟨⟨0, false, rfl, HA.out⟩, rfl⟩
    · have c2 : 1073741824 < m := by omega
      clear c
      go_enter Tryd.func163, Tryd.ntmps163
      go_wp2
      go_ret2
      exact ⟨⟨0, false, rfl, HA.out⟩, rfl⟩

end Go.Proofs.YtdaneanloknkpabDoor
