/- Walks: PrimeInt, of the model and of the program: whether a number is prime. -/
import Derived.Test.YtdaneanloknkpabDoorChecked
import Derived.Test.YtdaneanloknkpabDoorBase
import Derived.Test.YtdaneanloknkpabDoorIn
import Derived.Test.YtdaneanloknkpabDoorFermatM
namespace Go.Proofs.YtdaneanloknkpabDoor
set_option linter.unusedVariables false
open Go.RowKit

/-- A call's answer is whether n is a prime number in 2 .. 2^40. -/
def GivesPrime (n : Int) (r : Ending) : Prop := ∃ ok : Bool, r = .returned (.bool ok) ∧ (ok = true ↔ 2 ≤ n ∧ n ≤ 1099511627776 ∧ Prime n.toNat)

theorem sq_le {D N : Nat} (h : D * D ≤ N) (hN : N ≤ 1099511627776) : D ≤ 1048576 := by
  rcases Nat.lt_or_ge 1048576 D with h1 | h1
  · have := Nat.mul_le_mul (show 1048577 ≤ D by omega) (show 1048577 ≤ D by omega)
    omega
  · exact h1

theorem sq_int {D : Nat} (h : D ≤ 1048579) : 0 ≤ (D : Int) * (D : Int) ∧ (D : Int) * (D : Int) ≤ 2199023255552 := by
  have := Nat.mul_le_mul h h
  rw [← Int.natCast_mul]
  omega

theorem prime_end {N D : Nat} (h2 : 2 ≤ N) (hno : ∀ c, 2 ≤ c → c < D → ¬ c ∣ N) (h : ¬ D * D ≤ N) : Prime N := by
  refine ⟨h2, fun d hd hdd => hno d hd ?_⟩
  rcases Nat.lt_or_ge d D with h1 | h1
  · exact h1
  · exact absurd (Nat.le_trans (Nat.mul_le_mul h1 h1) hdd) h

theorem not_prime {N D : Nat} (h2 : 2 ≤ D) (h : D * D ≤ N) (hd : N % D = 0) : ¬ Prime N := fun hp => hp.2 D h2 h (Nat.dvd_of_mod_eq_zero hd)

set_option maxHeartbeats 800000 in
theorem specPrimeInt_any (n : Int) (w : World) (h1 : n ≤ 9223372036854775807) :
    Calls Tryd.prog 105 #[.int .i64 n] w fun r w' => GivesPrime n r ∧ w' = w := by
  by_cases c : 2 ≤ n ∧ n ≤ 1099511627776
  · obtain ⟨N, rfl⟩ := Int.eq_ofNat_of_zero_le (show 0 ≤ n by omega)
    have hin : (decide ((2 : Int) ≤ (N : Int)) && decide ((N : Int) ≤ 1099511627776)) = true := by simp; omega
    obtain ⟨c1, c2⟩ := c
    have hN2 : 2 ≤ N := by omega
    have hNm : N ≤ 1099511627776 := by omega
    have Hy : Hid (∀ ok : Bool, (ok = true ↔ Prime N) → GivesPrime (N : Int) (.returned (.bool ok))) := fun ok h => ⟨ok, rfl, by
      rw [h, Int.toNat_natCast]
      exact ⟨fun hp => ⟨by omega, by omega, hp⟩, fun h => h.2.2⟩⟩
    go_enter Tryd.func105, Tryd.ntmps105
    go_wp2_with fail
    refine (l1In_int _ 2 1099511627776 _).mono ?_
    rintro r w' ⟨rfl, hw⟩
    obtain rfl := hw.symm
    rw [hin]
    clear hin
    go_wp2
    go_loop [3] (fun d => ∃ D : Nat, d = .int .i64 D ∧ 2 ≤ D ∧ D ≤ 1048577 ∧ ∀ c, 2 ≤ c → c < D → ¬ c ∣ N) (fun d => N + 3 - (intOf d).toNat)
    case atStart => exact ⟨2, rfl, by omega, by omega, fun c h1 h2 => by omega⟩
    case round =>
      obtain ⟨D, rfl, hD2, hDm, hno⟩ := hrel
      have Hno := hide hno
      clear hno
      obtain ⟨q0, q1⟩ := sq_int (show D ≤ 1048579 by omega)
      have hDp : 0 < (D : Int) := by omega
      by_cases hle : D * D ≤ N
      · have hle' : (D : Int) * (D : Int) ≤ (N : Int) := by rw [← Int.natCast_mul]; omega
        have hs := sq_le hle hNm
        have hDN : D ≤ N := Nat.le_trans (Nat.le_mul_of_pos_left D (by omega)) hle
        have Hle := hide hle
        have hmod : (N : Int) % (D : Int) = ((N % D : Nat) : Int) := by omega
        clear hle
        by_cases hdv : N % D = 0
        · have Hnp := hide (not_prime hD2 Hle.out hdv)
          have hz : (((N % D : Nat) : Int) == 0) = true := by rw [hdv]; rfl
          generalize N % D = T at *
          clear hdv
          go_wp2
          go_ret
          exact ⟨Hy.out false ⟨fun h => by simp at h, fun hp => absurd hp Hnp.out⟩, rfl⟩
        · have hz : (((N % D : Nat) : Int) == 0) = false := by simp; omega
          have Hn : Hid (∀ c, 2 ≤ c → c < D + 1 → ¬ c ∣ N) := fun c h1 h2 => by
            rcases Nat.lt_or_ge c D with h3 | h3
            · exact Hno.out c h1 h3
            · obtain rfl : c = D := by omega
              exact fun hd => hdv (Nat.mod_eq_zero_of_dvd hd)
          generalize N % D = T at *
          clear hdv
          go_wp2
          go_round
          case rel => exact ⟨D + 1, by go_num, by omega, by omega, Hn.out⟩
          case measure => simp [intOf]; omega
      · have hle' : ¬ (D : Int) * (D : Int) ≤ (N : Int) := by rw [← Int.natCast_mul]; omega
        have Hp := hide (prime_end hN2 Hno.out hle)
        clear hle
        go_wp2
        go_ret
        exact ⟨Hy.out true ⟨fun _ => Hp.out, fun _ => rfl⟩, rfl⟩
  · have Hno : Hid (GivesPrime n (.returned (.bool false))) := ⟨false, rfl, ⟨fun h => by simp at h, fun h => absurd ⟨h.1, h.2.1⟩ c⟩⟩
    have hin : (decide ((2 : Int) ≤ n) && decide (n ≤ 1099511627776)) = false := by simp; omega
    clear c
    go_enter Tryd.func105, Tryd.ntmps105
    go_wp2_with fail
    refine (l1In_int _ 2 1099511627776 _).mono ?_
    rintro r w' ⟨rfl, hw⟩
    obtain rfl := hw.symm
    rw [hin]
    clear hin
    go_wp2
    go_ret
    exact ⟨Hno.out, rfl⟩

set_option maxHeartbeats 800000 in
theorem implPrimeInt_any (n : Int) (w : World) (h1 : n ≤ 9223372036854775807) :
    Calls Tryd.prog 161 #[.int .i64 n] w fun r w' => GivesPrime n r ∧ w' = w := by
  by_cases c : 2 ≤ n ∧ n ≤ 1099511627776
  · obtain ⟨N, rfl⟩ := Int.eq_ofNat_of_zero_le (show 0 ≤ n by omega)
    obtain ⟨c1, c2⟩ := c
    have hN2 : 2 ≤ N := by omega
    have hNm : N ≤ 1099511627776 := by omega
    have Hy : Hid (∀ ok : Bool, (ok = true ↔ Prime N) → GivesPrime (N : Int) (.returned (.bool ok))) := fun ok h => ⟨ok, rfl, by
      rw [h, Int.toNat_natCast]
      exact ⟨fun hp => ⟨by omega, by omega, hp⟩, fun h => h.2.2⟩⟩
    by_cases hev : N % 2 = 0
    · have hz : ((N : Int) % 2 == 0) = true := by simp; omega
      by_cases h2 : N = 2
      · subst h2
        have Hp : Hid (Prime 2) := prime_end (D := 2) (by omega) (fun c h1 h2 => by omega) (by omega)
        go_enter Tryd.func161, Tryd.ntmps161
        go_wp2
        go_ret
        exact ⟨Hy.out true ⟨fun _ => Hp.out, fun _ => rfl⟩, rfl⟩
      · have h2' : ((N : Int) == 2) = false := by simp; omega
        have Hp : Hid (¬ Prime N) := by
          by_cases h4 : 4 ≤ N
          · exact not_prime (D := 2) (by omega) (by omega) hev
          · omega
        go_enter Tryd.func161, Tryd.ntmps161
        go_wp2
        go_ret
        exact ⟨Hy.out false ⟨fun h => by simp at h, fun hp => absurd hp Hp.out⟩, rfl⟩
    · have hz : ((N : Int) % 2 == 0) = false := by simp; omega
      go_enter Tryd.func161, Tryd.ntmps161
      go_wp2
      clear hz
      go_loop [3] (fun d => ∃ D : Nat, d = .int .i64 D ∧ 3 ≤ D ∧ D % 2 = 1 ∧ D ≤ 1048578 ∧ ∀ c, 2 ≤ c → c < D → ¬ c ∣ N) (fun d => N + 3 - (intOf d).toNat)
      case atStart =>
        refine ⟨3, rfl, by omega, by omega, by omega, fun c h1 h2 => ?_⟩
        obtain rfl : c = 2 := by omega
        exact fun hd => hev (Nat.mod_eq_zero_of_dvd hd)
      case round =>
        obtain ⟨D, rfl, hD2, hodd, hDm, hno⟩ := hrel
        have Hno := hide hno
        clear hno
        obtain ⟨q0, q1⟩ := sq_int (show D ≤ 1048579 by omega)
        have hDp : 0 < (D : Int) := by omega
        by_cases hle : D * D ≤ N
        · have hle' : (D : Int) * (D : Int) ≤ (N : Int) := by rw [← Int.natCast_mul]; omega
          have hs := sq_le hle hNm
          have hDN : D ≤ N := Nat.le_trans (Nat.le_mul_of_pos_left D (by omega)) hle
          have Hle := hide hle
          have hmod : (N : Int) % (D : Int) = ((N % D : Nat) : Int) := by omega
          clear hle
          by_cases hdv : N % D = 0
          · have hz : (((N % D : Nat) : Int) == 0) = true := by rw [hdv]; rfl
            have Hnp := hide (not_prime (show 2 ≤ D by omega) Hle.out hdv)
            generalize N % D = T at *
            clear hdv
            go_wp2
            go_ret
            exact ⟨Hy.out false ⟨fun h => by simp at h, fun hp => absurd hp Hnp.out⟩, rfl⟩
          · have hz : (((N % D : Nat) : Int) == 0) = false := by simp; omega
            have Hn : Hid (∀ c, 2 ≤ c → c < D + 2 → ¬ c ∣ N) := fun c h1 h2 => by
              rcases Nat.lt_or_ge c D with h3 | h3
              · exact Hno.out c h1 h3
              · rcases (show c = D ∨ c = D + 1 by omega) with rfl | rfl
                · exact fun hd => hdv (Nat.mod_eq_zero_of_dvd hd)
                · exact fun hd => hev (Nat.mod_eq_zero_of_dvd (Nat.dvd_trans (Nat.dvd_of_mod_eq_zero (by omega)) hd))
            generalize N % D = T at *
            clear hdv
            go_wp2
            go_round
            case rel => exact ⟨D + 2, by go_num, by omega, by omega, by omega, Hn.out⟩
            case measure => simp [intOf]; omega
        · have hle' : ¬ (D : Int) * (D : Int) ≤ (N : Int) := by rw [← Int.natCast_mul]; omega
          have Hp := hide (prime_end hN2 Hno.out hle)
          clear hle
          go_wp2
          go_ret
          exact ⟨Hy.out true ⟨fun _ => Hp.out, fun _ => rfl⟩, rfl⟩
  · have Hno : Hid (GivesPrime n (.returned (.bool false))) := ⟨false, rfl, ⟨fun h => by simp at h, fun h => absurd ⟨h.1, h.2.1⟩ c⟩⟩
    by_cases c1 : n < 2
    · clear c
      go_enter Tryd.func161, Tryd.ntmps161
      go_wp2
      go_ret
      exact ⟨Hno.out, rfl⟩
    · have c2 : 1099511627776 < n := by omega
      clear c
      go_enter Tryd.func161, Tryd.ntmps161
      go_wp2
      go_ret
      exact ⟨Hno.out, rfl⟩

theorem GivesPrime.unique {n : Int} {a b : Bool} (h : GivesPrime n (.returned (.bool a))) (h' : GivesPrime n (.returned (.bool b))) : a = b := by
  obtain ⟨x, hx, hx2⟩ := h
  obtain ⟨y, hy, hy2⟩ := h'
  have e1 : a = x := by injection hx with h; injection h
  have e2 : b = y := by injection hy with h; injection h
  subst e1 e2
  rw [Bool.eq_iff_iff, hx2, hy2]

end Go.Proofs.YtdaneanloknkpabDoor
