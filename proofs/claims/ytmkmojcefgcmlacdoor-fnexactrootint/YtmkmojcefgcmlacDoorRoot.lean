/- Walks: RootInt, of the model and of the program: the least root by a prime number. -/
import Derived.Test.YtmkmojcefgcmlacDoorPrimeInt
import Derived.Test.YtmkmojcefgcmlacDoorPowInt
import Derived.Test.YtmkmojcefgcmlacDoorTz
namespace Go.Proofs.YtmkmojcefgcmlacDoor
set_option linter.unusedVariables false
open Go.RowKit

/-- The arguments are as RootInt wants them. -/
def RootOk (a p : Int) : Prop := 3 ≤ p ∧ p ≤ 1048576 ∧ Prime p.toNat ∧ 0 ≤ a ∧ a < p

/-- RootInt's answer. -/
def RootAns (a p v : Int) (ok : Bool) : Prop :=
  (ok = true → RootOk a p ∧ 0 ≤ v ∧ v * v % p = a ∧ ∀ x : Int, 0 ≤ x → x < v → x * x % p ≠ a) ∧ (ok = false → v = 0 ∧ ¬ (RootOk a p ∧ ∃ x : Int, 0 ≤ x ∧ x * x % p = a))

def GivesRoot (a p : Int) (r : Ending) : Prop := ∃ v ok, r = .returned (.tuple #[.int .i64 v, .bool ok]) ∧ RootAns a p v ok

theorem RootAns.unique {a p v v' : Int} {ok ok' : Bool} (h : RootAns a p v ok) (h' : RootAns a p v' ok') : v = v' ∧ ok = ok' := by
  cases ok <;> cases ok'
  · exact ⟨(h.2 rfl).1.trans (h'.2 rfl).1.symm, rfl⟩
  · obtain ⟨r, k0, k1, k2⟩ := h'.1 rfl
    exact absurd ⟨r, v', k0, k1⟩ (h.2 rfl).2
  · obtain ⟨r, k0, k1, k2⟩ := h.1 rfl
    exact absurd ⟨r, v, k0, k1⟩ (h'.2 rfl).2
  · obtain ⟨r, k0, k1, k2⟩ := h.1 rfl
    obtain ⟨r', l0, l1, l2⟩ := h'.1 rfl
    refine ⟨?_, rfl⟩
    rcases Int.lt_trichotomy v v' with hlt | rfl | hlt
    · exact absurd k1 (l2 v k0 hlt)
    · rfl
    · exact absurd l1 (k2 v' l0 hlt)

theorem root_no {a p : Int} (h : ¬ RootOk a p) : RootAns a p 0 false := ⟨fun h => by simp at h, fun _ => ⟨rfl, fun k => h k.1⟩⟩

/-- From natural numbers. -/
theorem root_yes {A P V : Nat} (h3 : 3 ≤ P) (hm : P ≤ 1048576) (hp : Prime P) (ha : A < P) (e : V * V % P = A) (hl : ∀ x, x < V → x * x % P ≠ A) : RootAns (A : Int) (P : Int) (V : Int) true := by
  refine ⟨fun _ => ⟨⟨by omega, by omega, by rw [Int.toNat_natCast]; exact hp, by omega, by omega⟩, by omega, by rw [cast_mulmod, e], ?_⟩, fun h => by simp at h⟩
  intro x h0 hx hxx
  obtain ⟨y, rfl⟩ := Int.eq_ofNat_of_zero_le h0
  rw [cast_mulmod] at hxx
  exact hl y (by omega) (by omega)

theorem root_none {A P : Nat} (hno : ∀ x : Nat, x * x % P ≠ A) : RootAns (A : Int) (P : Int) 0 false := by
  refine ⟨fun h => by simp at h, fun _ => ⟨rfl, ?_⟩⟩
  rintro ⟨_, x, h0, hx⟩
  obtain ⟨y, rfl⟩ := Int.eq_ofNat_of_zero_le h0
  rw [cast_mulmod] at hx
  exact hno y (by omega)

/-- The other root. -/
theorem other_root {P r : Nat} (hr : r ≤ P) : (P - r) * (P - r) % P = r * r % P := by
  by_cases h : P = 0
  · subst h; obtain rfl : r = 0 := by omega
    rfl
  · obtain ⟨s, rfl⟩ : ∃ s, P = r + s := ⟨P - r, by omega⟩
    rw [Nat.add_sub_cancel_left]
    have e : s * s + (r + s) * r = r * r + (r + s) * s := by grind
    have h1 : (s * s + (r + s) * r) % (r + s) = s * s % (r + s) := Nat.add_mul_mod_self_left ..
    have h2 : (r * r + (r + s) * s) % (r + s) = r * r % (r + s) := Nat.add_mul_mod_self_left ..
    rw [← h1, ← h2, e]

/-- If no number up to the half is a root, none is. -/
theorem half_enough {A P : Nat} (hP : 0 < P) (h : ∀ y, y ≤ P / 2 → y * y % P ≠ A) : ∀ x : Nat, x * x % P ≠ A := by
  intro x hx
  have hl := Nat.mod_lt x hP
  have e : x % P * (x % P) % P = A := by rw [← Nat.mul_mod]; exact hx
  by_cases c : x % P ≤ P / 2
  · exact h _ c e
  · exact h (P - x % P) (by omega) (by rw [other_root (by omega)]; exact e)

theorem sq_small {X : Nat} (h : X ≤ 1048577) : (X : Int) * (X : Int) ≤ 1099513724929 := by
  have := Nat.mul_le_mul h h
  rw [← Int.natCast_mul]
  omega

set_option maxHeartbeats 800000 in
theorem specRootInt_any (a p : Int) (w : World) (h0 : -9223372036854775808 ≤ p) (h1 : p ≤ 9223372036854775807) :
    Calls Tryd.prog 4 #[.int .i64 a, .int .i64 p] w fun r w' => GivesRoot a p r ∧ w' = w := by
  by_cases c1 : 3 ≤ p ∧ p ≤ 1048576
  · have hin : (decide ((3 : Int) ≤ p) && decide (p ≤ 1048576)) = true := by simp; omega
    by_cases c2 : Prime p.toNat
    · by_cases c3 : 0 ≤ a ∧ a ≤ p - 1
      · have hin2 : (decide ((0 : Int) ≤ a) && decide (a ≤ p - 1)) = true := by simp; omega
        obtain ⟨P, rfl⟩ := Int.eq_ofNat_of_zero_le (show 0 ≤ p by omega)
        obtain ⟨A, rfl⟩ := Int.eq_ofNat_of_zero_le (show 0 ≤ a by omega)
        rw [Int.toNat_natCast] at c2
        obtain ⟨c11, c12⟩ := c1
        obtain ⟨c31, c32⟩ := c3
        have Hp := hide c2
        have hPp : 0 < (P : Int) := by omega
        have hdv : (P : Int) / 2 = ((P / 2 : Nat) : Int) := by omega
        clear c2
        go_enter Tryd.func4, Tryd.ntmps4
        go_wp2_with fail
        refine (l1In_int _ 3 1048576 _).mono ?_
        rintro r w' ⟨rfl, hw⟩
        obtain rfl := hw.symm
        rw [hin]
        clear hin
        go_wp2_with fail
        refine (specPrimeInt_any _ _ (by omega)).mono ?_
        rintro r w' ⟨⟨ok, rfl, hok⟩, hw⟩
        obtain rfl := hw.symm
        obtain rfl : ok = true := hok.2 ⟨by omega, by omega, by rw [Int.toNat_natCast]; exact Hp.out⟩
        clear hok
        go_wp2_with fail
        refine (l1In_int _ 0 _ _).mono ?_
        rintro r w' ⟨rfl, hw⟩
        obtain rfl := hw.symm
        rw [hin2]
        clear hin2
        go_wp2
        go_loop [6] (fun x => ∃ X : Nat, x = .int .i64 X ∧ X ≤ P / 2 + 1 ∧ ∀ y, y < X → y * y % P ≠ A) (fun x => P / 2 + 2 - (intOf x).toNat)
        case atStart => exact ⟨0, rfl, by omega, fun y hy => absurd hy (Nat.not_lt_zero _)⟩
        case round =>
          obtain ⟨X, rfl, hX, hno⟩ := hrel
          have Hno := hide hno
          clear hno
          by_cases hle : X ≤ P / 2
          · have hle' : (X : Int) ≤ ((P / 2 : Nat) : Int) := by omega
            have q1 := sq_small (show X ≤ 1048577 by omega)
            have q0 : 0 ≤ (X : Int) * (X : Int) := Int.mul_nonneg (Int.natCast_nonneg _) (Int.natCast_nonneg _)
            have hm := cast_mulmod X X P
            by_cases he : X * X % P = A
            · have hb : (((X * X % P : Nat) : Int) == (A : Int)) = true := by rw [he]; simp
              have HA := hide (root_yes (by omega) (by omega) Hp.out (by omega) he Hno.out)
              generalize X * X % P = T at *
              generalize P / 2 = hf at *
              clear he
              go_wp2
              go_ret2
              exact ⟨⟨_, true, rfl, HA.out⟩, rfl⟩
            · have hb : (((X * X % P : Nat) : Int) == (A : Int)) = false := by simp; omega
              have HN : Hid (∀ y, y < X + 1 → y * y % P ≠ A) := fun y hy => by
                rcases Nat.lt_or_ge y X with h | h
                · exact Hno.out y h
                · obtain rfl : y = X := by omega
                  exact he
              have hXb : X ≤ 524288 := by omega
              generalize X * X % P = T at *
              generalize P / 2 = hf at *
              clear he
              go_wp2
              go_round
              case rel => exact ⟨X + 1, by go_num, by omega, HN.out⟩
              case measure => simp [intOf]; omega
          · have hle' : ¬ (X : Int) ≤ ((P / 2 : Nat) : Int) := by omega
            have HA := hide (root_none (half_enough (show 0 < P by omega) (fun y hy => Hno.out y (by omega))))
            generalize P / 2 = hf at *
            go_wp2
            go_ret2
            exact ⟨⟨0, false, rfl, HA.out⟩, rfl⟩
      · have hin2 : (decide ((0 : Int) ≤ a) && decide (a ≤ p - 1)) = false := by simp; omega
        have HA := hide (root_no (fun h : RootOk a p => c3 ⟨h.2.2.2.1, by have := h.2.2.2.2; omega⟩))
        obtain ⟨c11, c12⟩ := c1
        have Hp := hide c2
        clear c2 c3
        go_enter Tryd.func4, Tryd.ntmps4
        go_wp2_with fail
        refine (l1In_int _ 3 1048576 _).mono ?_
        rintro r w' ⟨rfl, hw⟩
        obtain rfl := hw.symm
        rw [hin]
        clear hin
        go_wp2_with fail
        refine (specPrimeInt_any _ _ (by omega)).mono ?_
        rintro r w' ⟨⟨ok, rfl, hok⟩, hw⟩
        obtain rfl := hw.symm
        obtain rfl : ok = true := hok.2 ⟨by omega, by omega, Hp.out⟩
        clear hok
        go_wp2_with fail
        refine (l1In_int _ 0 _ _).mono ?_
        rintro r w' ⟨rfl, hw⟩
        obtain rfl := hw.symm
        rw [hin2]
        clear hin2
        go_wp2
        go_ret2
        exact ⟨⟨0, false, rfl, HA.out⟩, rfl⟩
    · have HA := hide (root_no (fun h : RootOk a p => c2 h.2.2.1))
      have Hp := hide c2
      obtain ⟨c11, c12⟩ := c1
      clear c2
      go_enter Tryd.func4, Tryd.ntmps4
      go_wp2_with fail
      refine (l1In_int _ 3 1048576 _).mono ?_
      rintro r w' ⟨rfl, hw⟩
      obtain rfl := hw.symm
      rw [hin]
      clear hin
      go_wp2_with fail
      refine (specPrimeInt_any _ _ (by omega)).mono ?_
      rintro r w' ⟨⟨ok, rfl, hok⟩, hw⟩
      obtain rfl := hw.symm
      obtain rfl : ok = false := by
        cases ok with
        | false => rfl
        | true => exact absurd (hok.1 rfl).2.2 Hp.out
      clear hok
      go_wp2
      go_ret2
      exact ⟨⟨0, false, rfl, HA.out⟩, rfl⟩
  · have hin : (decide ((3 : Int) ≤ p) && decide (p ≤ 1048576)) = false := by simp; omega
    have HA := hide (root_no (fun h : RootOk a p => c1 ⟨h.1, h.2.1⟩))
    clear c1
    go_enter Tryd.func4, Tryd.ntmps4
    go_wp2_with fail
    refine (l1In_int _ 3 1048576 _).mono ?_
    rintro r w' ⟨rfl, hw⟩
    obtain rfl := hw.symm
    rw [hin]
    clear hin
    go_wp2
    go_ret2
    exact ⟨⟨0, false, rfl, HA.out⟩, rfl⟩

end Go.Proofs.YtmkmojcefgcmlacDoor
