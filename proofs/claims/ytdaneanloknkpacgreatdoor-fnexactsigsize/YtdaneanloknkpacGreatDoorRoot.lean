/- Walks: RootInt, of the model and of the program: the least root by a prime number. -/
import Derived.Test.YtdaneanloknkpacGreatDoorNumAll
import Derived.Test.YtdaneanloknkpacGreatDoorTz
namespace Go.Proofs.YtdaneanloknkpacGreatDoor
set_option linter.unusedVariables false
open Go.RowKit

/-- The arguments are as RootInt wants them. -/
def RootOk (a p : Int) : Prop := 3 ≤ p ∧ p ≤ 1048576 ∧ Prime p.toNat ∧ 0 ≤ a ∧ a < p

/-- RootInt's answer. -/
def RootAns (a p v : Int) (ok : Bool) : Prop :=
  (ok = true → RootOk a p ∧ 0 ≤ v ∧ v * v % p = a ∧ ∀ x : Int, 0 ≤ x → x < v → x * x % p ≠ a) ∧ (ok = false → v = 0 ∧ ¬ (RootOk a p ∧ ∃ x : Int, 0 ≤ x ∧ x * x % p = a))

def GivesRoot (a p : Int) (r : Ending) : Prop := ∃ v ok, r = .returned (.tuple #[.int .i64 v, .bool ok]) ∧ RootAns a p v ok

theorem RootAns.unique {a p v v' : Int} {ok ok' : Bool} (h : RootAns a p v ok) (h' : RootAns a p v' ok') : v = v' ∧ ok = ok' := by
  cases ok <;> cases ok'
  · exact ⟨(h.2 rfl).1.trans (h'.2 rfl).1.symm, rfl⟩
  · obtain ⟨r, k0, k1, k2⟩ := h'.1 rfl
    exact absurd ⟨r, v', k0, k1⟩ (h.2 rfl).2
  · obtain ⟨r, k0, k1, k2⟩ := h.1 rfl
    exact absurd ⟨r, v, k0, k1⟩ (h'.2 rfl).2
  · obtain ⟨r, k0, k1, k2⟩ := h.1 rfl
    obtain ⟨r', l0, l1, l2⟩ := h'.1 rfl
    refine ⟨?_, rfl⟩
    rcases Int.lt_trichotomy v v' with hlt | rfl | hlt
    · exact absurd k1 (l2 v k0 hlt)
    · rfl
    · exact absurd l1 (k2 v' l0 hlt)

theorem root_no {a p : Int} (h : ¬ RootOk a p) : RootAns a p 0 false := ⟨fun h => by simp at h, fun _ => ⟨rfl, fun k => h k.1⟩⟩

/-- From natural numbers. -/
theorem root_yes {A P V : Nat} (h3 : 3 ≤ P) (hm : P ≤ 1048576) (hp : Prime P) (ha : A < P) (e : V * V % P = A) (hl : ∀ x, x < V → x * x % P ≠ A) : RootAns (A : Int) (P : Int) (V : Int) true := by
  refine ⟨fun _ => ⟨⟨by omega, by omega, by rw [Int.toNat_natCast]; exact hp, by omega, by omega⟩, by omega, by rw [cast_mulmod, e], ?_⟩, fun h => by simp at h⟩
  intro x h0 hx hxx
  obtain ⟨y, rfl⟩ := Int.eq_ofNat_of_zero_le h0
  rw [cast_mulmod] at hxx
  exact hl y (by omega) (by omega)

theorem root_none {A P : Nat} (hno : ∀ x : Nat, x * x % P ≠ A) : RootAns (A : Int) (P : Int) 0 false := by
  refine ⟨fun h => by simp at h, fun _ => ⟨rfl, ?_⟩⟩
  rintro ⟨_, x, h0, hx⟩
  obtain ⟨y, rfl⟩ := Int.eq_ofNat_of_zero_le h0
  rw [cast_mulmod] at hx
  exact hno y (by omega)

/-- The other root. -/
theorem other_root {P r : Nat} (hr : r ≤ P) : (P - r) * (P - r) % P = r * r % P := by
  by_cases h : P = 0
  · subst h; obtain rfl : r = 0 := by omega
    rfl
  · obtain ⟨s, rfl⟩ : ∃ s, P = r + s := ⟨P - r, by omega⟩
    rw [Nat.add_sub_cancel_left]
    have e : s * s + (r + s) * r = r * r + (r + s) * s := by grind
    have h1 : (s * s + (r + s) * r) % (r + s) = s * s % (r + s) := Nat.add_mul_mod_self_left ..
    have h2 : (r * r + (r + s) * s) % (r + s) = r * r % (r + s) := Nat.add_mul_mod_self_left ..
    rw [← h1, ← h2, e]

/-- If no number up to the half is a root, none is. -/
theorem half_enough {A P : Nat} (hP : 0 < P) (h : ∀ y, y ≤ P / 2 → y * y % P ≠ A) : ∀ x : Nat, x * x % P ≠ A := by
  intro x hx
  have hl := Nat.mod_lt x hP
  have e : x % P * (x % P) % P = A := by rw [← Nat.mul_mod]; exact hx
  by_cases c : x % P ≤ P / 2
  · exact h _ c e
  · exact h (P - x % P) (by omega) (by rw [other_root (by omega)]; exact e)

theorem sq_small {X : Nat} (h : X ≤ 1048577) : (X : Int) * (X : Int) ≤ 1099513724929 := by
  have := Nat.mul_le_mul h h
  rw [← Int.natCast_mul]
  omega

end Go.Proofs.YtdaneanloknkpacGreatDoor
