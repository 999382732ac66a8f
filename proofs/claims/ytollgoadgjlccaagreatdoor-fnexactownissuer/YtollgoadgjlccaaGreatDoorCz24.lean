/- Walks: bits.TrailingZeros of a number that is not 0: how often 2 divides it. The library's table lies in its variable (Tab). Walks: RootInt, of the model and of the program: the least root by a prime number. Walks: RootInt of the program: isSquare, leastNoSquare, someRoot (the rule of Tonelli and Shanks), RootInt. -/
import Derived.Test.YtollgoadgjlccaaGreatDoorChecked
import Derived.Shelf.Spec.TrailingZeros
import Derived.Test.YtollgoadgjlccaaGreatDoorCz01
import Derived.Test.YtollgoadgjlccaaGreatDoorCz05
import Derived.Test.YtollgoadgjlccaaGreatDoorCz06
namespace Go.Proofs.YtollgoadgjlccaaGreatDoor

section
set_option linter.unusedVariables false

open Go.RowKit

/-- The library's table of 64 numbers lies in its variable. -/
def Tab (w : World) : Prop := ∀ j, j < 64 → w.cell? ⟨3, j, none⟩ = some (.int .u8 (Lib.deBruijn64tab.getD j 0))

theorem Tab.drawn {w w' : World} (h : Tab w) (hq : Drawn w w') : Tab w' := by
  obtain ⟨q, rfl⟩ := hq
  exact h
end

section
set_option linter.unusedVariables false

open Go.RowKit

/-- The arguments are as RootInt wants them. -/
def RootOk (a p : Int) : Prop := 3 ≤ p ∧ p ≤ 1048576 ∧ Prime p.toNat ∧ 0 ≤ a ∧ a < p

/-- RootInt's answer. -/
def RootAns (a p v : Int) (ok : Bool) : Prop :=
  (ok = true → RootOk a p ∧ 0 ≤ v ∧ v * v % p = a ∧ ∀ x : Int, 0 ≤ x → x < v → x * x % p ≠ a) ∧ (ok = false → v = 0 ∧ ¬ (RootOk a p ∧ ∃ x : Int, 0 ≤ x ∧ x * x % p = a))

theorem RootAns.unique {a p v v' : Int} {ok ok' : Bool} (h : RootAns a p v ok) (h' : RootAns a p v' ok') : v = v' ∧ ok = ok' := by
  cases ok <;> cases ok'
  · exact ⟨(h.2 rfl).1.trans (h'.2 rfl).1.symm, rfl⟩
  · obtain ⟨r, k0, k1, k2⟩ := h'.1 rfl
    exact absurd ⟨r, v', k0, k1⟩ (h.2 rfl).2
  · obtain ⟨r, k0, k1, k2⟩ := h.1 rfl
    exact absurd ⟨r, v, k0, k1⟩ (h'.2 rfl).2
  · obtain ⟨r, k0, k1, k2⟩ := h.1 rfl
    obtain ⟨r', l0, l1, l2⟩ := h'.1 rfl
    refine ⟨?_, rfl⟩
    rcases Int.lt_trichotomy v v' with hlt | rfl | hlt
    · exact absurd k1 (l2 v k0 hlt)
    · rfl
    · exact absurd l1 (k2 v' l0 hlt)
end

section
set_option linter.unusedVariables false

open Go.RowKit

set_option maxHeartbeats 400000 in
theorem isSquare_any (a p : Nat) (w : World) (ha : a < p) (hp : 3 ≤ p) (hm : p ≤ 1048576) :
    Calls Tryz.prog 264 #[.int .i64 (a : Int), .int .i64 (p : Int)] w fun r w' => r = .returned (.bool (decide (a ^ ((p - 1) / 2) % p = 1))) ∧ w' = w := by
  have hd : ((p : Int) - 1) / 2 = (((p - 1) / 2 : Nat) : Int) := by omega
  have Hc := hide (intPower_any a ((p - 1) / 2) p w ha (by omega) (by omega) (by omega))
  have hp1 : 0 ≤ (p : Int) - 1 := by omega
  have hkb : (p - 1) / 2 ≤ 1048576 := by omega
  generalize (p - 1) / 2 = k at *
  generalize a ^ k % p = v at *
  have Hv := hide (show ((v : Int) == 1) = decide (v = 1) by
    by_cases e : v = 1
    · subst e; rfl
    · rw [decide_eq_false e]; simp; omega)
  generalize decide (v = 1) = ok at *
  go_enter Tryz.func264, Tryz.ntmps264
  go_wp2_with fail
  refine Hc.out.mono ?_
  rintro r w' ⟨rfl, hw⟩
  obtain rfl := hw.symm
  clear Hc
  have hv := Hv.out
  generalize (v : Int) = vi at *
  go_wp2
  go_ret
  exact ⟨rfl, rfl⟩

theorem RootOk.nat {A P : Nat} (h3 : 3 ≤ P) (hm : P ≤ 1048576) (hp : Prime P) (ha : A < P) : RootOk (A : Int) (P : Int) := ⟨by omega, by omega, by rw [Int.toNat_natCast]; exact hp, by omega, by omega⟩
end

end Go.Proofs.YtollgoadgjlccaaGreatDoor
