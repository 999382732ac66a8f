/- What a call that answers a natural and a bool hands back: told by its value alone. Nothing of the program. -/
import Derived.Test.YtmkmojcefgcmlaaDoorBase
import Derived.Test.YtmkmojcefgcmlaaDoorNum
namespace Go.Proofs.YtmkmojcefgcmlaaDoor
set_option linter.unusedVariables false
open Go.RowKit

/-- The answer (a list of n digits f, ok) is nothing and false, or the natural of that value and true. -/
def IsNat : Option Int → Nat → (Nat → Int) → Bool → Prop
  | none, n, _, ok => n = 0 ∧ ok = false
  | some v, n, f, ok => Canon n f ∧ val f n = v ∧ ok = true

theorem isNat_unique {q : Option Int} {n m : Nat} {f g : Nat → Int} {ok ok2 : Bool} (h : IsNat q n f ok) (k : IsNat q m g ok2) : n = m ∧ ok = ok2 ∧ ∀ i, i < n → f i = g i := by
  cases q with
  | none => exact ⟨h.1.trans k.1.symm, h.2.trans k.2.symm, fun i hi => absurd hi (by have := h.1; omega)⟩
  | some v =>
    obtain ⟨e, he⟩ := canon_unique h.1 k.1 (h.2.1.trans k.2.1.symm)
    exact ⟨e, h.2.2.trans k.2.2.symm, he⟩

/-- The call hands back that answer, in new memory. -/
def GivesQ (w : World) (q : Option Int) (e : Ending) (w' : World) : Prop :=
  ∃ a g cap n f ok, e = .returned (.tuple #[.slice a n cap, .bool ok]) ∧ n ≤ 1048576 ∧ IsNat q n f ok ∧ w.heap.size ≤ g ∧ Own w' a g 0 n f ∧ Below w.heap.size w w'

theorem GivesQ.none {w w' : World} {q : Option Int} {e : Ending} {a : Option Addr} {cap : Nat} (hq : q = .none) (he : e = .returned (.tuple #[.slice a 0 cap, .bool false])) (hb : Below w.heap.size w w') : GivesQ w q e w' := by
  subst hq
  exact ⟨a, w.heap.size, cap, 0, fun _ => 0, false, he, by omega, ⟨rfl, rfl⟩, Nat.le_refl _, Own.nil _ _ _ _ _, hb⟩

end Go.Proofs.YtmkmojcefgcmlaaDoor
