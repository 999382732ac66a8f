/- Walks: curves of the model: l3On, l3Add, l3Mul, CurveOk, PointOk. -/
import Derived.Test.YtejlgcnhfomadacDoorChecked
import Derived.Test.YtejlgcnhfomadacDoorBase
import Derived.Test.YtejlgcnhfomadacDoorIn
import Derived.Test.YtejlgcnhfomadacDoorInvInt
import Derived.Test.YtejlgcnhfomadacDoorPrimeInt
import Derived.Test.YtejlgcnhfomadacDoorCurveG
import Derived.Lib.QuietBelow
namespace Go.Proofs.YtejlgcnhfomadacDoor
set_option linter.unusedVariables false
open Go.RowKit

/-- A call's answer is whether a is a point of the curve. -/
def GivesOn (p : Int) (A B : Int) (a : Pt) (r : Ending) : Prop := ∃ ok : Bool, r = .returned (.bool ok) ∧ (0 ≤ A → (ok = true ↔ On p.toNat A B a)) ∧ (ok = true → a.far = false → 0 ≤ a.x ∧ a.x < p ∧ 0 ≤ a.y ∧ a.y < p)

theorem mulBd {x y p q : Int} (hx0 : 0 ≤ x) (hx : x ≤ p) (hy0 : 0 ≤ y) (hy : y ≤ q) : 0 ≤ x * y ∧ x * y ≤ p * q :=
  ⟨Int.mul_nonneg hx0 hy0, Int.mul_le_mul hx hy hy0 (by omega)⟩

theorem givesOn_no {p A B x y : Int} (h : ¬ (0 ≤ x ∧ x ≤ p - 1 ∧ 0 ≤ y ∧ y ≤ p - 1)) (hp : 0 ≤ p) : GivesOn p A B ⟨x, y, false⟩ (.returned (.bool false)) := by
  refine ⟨false, rfl, fun _ => ⟨fun k => by simp at k, fun k => ?_⟩, fun k => by simp at k⟩
  have k1 := k.aff rfl
  have a1 := k1.x0; have a2 := k1.x1; have a3 := k1.y0; have a4 := k1.y1
  simp only at a1 a2 a3 a4
  exact absurd ⟨a1, by omega, a3, by omega⟩ h

theorem givesOn_far {p A B x y : Int} {ok : Bool} (h : ok = true ↔ x = 0 ∧ y = 0) : GivesOn p A B ⟨x, y, true⟩ (.returned (.bool ok)) := by
  refine ⟨ok, rfl, fun _ => ?_, fun _ k => by simp at k⟩
  rw [h]
  constructor
  · rintro ⟨rfl, rfl⟩; exact Or.inl ⟨rfl, rfl, rfl⟩
  · rintro (⟨_, h1, h2⟩ | ⟨h, _⟩)
    · exact ⟨h1, h2⟩
    · simp at h

/-- The curve's equation, as the model reckons it. -/
theorem on_model {p A B x y : Int} (hp : 0 < p) : y * y % p = ((x * x % p + A) * x + B) % p ↔ p ∣ y * y - (x * x * x + A * x + B) := by
  have h1 := mod_dvd p (x * x)
  constructor
  · intro h
    have h2 := Int.dvd_of_emod_eq_zero (Int.emod_eq_emod_iff_emod_sub_eq_zero.1 h)
    generalize x * x % p = q at *
    exact comb2 h2 h1 1 x (by grind)
  · intro h
    apply mod_eq
    generalize x * x % p = q at *
    exact comb2 h h1 1 (-x) (by grind)

theorem givesOn_eq {p A B x y : Int} (hx0 : 0 ≤ x) (hx : x ≤ p - 1) (hy0 : 0 ≤ y) (hy : y ≤ p - 1) (hB : 0 ≤ B) {ok : Bool} (h : ok = (y * y % p == Int.tmod ((x * x % p + A) * x + B) p)) : GivesOn p A B ⟨x, y, false⟩ (.returned (.bool ok)) := by
  refine ⟨ok, rfl, fun hA => ?_, fun _ _ => ⟨hx0, by simp only; omega, hy0, by simp only; omega⟩⟩
  have hm := Int.emod_nonneg (x * x) (show p ≠ 0 by omega)
  have hn : 0 ≤ (x * x % p + A) * x + B := Int.add_nonneg (Int.mul_nonneg (by omega) hx0) hB
  rw [Int.tmod_eq_emod_of_nonneg hn] at h
  rw [h, beq_iff_eq, on_model (by omega)]
  have e : ((p.toNat : Nat) : Int) = p := by omega
  constructor
  · intro hd
    exact Or.inr ⟨rfl, ⟨hx0, by simp only; omega, hy0, by simp only; omega, by rw [e]; exact hd⟩⟩
  · intro hd
    have := (hd.aff rfl).on
    rwa [e] at this

end Go.Proofs.YtejlgcnhfomadacDoor
