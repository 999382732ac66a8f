/- Walks: curves of the model: l3On, l3Add, l3Mul, CurveOk, PointOk. -/
import Derived.Test.YtdaneanloknkpacGreatDoorChecked
import Derived.Test.YtdaneanloknkpacGreatDoorNumAll
import Derived.Test.YtdaneanloknkpacGreatDoorCurveG
import Derived.Lib.QuietBelow
namespace Go.Proofs.YtdaneanloknkpacGreatDoor
set_option linter.unusedVariables false
open Go.RowKit

/-- A call's answer is whether a is a point of the curve. -/
def GivesOn (p : Int) (A B : Int) (a : Pt) (r : Ending) : Prop := ∃ ok : Bool, r = .returned (.bool ok) ∧ (0 ≤ A → (ok = true ↔ On p.toNat A B a)) ∧ (ok = true → a.far = false → 0 ≤ a.x ∧ a.x < p ∧ 0 ≤ a.y ∧ a.y < p)

theorem mulBd {x y p q : Int} (hx0 : 0 ≤ x) (hx : x ≤ p) (hy0 : 0 ≤ y) (hy : y ≤ q) : 0 ≤ x * y ∧ x * y ≤ p * q :=
  ⟨Int.mul_nonneg hx0 hy0, Int.mul_le_mul hx hy hy0 (by omega)⟩

theorem givesOn_no {p A B x y : Int} (h : ¬ (0 ≤ x ∧ x ≤ p - 1 ∧ 0 ≤ y ∧ y ≤ p - 1)) (hp : 0 ≤ p) : GivesOn p A B ⟨x, y, false⟩ (.returned (.bool false)) := by
  refine ⟨false, rfl, fun _ => ⟨fun k => by simp at k, fun k => ?_⟩, fun k => by simp at k⟩
  have k1 := k.aff rfl
  have a1 := k1.x0; have a2 := k1.x1; have a3 := k1.y0; have a4 := k1.y1
  simp only at a1 a2 a3 a4
  exact absurd ⟨a1, by omega, a3, by omega⟩ h

theorem givesOn_far {p A B x y : Int} {ok : Bool} (h : ok = true ↔ x = 0 ∧ y = 0) : GivesOn p A B ⟨x, y, true⟩ (.returned (.bool ok)) := by
  refine ⟨ok, rfl, fun _ => ?_, fun _ k => by simp at k⟩
  rw [h]
  constructor
  · rintro ⟨rfl, rfl⟩; exact Or.inl ⟨rfl, rfl, rfl⟩
  · rintro (⟨_, h1, h2⟩ | ⟨h, _⟩)
    · exact ⟨h1, h2⟩
    · simp at h

/-- The curve's equation, as the model reckons it. -/
theorem on_model {p A B x y : Int} (hp : 0 < p) : y * y % p = ((x * x % p + A) * x + B) % p ↔ p ∣ y * y - (x * x * x + A * x + B) := by
  have h1 := mod_dvd p (x * x)
  constructor
  · intro h
    have h2 := Int.dvd_of_emod_eq_zero (Int.emod_eq_emod_iff_emod_sub_eq_zero.1 h)
    generalize x * x % p = q at *
    exact comb2 h2 h1 1 x (by grind)
  · intro h
    apply mod_eq
    generalize x * x % p = q at *
    exact comb2 h h1 1 (-x) (by grind)

theorem givesOn_eq {p A B x y : Int} (hx0 : 0 ≤ x) (hx : x ≤ p - 1) (hy0 : 0 ≤ y) (hy : y ≤ p - 1) (hB : 0 ≤ B) {ok : Bool} (h : ok = (y * y % p == Int.tmod ((x * x % p + A) * x + B) p)) : GivesOn p A B ⟨x, y, false⟩ (.returned (.bool ok)) := by
  refine ⟨ok, rfl, fun hA => ?_, fun _ _ => ⟨hx0, by simp only; omega, hy0, by simp only; omega⟩⟩
  have hm := Int.emod_nonneg (x * x) (show p ≠ 0 by omega)
  have hn : 0 ≤ (x * x % p + A) * x + B := Int.add_nonneg (Int.mul_nonneg (by omega) hx0) hB
  rw [Int.tmod_eq_emod_of_nonneg hn] at h
  rw [h, beq_iff_eq, on_model (by omega)]
  have e : ((p.toNat : Nat) : Int) = p := by omega
  constructor
  · intro hd
    exact Or.inr ⟨rfl, ⟨hx0, by simp only; omega, hy0, by simp only; omega, by rw [e]; exact hd⟩⟩
  · intro hd
    have := (hd.aff rfl).on
    rwa [e] at this

set_option maxHeartbeats 800000 in
theorem l3On_any (p A B N gx gy x y : Int) (f : Bool) (w : World) (hp0 : 0 ≤ p) (hp : p ≤ 2097152) (hA0 : -1 ≤ A) (hA : A ≤ 2097152) (hB0 : 0 ≤ B) (hB : B ≤ 2097152) :
    Calls Tryz.prog 144 #[.agg #[.int .i64 p, .int .i64 A, .int .i64 B, .int .i64 N, .int .i64 gx, .int .i64 gy], .agg #[.int .i64 x, .int .i64 y, .bool f]] w fun r w' => GivesOn p A B ⟨x, y, f⟩ r ∧ Below w.heap.size w w' := by
  cases f
  · by_cases c1 : 0 ≤ x ∧ x ≤ p - 1
    · have hin : (decide ((0 : Int) ≤ x) && decide (x ≤ p - 1)) = true := by simp; omega
      by_cases c2 : 0 ≤ y ∧ y ≤ p - 1
      · have hin2 : (decide ((0 : Int) ≤ y) && decide (y ≤ p - 1)) = true := by simp; omega
        obtain ⟨x0, x1⟩ := c1
        obtain ⟨y0, y1⟩ := c2
        have Hy : Hid (∀ ok : Bool, ok = (y * y % p == Int.tmod ((x * x % p + A) * x + B) p) → GivesOn p A B ⟨x, y, false⟩ (.returned (.bool ok))) := fun ok h => givesOn_eq x0 x1 y0 y1 hB0 h
        have pp : 0 < p := by omega
        obtain ⟨a0, a1⟩ := mulBd y0 (show y ≤ 2097152 by omega) y0 (show y ≤ 2097152 by omega)
        obtain ⟨b0, b1⟩ := mulBd x0 (show x ≤ 2097152 by omega) x0 (show x ≤ 2097152 by omega)
        have m0 := Int.emod_nonneg (x * x) (show p ≠ 0 by omega)
        have m1 := Int.emod_lt_of_pos (x * x) pp
        have z : -2097152 ≤ (x * x % p + A) * x ∧ (x * x % p + A) * x ≤ 8796093022208 := by
          generalize x * x % p = q at *
          have h1 := mulBd (show 0 ≤ q + A + 1 by omega) (show q + A + 1 ≤ 4194304 by omega) x0 (show x ≤ 2097152 by omega)
          rw [Int.add_mul, Int.one_mul] at h1
          omega
        obtain ⟨z0, z1⟩ := z
        go_enter Tryz.func144, Tryz.ntmps144
        go_wp2_with fail
        refine (l1In_int _ _ _ _).mono ?_
        rintro r w' ⟨rfl, hw⟩
        subst hw
        rw [hin]
        go_wp2_with fail
        refine (l1In_int _ _ _ _).mono ?_
        rintro r w' ⟨rfl, hw⟩
        subst hw
        rw [hin2]
        clear hin hin2
        go_wp2
        go_quiet (fail)
        go_wp2
        go_ret
        exact ⟨Hy.out _ rfl, below_drewN (((Below.refl _ _).alloc (Nat.le_refl _) _).alloc (by simp) _) _⟩
      · have hin2 : (decide ((0 : Int) ≤ y) && decide (y ≤ p - 1)) = false := by simp; omega
        have Hno : Hid (GivesOn p A B ⟨x, y, false⟩ (.returned (.bool false))) := givesOn_no (fun h => c2 ⟨h.2.2.1, h.2.2.2⟩) hp0
        go_enter Tryz.func144, Tryz.ntmps144
        go_wp2_with fail
        refine (l1In_int _ _ _ _).mono ?_
        rintro r w' ⟨rfl, hw⟩
        subst hw
        rw [hin]
        go_wp2_with fail
        refine (l1In_int _ _ _ _).mono ?_
        rintro r w' ⟨rfl, hw⟩
        subst hw
        rw [hin2]
        clear hin hin2
        go_wp2
        go_ret
        exact ⟨Hno.out, ((Below.refl _ _).alloc (Nat.le_refl _) _).alloc (by simp) _⟩
    · have hin : (decide ((0 : Int) ≤ x) && decide (x ≤ p - 1)) = false := by simp; omega
      have Hno : Hid (GivesOn p A B ⟨x, y, false⟩ (.returned (.bool false))) := givesOn_no (fun h => c1 ⟨h.1, h.2.1⟩) hp0
      go_enter Tryz.func144, Tryz.ntmps144
      go_wp2_with fail
      refine (l1In_int _ _ _ _).mono ?_
      rintro r w' ⟨rfl, hw⟩
      subst hw
      rw [hin]
      clear hin
      go_wp2
      go_ret
      exact ⟨Hno.out, ((Below.refl _ _).alloc (Nat.le_refl _) _).alloc (by simp) _⟩
  · by_cases cx : x = 0
    · by_cases cy : y = 0
      · subst cx cy
        go_enter Tryz.func144, Tryz.ntmps144
        go_wp2
        go_ret
        exact ⟨givesOn_far (by simp), ((Below.refl _ _).alloc (Nat.le_refl _) _).alloc (by simp) _⟩
      · have hb : (y == 0) = false := by simpa using cy
        have Hno : Hid (GivesOn p A B ⟨0, y, true⟩ (.returned (.bool false))) := givesOn_far (by simp [cy])
        subst cx
        go_enter Tryz.func144, Tryz.ntmps144
        go_wp2
        go_ret
        exact ⟨Hno.out, ((Below.refl _ _).alloc (Nat.le_refl _) _).alloc (by simp) _⟩
    · have hb : (x == 0) = false := by simpa using cx
      have Hno : Hid (GivesOn p A B ⟨x, y, true⟩ (.returned (.bool false))) := givesOn_far (by simp [cx])
      go_enter Tryz.func144, Tryz.ntmps144
      go_wp2
      go_ret
      exact ⟨Hno.out, ((Below.refl _ _).alloc (Nat.le_refl _) _).alloc (by simp) _⟩

end Go.Proofs.YtdaneanloknkpacGreatDoor
