/- Walks: curves of the program: slope, add. -/
import Derived.Test.YtejlgcnhfomadacDoorCurveJ
namespace Go.Proofs.YtejlgcnhfomadacDoor
set_option linter.unusedVariables false
open Go.RowKit




theorem slopeF_tan {p : Nat} {A x y : Int} {f f' : Bool} : (3 * x * x + A) % p * iv p (2 * y) % p = slopeF p A ⟨x, y, f⟩ ⟨x, y, f'⟩ := by
  unfold slopeF
  simp only [if_pos]
  rw [Int.mul_emod, Int.emod_emod, ← Int.mul_emod]

theorem slopeF_cho {p : Nat} {A x1 y1 x2 y2 : Int} {f f' : Bool} (h : x1 ≠ x2) : (y2 - y1) % p * iv p (x2 - x1) % p = slopeF p A ⟨x1, y1, f⟩ ⟨x2, y2, f'⟩ := by
  unfold slopeF
  simp only [if_neg h]
  rw [Int.mul_emod, Int.emod_emod, ← Int.mul_emod]

theorem quotient_bel (p : Nat) (a b : Int) (w : World) (hpr : Prime p) (p5 : 5 ≤ p) (pM : p ≤ 1048576) (a0 : -9223372036854775808 ≤ a) (a1 : a ≤ 9223372036854775807) (b0 : -9223372036854775808 ≤ b) (b1 : b ≤ 9223372036854775807) : Calls Tryd.prog 69 #[.int .i64 a, .int .i64 b, .int .i64 p] w fun r w' => r = .returned (.int .i64 (a % p * iv p b % p)) ∧ Below w.heap.size w w' :=
  (quotient_any p a b w hpr p5 pM a0 a1 b0 b1).mono fun _ _ h => ⟨h.1, h.2 ▸ Below.refl _ _⟩

theorem neg_mod_iff {p : Nat} {y1 y2 : Int} (hp : 0 < p) (a2 : 0 ≤ y1) (a3 : y1 < p) : y1 = (-y2) % p ↔ (p : Int) ∣ y1 + y2 := by
  have h := neg_dvd p y2
  constructor
  · intro e; rw [e]; exact h
  · intro hd
    refine eq_of_dvd a2 a3 (Int.emod_nonneg _ (by omega)) (Int.emod_lt_of_pos _ (by omega)) ?_
    generalize (-y2) % (p : Int) = z at *
    exact comb2 hd h 1 (-1) (by grind)

theorem slopeF_range {p : Nat} (hp : 0 < p) (A : Int) (a b : Pt) : 0 ≤ slopeF p A a b ∧ slopeF p A a b < p := ⟨Int.emod_nonneg _ (by omega), Int.emod_lt_of_pos _ (by omega)⟩

end Go.Proofs.YtejlgcnhfomadacDoor
