/- Walks: a point read of bytes by the model. -/
import Derived.Test.YtnhemiaklkkilaaDoorCurveT
import Derived.Test.YtnhemiaklkkilaaDoorCurveP
import Derived.Test.YtnhemiaklkkilaaDoorCurveY
import Derived.Test.YtnhemiaklkkilaaDoorPowInt
namespace Go.Proofs.YtnhemiaklkkilaaDoor
set_option linter.unusedVariables false
set_option linter.unusedSimpArgs false
open Go.RowKit Go.Sort

theorem givesRd_no {P A B N gx gy : Int} {n : Nat} {f : Nat → Int} (h : ∀ c, CvOk P A B N gx gy → ¬ Reads P.toNat A B n f c) : GivesRd P A B N gx gy n f (.returned (.tuple #[.agg #[.int .i64 0, .int .i64 0, .bool false], .bool false])) := ⟨zeroP, false, rfl, Or.inr ⟨rfl, h, rfl⟩⟩
theorem givesRd_yes {P A B N gx gy : Int} {n : Nat} {f : Nat → Int} {c : Pt} (v : CvOk P A B N gx gy) (h : Reads P.toNat A B n f c) : GivesRd P A B N gx gy n f (.returned (.tuple #[.agg #[.int .i64 c.x, .int .i64 c.y, .bool c.far], .bool true])) := ⟨c, true, rfl, Or.inl ⟨rfl, v, h⟩⟩

theorem BSeg.drop {w : World} {a : Option Addr} {b off n : Nat} {f : Nat → Int} (h : BSeg w a b off n f) (k m : Nat) (hk : k + m ≤ n) : BSeg w (some ⟨b, off + k, none⟩) b (off + k) m (fun i => f (k + i)) :=
  ⟨fun _ => rfl, fun i hi => by rw [Nat.add_assoc]; exact h.cell (k + i) (by omega)⟩

theorem below_drawn' {w w' : World} (h : Drawn w w') : Below w.heap.size w w' := by
  obtain ⟨q, rfl⟩ := h
  exact below_drewN (Below.refl _ _) q

end Go.Proofs.YtnhemiaklkkilaaDoor
