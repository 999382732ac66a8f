/- Walk: l1Norm once more, its answer told as a row that can be appended to. -/
import Derived.Test.YtmkmojcefgcmlaaDoorNorm
namespace Go.Proofs.YtmkmojcefgcmlaaDoor
set_option linter.unusedVariables false
open Go.RowKit

/-- The same, and the row is told whole, so that it can be appended to. -/
def GivesNorm2 (w : World) (n : Nat) (f : Nat → Int) (e : Ending) (w' : World) : Prop :=
  ∃ g cap m, e = .returned (.slice (some ⟨g, 0, none⟩) m cap) ∧ m ≤ n ∧ m ≤ cap ∧ (∀ i, m ≤ i → i < n → f i = 0) ∧ (m = 0 ∨ f (m - 1) ≠ 0) ∧ w.heap.size ≤ g ∧ Own w' (some ⟨g, 0, none⟩) g 0 m f ∧ Below w.heap.size w w' ∧
    w'.ownsRow w.heap.size 3 1 (.slice (some ⟨g, 0, none⟩) m cap) m (ints f m)

end Go.Proofs.YtmkmojcefgcmlaaDoor
