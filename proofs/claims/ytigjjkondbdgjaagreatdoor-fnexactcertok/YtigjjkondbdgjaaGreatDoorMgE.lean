/- Twisted curves: pairs are a group with one rule. Nothing of the program. Twisted curves: D is no square just when the model's power says so; roots by a prime number that leaves 5 by 8. Nothing of the program. Twisted curves: what the model's l4On and l4Add reckon. Nothing of the program. Walks: pairs of a twisted curve as the model reckons them: l4On, l4Add. Walks: multiples of pairs in the model: l4Mul. Twisted curves: a pair's bytes, and the pair that bytes tell. Nothing of the program. Twisted curves: when one is right; the three of the model's draws are. Nothing of the program. Pairs compared. -/
import Derived.Test.YtigjjkondbdgjaaGreatDoorMgN
import Derived.Test.YtigjjkondbdgjaaGreatDoorMgA
import Derived.Deep.RegionHeld3
namespace Go.Proofs.YtigjjkondbdgjaaGreatDoor

section
set_option linter.unusedVariables false

theorem ed_assoc_x (x1 y1 x2 y2 x3 y3 D : Int) : ((x1 * y2 + y1 * x2) * y3 * (1 - D * x1 * x2 * y1 * y2) + (y1 * y2 + x1 * x2) * x3 * (1 + D * x1 * x2 * y1 * y2)) * ((1 + D * x2 * x3 * y2 * y3) * (1 - D * x2 * x3 * y2 * y3) + D * (x2 * y3 + y2 * x3) * (y2 * y3 + x2 * x3) * x1 * y1) - ((x2 * y3 + y2 * x3) * y1 * (1 - D * x2 * x3 * y2 * y3) + (y2 * y3 + x2 * x3) * x1 * (1 + D * x2 * x3 * y2 * y3)) * ((1 + D * x1 * x2 * y1 * y2) * (1 - D * x1 * x2 * y1 * y2) + D * (x1 * y2 + y1 * x2) * (y1 * y2 + x1 * x2) * x3 * y3) = (D * x1 * x2 * x2 * y2 * y2 * y2 * y3 * y3 * y3 + D * y1 * x2 * x2 * x2 * y2 * y2 * y3 * y3 * y3 + (-1) * D * x1 * x3 * x2 * x2 * x2 * y2 * y2 + (-1) * D * x1 * y3 * x2 * x2 * y2 * y2 * y2 + (-1) * D * x1 * x2 * x2 * x2 * x3 * x3 * x3 * y2 * y2 + (-1) * D * x3 * y1 * x2 * x2 * y2 * y2 * y2 + (-1) * D * y1 * y3 * x2 * x2 * x2 * y2 * y2 + (-1) * D * y1 * x2 * x2 * x3 * x3 * x3 * y2 * y2 * y2 + D * x1 * x2 * x3 * y2 * y2 * y2 * y2 * y3 * y3 + D * x3 * y1 * y2 * x2 * x2 * x2 * x2 * y3 * y3 + x3 * y1 * D * D * x2 * x2 * x2 * x2 * y2 * y2 * y2 * y3 * y3 + y1 * y3 * D * D * x2 * x2 * x2 * x3 * x3 * y2 * y2 * y2 * y2 + (-1) * D * x1 * y2 * y3 * x2 * x2 * x2 * x2 * x3 * x3 + (-1) * D * x2 * y1 * y3 * x3 * x3 * y2 * y2 * y2 * y2 + (-1) * x1 * x3 * D * D * x2 * x2 * x2 * y2 * y2 * y2 * y2 * y3 * y3 + (-1) * x1 * y3 * D * D * x2 * x2 * x2 * x2 * x3 * x3 * y2 * y2 * y2) * (y1 * y1 - x1 * x1 - 1 - D * (x1 * x1) * (y1 * y1)) + (x1 * x2 * x3 + x1 * x2 * x3 * x3 * x3 + x1 * y2 * y3 + x2 * x3 * x1 * x1 * x1 + x2 * y1 * y3 + x2 * x1 * x1 * x1 * x3 * x3 * x3 + x2 * y1 * y1 * y1 * y3 * y3 * y3 + x3 * y1 * y2 + y1 * y2 * x3 * x3 * x3 + y2 * y3 * x1 * x1 * x1 + (-1) * x1 * y2 * y3 * y3 * y3 + (-1) * x2 * y1 * y3 * y3 * y3 + (-1) * x2 * y3 * y1 * y1 * y1 + (-1) * x3 * y2 * y1 * y1 * y1 + (-1) * y2 * x1 * x1 * x1 * y3 * y3 * y3 + (-1) * y2 * x3 * x3 * x3 * y1 * y1 * y1 + x1 * y2 * y3 * x3 * x3 + x1 * y2 * y1 * y1 * y3 * y3 * y3 + x2 * y1 * y3 * x1 * x1 + x2 * y1 * y3 * x3 * x3 + x3 * y1 * y2 * x1 * x1 + x3 * y2 * y1 * y1 * y1 * y3 * y3 + y1 * y2 * x1 * x1 * x3 * x3 * x3 + y2 * y3 * x1 * x1 * x1 * x3 * x3 + (-1) * x1 * x2 * x3 * y1 * y1 + (-1) * x1 * x2 * x3 * y3 * y3 + (-1) * x1 * x2 * x3 * x3 * x3 * y1 * y1 + (-1) * x1 * y2 * y3 * y1 * y1 + (-1) * x2 * x3 * x1 * x1 * x1 * y3 * y3 + (-1) * x2 * y1 * x1 * x1 * y3 * y3 * y3 + (-1) * x2 * y3 * x3 * x3 * y1 * y1 * y1 + (-1) * x3 * y1 * y2 * y3 * y3 + D * x1 * x2 * x3 * x3 * x3 * y3 * y3 + D * x1 * y2 * x3 * x3 * y3 * y3 * y3 + D * x2 * y1 * x3 * x3 * y3 * y3 * y3 + D * x2 * x1 * x1 * x1 * x3 * x3 * x3 * y3 * y3 + D * y1 * y2 * x3 * x3 * x3 * y3 * y3 + D * y2 * x1 * x1 * x1 * x3 * x3 * y3 * y3 * y3 + x1 * x2 * x3 * y1 * y1 * y3 * y3 + x2 * y1 * y3 * x1 * x1 * x3 * x3 + (-1) * D * x2 * x3 * x3 * y1 * y1 * y1 * y3 * y3 * y3 + (-1) * D * y2 * x3 * x3 * x3 * y1 * y1 * y1 * y3 * y3 + (-1) * x1 * y2 * y3 * x3 * x3 * y1 * y1 + (-1) * x3 * y1 * y2 * x1 * x1 * y3 * y3 + D * x1 * x2 * x3 * y2 * y2 * y3 * y3 + D * x1 * y2 * y3 * x2 * x2 * x3 * x3 + D * x2 * x3 * x1 * x1 * x1 * y2 * y2 * y3 * y3 + D * x2 * y1 * x1 * x1 * x3 * x3 * y3 * y3 * y3 + D * x2 * y3 * x3 * x3 * y1 * y1 * y1 * y2 * y2 + D * x3 * y2 * x2 * x2 * y1 * y1 * y1 * y3 * y3 + D * y1 * y2 * x1 * x1 * x3 * x3 * x3 * y3 * y3 + D * y2 * y3 * x1 * x1 * x1 * x2 * x2 * x3 * x3 + (-1) * D * x1 * x2 * x3 * x3 * x3 * y1 * y1 * y3 * y3 + (-1) * D * x1 * y2 * x3 * x3 * y1 * y1 * y3 * y3 * y3 + (-1) * D * x2 * y1 * y3 * x3 * x3 * y2 * y2 + (-1) * D * x3 * y1 * y2 * x2 * x2 * y3 * y3 + x1 * x2 * D * D * x3 * x3 * x3 * y1 * y1 * y2 * y2 * y3 * y3 + y1 * y2 * D * D * x1 * x1 * x2 * x2 * x3 * x3 * x3 * y3 * y3 + (-1) * D * x1 * x2 * x3 * y1 * y1 * y2 * y2 * y3 * y3 + (-1) * D * x1 * y2 * y3 * x2 * x2 * x3 * x3 * y1 * y1 + (-1) * D * x2 * y1 * y3 * x1 * x1 * x3 * x3 * y2 * y2 + (-1) * D * x3 * y1 * y2 * x1 * x1 * x2 * x2 * y3 * y3 + (-1) * x1 * y2 * D * D * x2 * x2 * x3 * x3 * y1 * y1 * y3 * y3 * y3 + (-1) * x2 * y1 * D * D * x1 * x1 * x3 * x3 * y2 * y2 * y3 * y3 * y3) * (y2 * y2 - x2 * x2 - 1 - D * (x2 * x2) * (y2 * y2)) + (x1 * y3 * y2 * y2 * y2 + x2 * y3 * y1 * y1 * y1 + x3 * y1 * y2 * y2 * y2 + x3 * y2 * y1 * y1 * y1 + y3 * x1 * x1 * x1 * y2 * y2 * y2 + y3 * x2 * x2 * x2 * y1 * y1 * y1 + (-1) * x1 * x2 * x3 + (-1) * x1 * x3 * x2 * x2 * x2 + (-1) * x1 * y2 * y3 + (-1) * x2 * x3 * x1 * x1 * x1 + (-1) * x2 * y1 * y3 + (-1) * x3 * y1 * y2 + (-1) * x3 * x1 * x1 * x1 * x2 * x2 * x2 + (-1) * x3 * y1 * y1 * y1 * y2 * y2 * y2 + (-1) * y1 * y3 * x2 * x2 * x2 + (-1) * y2 * y3 * x1 * x1 * x1 + x1 * x2 * x3 * y1 * y1 + x1 * x2 * x3 * y2 * y2 + x1 * x3 * x2 * x2 * x2 * y1 * y1 + x1 * y2 * y3 * y1 * y1 + x2 * x3 * x1 * x1 * x1 * y2 * y2 + x2 * y1 * y3 * y2 * y2 + x3 * y1 * x1 * x1 * y2 * y2 * y2 + x3 * y2 * x2 * x2 * y1 * y1 * y1 + (-1) * x1 * y2 * y3 * x2 * x2 + (-1) * x1 * y3 * y1 * y1 * y2 * y2 * y2 + (-1) * x2 * y1 * y3 * x1 * x1 + (-1) * x2 * y3 * y1 * y1 * y1 * y2 * y2 + (-1) * x3 * y1 * y2 * x1 * x1 + (-1) * x3 * y1 * y2 * x2 * x2 + (-1) * y1 * y3 * x1 * x1 * x2 * x2 * x2 + (-1) * y2 * y3 * x1 * x1 * x1 * x2 * x2 + x1 * y2 * y3 * x2 * x2 * y1 * y1 + x2 * y1 * y3 * x1 * x1 * y2 * y2 + (-1) * x1 * x2 * x3 * y1 * y1 * y2 * y2 + (-1) * x3 * y1 * y2 * x1 * x1 * x2 * x2 + D * x1 * y2 * y3 * x2 * x2 * y1 * y1 + D * x2 * y1 * y3 * x1 * x1 * y2 * y2 + (-1) * D * x1 * x2 * x3 * y1 * y1 * y2 * y2 + (-1) * D * x3 * y1 * y2 * x1 * x1 * x2 * x2) * (y3 * y3 - x3 * x3 - 1 - D * (x3 * x3) * (y3 * y3)) := by grind

theorem ed_assoc_y (x1 y1 x2 y2 x3 y3 D : Int) : ((y1 * y2 + x1 * x2) * y3 * (1 + D * x1 * x2 * y1 * y2) + (x1 * y2 + y1 * x2) * x3 * (1 - D * x1 * x2 * y1 * y2)) * ((1 + D * x2 * x3 * y2 * y3) * (1 - D * x2 * x3 * y2 * y3) - D * (x2 * y3 + y2 * x3) * (y2 * y3 + x2 * x3) * x1 * y1) - ((y2 * y3 + x2 * x3) * y1 * (1 + D * x2 * x3 * y2 * y3) + (x2 * y3 + y2 * x3) * x1 * (1 - D * x2 * x3 * y2 * y3)) * ((1 + D * x1 * x2 * y1 * y2) * (1 - D * x1 * x2 * y1 * y2) - D * (x1 * y2 + y1 * x2) * (y1 * y2 + x1 * x2) * x3 * y3) = (D * x1 * x2 * x2 * x2 * y2 * y2 * y3 * y3 * y3 + D * y1 * x2 * x2 * y2 * y2 * y2 * y3 * y3 * y3 + (-1) * D * x1 * x3 * x2 * x2 * y2 * y2 * y2 + (-1) * D * x1 * y3 * x2 * x2 * x2 * y2 * y2 + (-1) * D * x1 * x2 * x2 * x3 * x3 * x3 * y2 * y2 * y2 + (-1) * D * x3 * y1 * x2 * x2 * x2 * y2 * y2 + (-1) * D * y1 * y3 * x2 * x2 * y2 * y2 * y2 + (-1) * D * y1 * x2 * x2 * x2 * x3 * x3 * x3 * y2 * y2 + D * x1 * x3 * y2 * x2 * x2 * x2 * x2 * y3 * y3 + D * x2 * x3 * y1 * y2 * y2 * y2 * y2 * y3 * y3 + x1 * x3 * D * D * x2 * x2 * x2 * x2 * y2 * y2 * y2 * y3 * y3 + x1 * y3 * D * D * x2 * x2 * x2 * x3 * x3 * y2 * y2 * y2 * y2 + (-1) * D * x1 * x2 * y3 * x3 * x3 * y2 * y2 * y2 * y2 + (-1) * D * y1 * y2 * y3 * x2 * x2 * x2 * x2 * x3 * x3 + (-1) * x3 * y1 * D * D * x2 * x2 * x2 * y2 * y2 * y2 * y2 * y3 * y3 + (-1) * y1 * y3 * D * D * x2 * x2 * x2 * x2 * x3 * x3 * y2 * y2 * y2) * (y1 * y1 - x1 * x1 - 1 - D * (x1 * x1) * (y1 * y1)) + (x1 * x2 * y3 + x1 * x3 * y2 + x1 * y2 * x3 * x3 * x3 + x2 * x3 * y1 + x2 * y1 * x3 * x3 * x3 + x2 * y3 * x1 * x1 * x1 + x3 * y2 * x1 * x1 * x1 + y1 * y2 * y3 + y2 * x1 * x1 * x1 * x3 * x3 * x3 + y2 * y1 * y1 * y1 * y3 * y3 * y3 + (-1) * x1 * x2 * y3 * y3 * y3 + (-1) * x2 * x3 * y1 * y1 * y1 + (-1) * x2 * x1 * x1 * x1 * y3 * y3 * y3 + (-1) * x2 * x3 * x3 * x3 * y1 * y1 * y1 + (-1) * y1 * y2 * y3 * y3 * y3 + (-1) * y2 * y3 * y1 * y1 * y1 + x1 * x2 * y3 * x3 * x3 + x1 * x2 * y1 * y1 * y3 * y3 * y3 + x2 * x3 * y1 * x1 * x1 + x2 * x3 * y1 * y1 * y1 * y3 * y3 + x2 * y1 * x1 * x1 * x3 * x3 * x3 + x2 * y3 * x1 * x1 * x1 * x3 * x3 + y1 * y2 * y3 * x1 * x1 + y1 * y2 * y3 * x3 * x3 + (-1) * x1 * x2 * y3 * y1 * y1 + (-1) * x1 * x3 * y2 * y1 * y1 + (-1) * x1 * x3 * y2 * y3 * y3 + (-1) * x1 * y2 * x3 * x3 * x3 * y1 * y1 + (-1) * x2 * x3 * y1 * y3 * y3 + (-1) * x3 * y2 * x1 * x1 * x1 * y3 * y3 + (-1) * y1 * y2 * x1 * x1 * y3 * y3 * y3 + (-1) * y2 * y3 * x3 * x3 * y1 * y1 * y1 + D * x1 * x2 * x3 * x3 * y3 * y3 * y3 + D * x1 * y2 * x3 * x3 * x3 * y3 * y3 + D * x2 * y1 * x3 * x3 * x3 * y3 * y3 + D * x2 * x1 * x1 * x1 * x3 * x3 * y3 * y3 * y3 + D * y1 * y2 * x3 * x3 * y3 * y3 * y3 + D * y2 * x1 * x1 * x1 * x3 * x3 * x3 * y3 * y3 + x1 * x3 * y2 * y1 * y1 * y3 * y3 + y1 * y2 * y3 * x1 * x1 * x3 * x3 + (-1) * D * x2 * x3 * x3 * x3 * y1 * y1 * y1 * y3 * y3 + (-1) * D * y2 * x3 * x3 * y1 * y1 * y1 * y3 * y3 * y3 + (-1) * x1 * x2 * y3 * x3 * x3 * y1 * y1 + (-1) * x2 * x3 * y1 * x1 * x1 * y3 * y3 + D * x2 * x3 * y1 * y2 * y2 * y3 * y3 + D * x2 * y1 * x1 * x1 * x3 * x3 * x3 * y3 * y3 + D * y1 * y2 * y3 * x2 * x2 * x3 * x3 + D * y1 * y2 * x1 * x1 * x3 * x3 * y3 * y3 * y3 + (-1) * D * x1 * x2 * y3 * x3 * x3 * y2 * y2 + (-1) * D * x1 * x2 * x3 * x3 * y1 * y1 * y3 * y3 * y3 + (-1) * D * x1 * x3 * y2 * x2 * x2 * y3 * y3 + (-1) * D * x1 * y2 * x3 * x3 * x3 * y1 * y1 * y3 * y3 + (-1) * D * x2 * x3 * y1 * y1 * y1 * y2 * y2 * y3 * y3 + (-1) * D * x2 * y3 * x1 * x1 * x1 * x3 * x3 * y2 * y2 + (-1) * D * x3 * y2 * x1 * x1 * x1 * x2 * x2 * y3 * y3 + (-1) * D * y2 * y3 * x2 * x2 * x3 * x3 * y1 * y1 * y1 + D * x1 * x2 * y3 * x3 * x3 * y1 * y1 * y2 * y2 + D * x1 * x3 * y2 * x2 * x2 * y1 * y1 * y3 * y3 + D * x2 * x3 * y1 * x1 * x1 * y2 * y2 * y3 * y3 + D * y1 * y2 * y3 * x1 * x1 * x2 * x2 * x3 * x3 + x1 * x2 * D * D * x3 * x3 * y1 * y1 * y2 * y2 * y3 * y3 * y3 + y1 * y2 * D * D * x1 * x1 * x2 * x2 * x3 * x3 * y3 * y3 * y3 + (-1) * x1 * y2 * D * D * x2 * x2 * x3 * x3 * x3 * y1 * y1 * y3 * y3 + (-1) * x2 * y1 * D * D * x1 * x1 * x3 * x3 * x3 * y2 * y2 * y3 * y3) * (y2 * y2 - x2 * x2 - 1 - D * (x2 * x2) * (y2 * y2)) + (x1 * x3 * y2 * y2 * y2 + x2 * x3 * y1 * y1 * y1 + x3 * x1 * x1 * x1 * y2 * y2 * y2 + x3 * x2 * x2 * x2 * y1 * y1 * y1 + y1 * y3 * y2 * y2 * y2 + y2 * y3 * y1 * y1 * y1 + (-1) * x1 * x2 * y3 + (-1) * x1 * x3 * y2 + (-1) * x1 * y3 * x2 * x2 * x2 + (-1) * x2 * x3 * y1 + (-1) * x2 * y3 * x1 * x1 * x1 + (-1) * x3 * y1 * x2 * x2 * x2 + (-1) * x3 * y2 * x1 * x1 * x1 + (-1) * y1 * y2 * y3 + (-1) * y3 * x1 * x1 * x1 * x2 * x2 * x2 + (-1) * y3 * y1 * y1 * y1 * y2 * y2 * y2 + x1 * x2 * y3 * y1 * y1 + x1 * x2 * y3 * y2 * y2 + x1 * x3 * y2 * y1 * y1 + x1 * y3 * x2 * x2 * x2 * y1 * y1 + x2 * x3 * y1 * y2 * y2 + x2 * y3 * x1 * x1 * x1 * y2 * y2 + y1 * y3 * x1 * x1 * y2 * y2 * y2 + y2 * y3 * x2 * x2 * y1 * y1 * y1 + (-1) * x1 * x3 * y2 * x2 * x2 + (-1) * x1 * x3 * y1 * y1 * y2 * y2 * y2 + (-1) * x2 * x3 * y1 * x1 * x1 + (-1) * x2 * x3 * y1 * y1 * y1 * y2 * y2 + (-1) * x3 * y1 * x1 * x1 * x2 * x2 * x2 + (-1) * x3 * y2 * x1 * x1 * x1 * x2 * x2 + (-1) * y1 * y2 * y3 * x1 * x1 + (-1) * y1 * y2 * y3 * x2 * x2 + x1 * x3 * y2 * x2 * x2 * y1 * y1 + x2 * x3 * y1 * x1 * x1 * y2 * y2 + (-1) * x1 * x2 * y3 * y1 * y1 * y2 * y2 + (-1) * y1 * y2 * y3 * x1 * x1 * x2 * x2 + D * x1 * x3 * y2 * x2 * x2 * y1 * y1 + D * x2 * x3 * y1 * x1 * x1 * y2 * y2 + (-1) * D * x1 * x2 * y3 * y1 * y1 * y2 * y2 + (-1) * D * y1 * y2 * y3 * x1 * x1 * x2 * x2) * (y3 * y3 - x3 * x3 - 1 - D * (x3 * x3) * (y3 * y3)) := by grind

theorem ed_on (x1 y1 x2 y2 D : Int) : (y1 * y2 + x1 * x2) * (y1 * y2 + x1 * x2) * ((1 + D * x1 * x2 * y1 * y2) * (1 + D * x1 * x2 * y1 * y2)) - (x1 * y2 + y1 * x2) * (x1 * y2 + y1 * x2) * ((1 - D * x1 * x2 * y1 * y2) * (1 - D * x1 * x2 * y1 * y2)) - (1 + D * x1 * x2 * y1 * y2) * (1 + D * x1 * x2 * y1 * y2) * ((1 - D * x1 * x2 * y1 * y2) * (1 - D * x1 * x2 * y1 * y2)) - D * ((x1 * y2 + y1 * x2) * (x1 * y2 + y1 * x2)) * ((y1 * y2 + x1 * x2) * (y1 * y2 + x1 * x2)) = (x2 * x2 * x2 * x2 + y2 * y2 * y2 * y2 + (-4) * x2 * x2 * y2 * y2 + (-2) * x2 * x2 * x2 * x2 * y2 * y2 + 2 * x2 * x2 * y2 * y2 * y2 * y2 + (-1) * D * D * x2 * x2 * x2 * x2 * y2 * y2 * y2 * y2 + (-2) * D * x2 * x2 * y2 * y2 + (-2) * D * x2 * x2 * x2 * x2 * y2 * y2 * y2 * y2 + D * x1 * x1 * x2 * x2 * y2 * y2 * y2 * y2 + D * x2 * x2 * x2 * x2 * y1 * y1 * y2 * y2 + D * D * x2 * x2 * x2 * x2 * y1 * y1 * y2 * y2 * y2 * y2 + (-1) * D * x1 * x1 * x2 * x2 * x2 * x2 * y2 * y2 + (-1) * D * x2 * x2 * y1 * y1 * y2 * y2 * y2 * y2 + (-1) * D * D * x1 * x1 * x2 * x2 * x2 * x2 * y2 * y2 * y2 * y2 + D * D * D * x1 * x1 * x2 * x2 * x2 * x2 * y1 * y1 * y2 * y2 * y2 * y2) * (y1 * y1 - x1 * x1 - 1 - D * (x1 * x1) * (y1 * y1)) + (1 + y2 * y2 + (-1) * x2 * x2 + x1 * x1 * y2 * y2 + x2 * x2 * y1 * y1 + (-1) * x1 * x1 * x2 * x2 + (-1) * y1 * y1 * y2 * y2 + 2 * x2 * x2 * y2 * y2 + D * x2 * x2 * y2 * y2 + (-2) * x2 * x2 * y1 * y1 * y2 * y2 + 2 * x1 * x1 * x2 * x2 * y2 * y2 + D * x1 * x1 * x1 * x1 * x2 * x2 * y2 * y2 + D * x2 * x2 * y1 * y1 * y1 * y1 * y2 * y2 + (-2) * D * x2 * x2 * y1 * y1 * y2 * y2 + 2 * D * x1 * x1 * x2 * x2 * y2 * y2) * (y2 * y2 - x2 * x2 - 1 - D * (x2 * x2) * (y2 * y2)) := by grind

theorem ed_pole_pp (x1 y1 x2 y2 D i : Int) : (y1 + i * x1) * (y1 + i * x1) - D * ((x1 * y1 * (y2 - i * x2)) * (x1 * y1 * (y2 - i * x2))) = 1 * (y1 * y1 - x1 * x1 - 1 - D * (x1 * x1) * (y1 * y1)) + ((-1) * D * x1 * x1 * y1 * y1) * (y2 * y2 - x2 * x2 - 1 - D * (x2 * x2) * (y2 * y2)) + (x1 * x1 + (-1) * D * x1 * x1 * x2 * x2 * y1 * y1) * (i * i + 1) + (1 + 2 * i * x1 * y1 + (-1) * D * x1 * x2 * y1 * y2) * (1 + D * x1 * x2 * y1 * y2) := by grind

theorem ed_pole_pm (x1 y1 x2 y2 D i : Int) : (y1 - i * x1) * (y1 - i * x1) - D * ((x1 * y1 * (y2 + i * x2)) * (x1 * y1 * (y2 + i * x2))) = 1 * (y1 * y1 - x1 * x1 - 1 - D * (x1 * x1) * (y1 * y1)) + ((-1) * D * x1 * x1 * y1 * y1) * (y2 * y2 - x2 * x2 - 1 - D * (x2 * x2) * (y2 * y2)) + (x1 * x1 + (-1) * D * x1 * x1 * x2 * x2 * y1 * y1) * (i * i + 1) + (1 + (-2) * i * x1 * y1 + (-1) * D * x1 * x2 * y1 * y2) * (1 + D * x1 * x2 * y1 * y2) := by grind

theorem ed_pole_mp (x1 y1 x2 y2 D i : Int) : (y1 + i * x1) * (y1 + i * x1) - D * ((x1 * y1 * (y2 + i * x2)) * (x1 * y1 * (y2 + i * x2))) = 1 * (y1 * y1 - x1 * x1 - 1 - D * (x1 * x1) * (y1 * y1)) + ((-1) * D * x1 * x1 * y1 * y1) * (y2 * y2 - x2 * x2 - 1 - D * (x2 * x2) * (y2 * y2)) + (x1 * x1 + (-1) * D * x1 * x1 * x2 * x2 * y1 * y1) * (i * i + 1) + (1 + 2 * i * x1 * y1 + D * x1 * x2 * y1 * y2) * (1 - D * x1 * x2 * y1 * y2) := by grind

theorem ed_pole_mm (x1 y1 x2 y2 D i : Int) : (y1 - i * x1) * (y1 - i * x1) - D * ((x1 * y1 * (y2 - i * x2)) * (x1 * y1 * (y2 - i * x2))) = 1 * (y1 * y1 - x1 * x1 - 1 - D * (x1 * x1) * (y1 * y1)) + ((-1) * D * x1 * x1 * y1 * y1) * (y2 * y2 - x2 * x2 - 1 - D * (x2 * x2) * (y2 * y2)) + (x1 * x1 + (-1) * D * x1 * x1 * x2 * x2 * y1 * y1) * (i * i + 1) + (1 + (-2) * i * x1 * y1 + D * x1 * x2 * y1 * y2) * (1 - D * x1 * x2 * y1 * y2) := by grind

theorem ed_cross (u w du dw nu nw : Int) : (u - w) * (du * dw) = dw * (u * du - nu) + (-du) * (w * dw - nw) + 1 * (nu * dw - nw * du) := by grind

/-- A pair. -/
structure Pr where
  x : Int
  y : Int

theorem Pr.ext' {a b : Pr} (hx : a.x = b.x) (hy : a.y = b.y) : a = b := by
  cases a; cases b; simp only at hx hy; subst hx hy; rfl

/-- A pair of the curve. -/
structure OnE (p : Nat) (D : Int) (a : Pr) : Prop where
  x0 : 0 ≤ a.x
  x1 : a.x < p
  y0 : 0 ≤ a.y
  y1 : a.y < p
  on : (p : Int) ∣ a.y * a.y - a.x * a.x - 1 - D * (a.x * a.x) * (a.y * a.y)

/-- A twisted curve: an odd prime number, D no square by it, -1 one. -/
structure EdC (p : Nat) (D : Int) : Prop where
  prime : Prime p
  three : 3 ≤ p
  ns : ∀ u v : Int, (p : Int) ∣ u * u - D * (v * v) → (p : Int) ∣ v
  i : ∃ i : Int, (p : Int) ∣ i * i + 1

/-- The product in the rule. -/
def mE (D : Int) (a b : Pr) : Int := D * a.x * b.x * a.y * b.y

/-- The sum. -/
def addE (p : Nat) (D : Int) (a b : Pr) : Pr := ⟨((a.x * b.y + a.y * b.x) * iv p (1 + mE D a b)) % p, ((a.y * b.y + a.x * b.x) * iv p (1 - mE D a b)) % p⟩

/-- The pair that changes nothing. -/
def oneE : Pr := ⟨0, 1⟩

section
variable {p : Nat} {D : Int}

theorem EdC.pos (h : EdC p D) : 0 < p := by have := h.three; omega

theorem EdC.two (h : EdC p D) {y : Int} (hd : (p : Int) ∣ 2 * y) : (p : Int) ∣ y := by
  rcases h.prime.dvd_mul_int hd with k | k
  · have := Int.le_of_dvd (by omega) k
    have := h.three
    omega
  · exact k

theorem EdC.unit (h : EdC p D) : ¬ (p : Int) ∣ 1 := fun k => by
  have := Int.le_of_dvd (by omega) k
  have := h.three
  omega

/-- Where the product were 1 or -1, D would be a square. -/
theorem EdC.no_pole (h : EdC p D) {a b : Pr} (ha : OnE p D a) (hb : OnE p D b) : ¬ (p : Int) ∣ 1 + mE D a b ∧ ¬ (p : Int) ∣ 1 - mE D a b := by
  obtain ⟨i, hi⟩ := h.i
  have nxy : ∀ c : Int, (c = 1 ∨ c = -1) → (p : Int) ∣ 1 + c * mE D a b → ¬ (p : Int) ∣ a.x * a.y ∧ ¬ (p : Int) ∣ b.y := by
    intro c hc hd
    constructor
    · intro k
      refine h.unit (comb2 hd k 1 (-(c * D * b.x * b.y)) ?_)
      unfold mE; grind
    · intro k
      refine h.unit (comb2 hd k 1 (-(c * D * a.x * a.y * b.x)) ?_)
      unfold mE; grind
  constructor
  · intro hd
    have hd' : (p : Int) ∣ 1 + D * a.x * b.x * a.y * b.y := hd
    obtain ⟨n1, n2⟩ := nxy 1 (Or.inl rfl) (by rw [Int.one_mul]; exact hd)
    have e1 := h.ns _ _ (comb4 ha.on hb.on hi hd' _ _ _ _ (ed_pole_pp a.x a.y b.x b.y D i))
    have e2 := h.ns _ _ (comb4 ha.on hb.on hi hd' _ _ _ _ (ed_pole_pm a.x a.y b.x b.y D i))
    rcases h.prime.dvd_mul_int e1 with k | k1
    · exact n1 k
    · rcases h.prime.dvd_mul_int e2 with k | k2
      · exact n1 k
      · exact n2 (h.two (comb2 k1 k2 1 1 (by grind)))
  · intro hd
    have hd' : (p : Int) ∣ 1 - D * a.x * b.x * a.y * b.y := hd
    obtain ⟨n1, n2⟩ := nxy (-1) (Or.inr rfl) (by rw [show 1 + -1 * mE D a b = 1 - mE D a b by omega]; exact hd)
    have e1 := h.ns _ _ (comb4 ha.on hb.on hi hd' _ _ _ _ (ed_pole_mp a.x a.y b.x b.y D i))
    have e2 := h.ns _ _ (comb4 ha.on hb.on hi hd' _ _ _ _ (ed_pole_mm a.x a.y b.x b.y D i))
    rcases h.prime.dvd_mul_int e1 with k | k1
    · exact n1 k
    · rcases h.prime.dvd_mul_int e2 with k | k2
      · exact n1 k
      · exact n2 (h.two (comb2 k1 k2 1 1 (by grind)))

/-- The sum told by two congruences. -/
structure SumE (p : Nat) (D : Int) (a b s : Pr) : Prop where
  x0 : 0 ≤ s.x
  x1 : s.x < p
  y0 : 0 ≤ s.y
  y1 : s.y < p
  ex : (p : Int) ∣ s.x * (1 + mE D a b) - (a.x * b.y + a.y * b.x)
  ey : (p : Int) ∣ s.y * (1 - mE D a b) - (a.y * b.y + a.x * b.x)

theorem iv_div (hp : Prime p) {u d : Int} (hd : ¬ (p : Int) ∣ d) : (p : Int) ∣ (u * iv p d % p) * d - u := by
  have h1 := iv_spec hp hd
  have h2 := mod_dvd (p : Int) (u * iv p d)
  generalize u * iv p d % p = z at *
  generalize iv p d = v at *
  exact comb2 h1 h2 u d (by grind)

theorem addE_sum (h : EdC p D) {a b : Pr} (ha : OnE p D a) (hb : OnE p D b) : SumE p D a b (addE p D a b) := by
  have hp := h.pos
  obtain ⟨n1, n2⟩ := h.no_pole ha hb
  exact ⟨Int.emod_nonneg _ (by omega), Int.emod_lt_of_pos _ (by omega), Int.emod_nonneg _ (by omega), Int.emod_lt_of_pos _ (by omega), iv_div h.prime n1, iv_div h.prime n2⟩

theorem SumE.unique (h : EdC p D) {a b s t : Pr} (ha : OnE p D a) (hb : OnE p D b) (hs : SumE p D a b s) (ht : SumE p D a b t) : s = t := by
  obtain ⟨n1, n2⟩ := h.no_pole ha hb
  refine Pr.ext' (eq_of_dvd hs.x0 hs.x1 ht.x0 ht.x1 ?_) (eq_of_dvd hs.y0 hs.y1 ht.y0 ht.y1 ?_)
  · have k : (p : Int) ∣ (s.x - t.x) * (1 + mE D a b) := comb2 hs.ex ht.ex 1 (-1) (by grind)
    exact (h.prime.dvd_mul_int k).resolve_right n1
  · have k : (p : Int) ∣ (s.y - t.y) * (1 - mE D a b) := comb2 hs.ey ht.ey 1 (-1) (by grind)
    exact (h.prime.dvd_mul_int k).resolve_right n2

theorem SumE.eq (h : EdC p D) {a b s : Pr} (ha : OnE p D a) (hb : OnE p D b) (hs : SumE p D a b s) : addE p D a b = s := (addE_sum h ha hb).unique h ha hb hs

theorem mE_comm (D : Int) (a b : Pr) : mE D a b = mE D b a := by unfold mE; grind

theorem addE_comm (p : Nat) (D : Int) (a b : Pr) : addE p D a b = addE p D b a := by
  unfold addE
  rw [mE_comm D a b, show a.x * b.y + a.y * b.x = b.x * a.y + b.y * a.x by grind, show a.y * b.y + a.x * b.x = b.y * a.y + b.x * a.x by grind]

theorem SumE.on (h : EdC p D) {a b s : Pr} (ha : OnE p D a) (hb : OnE p D b) (hs : SumE p D a b s) : OnE p D s := by
  obtain ⟨n1, n2⟩ := h.no_pole ha hb
  refine ⟨hs.x0, hs.x1, hs.y0, hs.y1, ?_⟩
  have ex : (p : Int) ∣ s.x * (1 + D * a.x * b.x * a.y * b.y) - (a.x * b.y + a.y * b.x) := hs.ex
  have ey : (p : Int) ∣ s.y * (1 - D * a.x * b.x * a.y * b.y) - (a.y * b.y + a.x * b.x) := hs.ey
  have key := ed_on a.x a.y b.x b.y D
  have k0 : (p : Int) ∣ _ := comb2 ha.on hb.on _ _ key
  have n1' : ¬ (p : Int) ∣ 1 + D * a.x * b.x * a.y * b.y := n1
  have n2' : ¬ (p : Int) ∣ 1 - D * a.x * b.x * a.y * b.y := n2
  clear key hs ha hb n1 n2
  generalize D * a.x * b.x * a.y * b.y = m at *
  generalize a.x * b.y + a.y * b.x = A at *
  generalize a.y * b.y + a.x * b.x = B at *
  have k : (p : Int) ∣ (1 + m) * ((1 + m) * ((1 - m) * ((1 - m) * (s.y * s.y - s.x * s.x - 1 - D * (s.x * s.x) * (s.y * s.y))))) := by
    refine comb3 k0 ex ey 1 (-((1 - m) * (1 - m) * (s.x * (1 + m) + A)) - D * B * B * (s.x * (1 + m) + A)) ((1 + m) * (1 + m) * (s.y * (1 - m) + B) - D * (s.x * (1 + m)) * (s.x * (1 + m)) * (s.y * (1 - m) + B)) ?_
    grind
  have k := (h.prime.dvd_mul_int k).resolve_left n1'
  have k := (h.prime.dvd_mul_int k).resolve_left n1'
  have k := (h.prime.dvd_mul_int k).resolve_left n2'
  exact (h.prime.dvd_mul_int k).resolve_left n2'

theorem addE_on (h : EdC p D) {a b : Pr} (ha : OnE p D a) (hb : OnE p D b) : OnE p D (addE p D a b) := (addE_sum h ha hb).on h ha hb

theorem one_on (h : EdC p D) : OnE p D oneE := ⟨by simp [oneE], by have := h.three; simp [oneE]; omega, by simp [oneE], by have := h.three; simp [oneE]; omega, by simp [oneE]⟩

theorem addE_one (h : EdC p D) {a : Pr} (ha : OnE p D a) : addE p D a oneE = a := by
  refine SumE.eq h ha (one_on h) ⟨ha.x0, ha.x1, ha.y0, ha.y1, ?_, ?_⟩
  · simp [mE, oneE]
  · simp [mE, oneE]

theorem one_addE (h : EdC p D) {a : Pr} (ha : OnE p D a) : addE p D oneE a = a := by rw [addE_comm]; exact addE_one h ha

/-- The other side. -/
def negE (p : Nat) (a : Pr) : Pr := ⟨(-a.x) % p, a.y⟩

theorem negE_on (h : EdC p D) {a : Pr} (ha : OnE p D a) : OnE p D (negE p a) := by
  have hp := h.pos
  refine ⟨Int.emod_nonneg _ (by omega), Int.emod_lt_of_pos _ (by omega), ha.y0, ha.y1, ?_⟩
  have h1 := mod_dvd (p : Int) (-a.x)
  have h2 := ha.on
  show (p : Int) ∣ a.y * a.y - ((-a.x) % p) * ((-a.x) % p) - 1 - D * (((-a.x) % p) * ((-a.x) % p)) * (a.y * a.y)
  generalize (-a.x) % (p : Int) = z at *
  exact comb2 h2 h1 1 (-(z - a.x) - D * (z - a.x) * (a.y * a.y)) (by grind)

theorem add_negE (h : EdC p D) {a : Pr} (ha : OnE p D a) : addE p D a (negE p a) = oneE := by
  have h1 := mod_dvd (p : Int) (-a.x)
  have h2 := ha.on
  have h3 := one_on h
  refine SumE.eq h ha (negE_on h ha) ⟨h3.x0, h3.x1, h3.y0, h3.y1, ?_, ?_⟩
  · show (p : Int) ∣ 0 * _ - (a.x * a.y + a.y * ((-a.x) % p))
    generalize (-a.x) % (p : Int) = z at *
    exact comb1 h1 (-a.y) (by grind)
  · show (p : Int) ∣ 1 * (1 - D * a.x * ((-a.x) % p) * a.y * a.y) - (a.y * a.y + a.x * ((-a.x) % p))
    generalize (-a.x) % (p : Int) = z at *
    exact comb2 h2 h1 (-1) (-(D * a.x * a.y * a.y) - a.x) (by grind)

/-- A sum and one more, the denominators cleared. -/
theorem sum_more (h : EdC p D) {a b c s u : Pr} (ha : OnE p D a) (hb : OnE p D b) (hc : OnE p D c) (hs : SumE p D a b s) (hu : SumE p D s c u) :
    ((p : Int) ∣ u.x * ((1 + mE D a b) * (1 - mE D a b) + D * (a.x * b.y + a.y * b.x) * (a.y * b.y + a.x * b.x) * c.x * c.y) - ((a.x * b.y + a.y * b.x) * c.y * (1 - mE D a b) + (a.y * b.y + a.x * b.x) * c.x * (1 + mE D a b)) ∧
      ¬ (p : Int) ∣ (1 + mE D a b) * (1 - mE D a b) + D * (a.x * b.y + a.y * b.x) * (a.y * b.y + a.x * b.x) * c.x * c.y) ∧
    ((p : Int) ∣ u.y * ((1 + mE D a b) * (1 - mE D a b) - D * (a.x * b.y + a.y * b.x) * (a.y * b.y + a.x * b.x) * c.x * c.y) - ((a.y * b.y + a.x * b.x) * c.y * (1 + mE D a b) + (a.x * b.y + a.y * b.x) * c.x * (1 - mE D a b)) ∧
      ¬ (p : Int) ∣ (1 + mE D a b) * (1 - mE D a b) - D * (a.x * b.y + a.y * b.x) * (a.y * b.y + a.x * b.x) * c.x * c.y) := by
  obtain ⟨n1, n2⟩ := h.no_pole ha hb
  have os := hs.on h ha hb
  obtain ⟨n3, n4⟩ := h.no_pole os hc
  have ex := hs.ex
  have ey := hs.ey
  have fx : (p : Int) ∣ u.x * (1 + D * s.x * c.x * s.y * c.y) - (s.x * c.y + s.y * c.x) := hu.ex
  have fy : (p : Int) ∣ u.y * (1 - D * s.x * c.x * s.y * c.y) - (s.y * c.y + s.x * c.x) := hu.ey
  have n3' : ¬ (p : Int) ∣ 1 + D * s.x * c.x * s.y * c.y := n3
  have n4' : ¬ (p : Int) ∣ 1 - D * s.x * c.x * s.y * c.y := n4
  clear hu hs os n3 n4 ha hb hc
  generalize mE D a b = m at *
  generalize a.x * b.y + a.y * b.x = A at *
  generalize a.y * b.y + a.x * b.x = B at *
  -- D A B x3 y3 is the product of the denominators times the second product
  have q : (p : Int) ∣ (1 + m) * (1 - m) * (D * s.x * c.x * s.y * c.y) - D * A * B * c.x * c.y := comb2 ex ey (D * c.x * c.y * (s.y * (1 - m))) (D * c.x * c.y * A) (by grind)
  refine ⟨⟨?_, ?_⟩, ?_, ?_⟩
  · exact comb4 fx ex ey q ((1 + m) * (1 - m)) (c.y * (1 - m)) (c.x * (1 + m)) (-u.x) (by grind)
  · intro k
    have : (p : Int) ∣ (1 + m) * ((1 - m) * (1 + D * s.x * c.x * s.y * c.y)) := comb2 k q 1 1 (by grind)
    rcases h.prime.dvd_mul_int this with k | k
    · exact n1 k
    · rcases h.prime.dvd_mul_int k with k | k
      · exact n2 k
      · exact n3' k
  · exact comb4 fy ex ey q ((1 + m) * (1 - m)) (c.x * (1 - m)) (c.y * (1 + m)) u.y (by grind)
  · intro k
    have : (p : Int) ∣ (1 + m) * ((1 - m) * (1 - D * s.x * c.x * s.y * c.y)) := comb2 k q 1 (-1) (by grind)
    rcases h.prime.dvd_mul_int this with k | k
    · exact n1 k
    · rcases h.prime.dvd_mul_int k with k | k
      · exact n2 k
      · exact n4' k

theorem addE_assoc (h : EdC p D) {a b c : Pr} (ha : OnE p D a) (hb : OnE p D b) (hc : OnE p D c) : addE p D (addE p D a b) c = addE p D a (addE p D b c) := by
  rw [addE_comm p D a (addE p D b c)]
  have hs := addE_sum h ha hb
  have hv := addE_sum h hb hc
  have hu := addE_sum h (addE_on h ha hb) hc
  have hw := addE_sum h (addE_on h hb hc) ha
  obtain ⟨⟨u1, u2⟩, u3, u4⟩ := sum_more h ha hb hc hs hu
  obtain ⟨⟨w1, w2⟩, w3, w4⟩ := sum_more h hb hc ha hv hw
  have kx : (p : Int) ∣ _ := comb3 ha.on hb.on hc.on _ _ _ (ed_assoc_x a.x a.y b.x b.y c.x c.y D)
  have ky : (p : Int) ∣ _ := comb3 ha.on hb.on hc.on _ _ _ (ed_assoc_y a.x a.y b.x b.y c.x c.y D)
  generalize addE p D (addE p D a b) c = u at *
  generalize addE p D (addE p D b c) a = w at *
  unfold mE at u1 u2 u3 u4 w1 w2 w3 w4
  refine Pr.ext' (eq_of_dvd hu.x0 hu.x1 hw.x0 hw.x1 ?_) (eq_of_dvd hu.y0 hu.y1 hw.y0 hw.y1 ?_)
  · clear u3 u4 w3 w4 ky hu hw hs hv
    revert u1 u2 w1 w2 kx
    generalize ((1 + D * a.x * b.x * a.y * b.y) * (1 - D * a.x * b.x * a.y * b.y) + D * (a.x * b.y + a.y * b.x) * (a.y * b.y + a.x * b.x) * c.x * c.y) = du
    generalize ((1 + D * b.x * c.x * b.y * c.y) * (1 - D * b.x * c.x * b.y * c.y) + D * (b.x * c.y + b.y * c.x) * (b.y * c.y + b.x * c.x) * a.x * a.y) = dw
    generalize ((a.x * b.y + a.y * b.x) * c.y * (1 - D * a.x * b.x * a.y * b.y) + (a.y * b.y + a.x * b.x) * c.x * (1 + D * a.x * b.x * a.y * b.y)) = nu
    generalize ((b.x * c.y + b.y * c.x) * a.y * (1 - D * b.x * c.x * b.y * c.y) + (b.y * c.y + b.x * c.x) * a.x * (1 + D * b.x * c.x * b.y * c.y)) = nw
    intro h1 h2 kx u1 w1
    have k : (p : Int) ∣ (u.x - w.x) * (du * dw) := comb3 u1 w1 kx dw (-du) 1 (ed_cross _ _ _ _ _ _)
    rcases h.prime.dvd_mul_int k with k | k
    · exact k
    · rcases h.prime.dvd_mul_int k with k | k
      · first | exact absurd k h1 | exact absurd k h2
      · first | exact absurd k h1 | exact absurd k h2
  · clear u1 u2 w1 w2 kx hu hw hs hv
    revert u3 u4 w3 w4 ky
    generalize ((1 + D * a.x * b.x * a.y * b.y) * (1 - D * a.x * b.x * a.y * b.y) - D * (a.x * b.y + a.y * b.x) * (a.y * b.y + a.x * b.x) * c.x * c.y) = du
    generalize ((1 + D * b.x * c.x * b.y * c.y) * (1 - D * b.x * c.x * b.y * c.y) - D * (b.x * c.y + b.y * c.x) * (b.y * c.y + b.x * c.x) * a.x * a.y) = dw
    generalize ((a.y * b.y + a.x * b.x) * c.y * (1 + D * a.x * b.x * a.y * b.y) + (a.x * b.y + a.y * b.x) * c.x * (1 - D * a.x * b.x * a.y * b.y)) = nu
    generalize ((b.y * c.y + b.x * c.x) * a.y * (1 + D * b.x * c.x * b.y * c.y) + (b.x * c.y + b.y * c.x) * a.x * (1 - D * b.x * c.x * b.y * c.y)) = nw
    intro h1 h2 ky u3 w3
    have k : (p : Int) ∣ (u.y - w.y) * (du * dw) := comb3 u3 w3 ky dw (-du) 1 (ed_cross _ _ _ _ _ _)
    rcases h.prime.dvd_mul_int k with k | k
    · exact k
    · rcases h.prime.dvd_mul_int k with k | k
      · first | exact absurd k h1 | exact absurd k h2
      · first | exact absurd k h1 | exact absurd k h2

/-- A pair taken n times. -/
def nE (p : Nat) (D : Int) : Nat → Pr → Pr
  | 0, _ => oneE
  | n + 1, a => addE p D (nE p D n a) a

theorem nE_on (h : EdC p D) {a : Pr} (ha : OnE p D a) (n : Nat) : OnE p D (nE p D n a) := by
  induction n with
  | zero => exact one_on h
  | succ n ih => exact addE_on h ih ha

theorem nE_add (h : EdC p D) {a : Pr} (ha : OnE p D a) (m n : Nat) : nE p D (m + n) a = addE p D (nE p D m a) (nE p D n a) := by
  induction n with
  | zero => exact (addE_one h (nE_on h ha m)).symm
  | succ n ih =>
    show addE p D (nE p D (m + n) a) a = addE p D (nE p D m a) (addE p D (nE p D n a) a)
    rw [ih, addE_assoc h (nE_on h ha m) (nE_on h ha n) ha]

theorem nE_mul (h : EdC p D) {a : Pr} (ha : OnE p D a) (m n : Nat) : nE p D m (nE p D n a) = nE p D (m * n) a := by
  induction m with
  | zero => rw [Nat.zero_mul]; rfl
  | succ m ih => rw [Nat.succ_mul, nE_add h ha, ← ih]; rfl

theorem nE_one (h : EdC p D) (n : Nat) : nE p D n oneE = oneE := by
  induction n with
  | zero => rfl
  | succ n ih => show addE p D (nE p D n oneE) oneE = oneE; rw [ih]; exact addE_one h (one_on h)

/-- A multiple by doubling, as the model and the program reckon it. -/
def accE (p : Nat) (D : Int) : Nat → Nat → Pr → Pr → Pr
  | 0, _, o, _ => o
  | f + 1, n, o, a => accE p D f (n / 2) (if n % 2 = 1 then addE p D o a else o) (addE p D a a)

def mulE (p : Nat) (D : Int) (n : Nat) (a : Pr) : Pr := accE p D 64 n oneE a

theorem accE_eq (h : EdC p D) : ∀ (f n : Nat) (o a : Pr), OnE p D o → OnE p D a → n < 2 ^ f → accE p D f n o a = addE p D o (nE p D n a) := by
  intro f
  induction f with
  | zero =>
    intro n o a ho ha hn
    obtain rfl : n = 0 := by simpa using hn
    exact (addE_one h ho).symm
  | succ f ih =>
    intro n o a ho ha hn
    have h2 : n / 2 < 2 ^ f := by rw [Nat.pow_succ] at hn; omega
    have haa := addE_on h ha ha
    have e2 : nE p D (n / 2) (addE p D a a) = nE p D (n / 2 * 2) a := by
      have := nE_mul h ha (n / 2) 2
      rwa [show nE p D 2 a = addE p D (addE p D oneE a) a from rfl, one_addE h ha] at this
    rw [accE]
    by_cases hodd : n % 2 = 1
    · rw [if_pos hodd, ih _ _ _ (addE_on h ho ha) haa h2, e2, addE_assoc h ho ha (nE_on h ha _)]
      congr 1
      rw [addE_comm p D a (nE p D _ a)]
      show nE p D (n / 2 * 2 + 1) a = _
      rw [show n / 2 * 2 + 1 = n by omega]
    · rw [if_neg hodd, ih _ _ _ ho haa h2, e2, show n / 2 * 2 = n by omega]

theorem mulE_eq (h : EdC p D) {n : Nat} (hn : n < 2 ^ 64) {a : Pr} (ha : OnE p D a) : mulE p D n a = nE p D n a := by
  unfold mulE
  rw [accE_eq h 64 n oneE a (one_on h) ha hn]
  exact one_addE h (nE_on h ha n)

theorem mulE_on (h : EdC p D) {n : Nat} (hn : n < 2 ^ 64) {a : Pr} (ha : OnE p D a) : OnE p D (mulE p D n a) := by
  rw [mulE_eq h hn ha]; exact nE_on h ha n

end
end

section
set_option linter.unusedVariables false

/-- Numbers that leave the same, as a divisibility. -/
theorem nat_cong {p x y : Nat} (h : x % p = y % p) : (p : Int) ∣ (x : Int) - (y : Int) := by
  have h1 := mod_dvd (p : Int) (x : Int)
  have h2 := mod_dvd (p : Int) (y : Int)
  rw [← Int.natCast_emod] at h1 h2
  rw [h] at h1
  exact comb2 h1 h2 (-1) 1 (by grind)

theorem cong_nat {p x y : Nat} (hp : 0 < p) (h : (p : Int) ∣ (x : Int) - (y : Int)) : x % p = y % p := by
  have := mod_eq h
  omega

theorem less_cong {p x : Nat} (hp : 2 ≤ p) (h : x % p = p - 1) : (p : Int) ∣ (x : Int) + 1 := by
  have h1 := mod_dvd (p : Int) (x : Int)
  rw [← Int.natCast_emod, h] at h1
  have h2 : (p : Int) ∣ (p : Int) := Int.dvd_refl _
  exact comb2 h1 h2 (-1) 1 (by omega)

theorem cong_less {p x : Nat} (hp : 2 ≤ p) (h : (p : Int) ∣ (x : Int) + 1) : x % p = p - 1 := by
  have h2 : (p : Int) ∣ (p : Int) := Int.dvd_refl _
  have h1 : (p : Int) ∣ (x : Int) - ((p - 1 : Nat) : Int) := comb2 h h2 1 (-1) (by omega)
  have := cong_nat (by omega) h1
  rwa [Nat.mod_eq_of_lt (by omega : p - 1 < p)] at this

section
variable {p : Nat}

theorem Prime.minus_one (hp : Prime p) (h8 : p % 8 = 5) {n : Nat} (e : n ^ ((p - 1) / 2) % p = p - 1) : (p : Int) ∣ ((n ^ ((p - 1) / 4) : Nat) : Int) * ((n ^ ((p - 1) / 4) : Nat) : Int) + 1 := by
  have := less_cong hp.1 e
  rw [show (p - 1) / 2 = (p - 1) / 4 + (p - 1) / 4 by omega, Nat.pow_add, Int.natCast_mul] at this
  exact this

/-- No square: the power to half of p - 1 is -1. -/
theorem Prime.no_square (hp : Prime p) (ho : p % 2 = 1) (h3 : 3 ≤ p) {n : Nat} (e : n ^ ((p - 1) / 2) % p = p - 1) (u v : Int) (h : (p : Int) ∣ u * u - (n : Int) * (v * v)) : (p : Int) ∣ v := by
  rcases Classical.em ((p : Int) ∣ v) with k | hv
  · exact k
  exfalso
  have hn : ¬ p ∣ n := by
    intro k
    have : n ^ ((p - 1) / 2) % p = 0 := by
      obtain ⟨c, rfl⟩ := k
      rw [Nat.mul_pow, show (p - 1) / 2 = ((p - 1) / 2 - 1) + 1 by omega, Nat.pow_succ, Nat.mul_assoc, Nat.mul_comm (p ^ _) , Nat.mul_assoc, Nat.mul_mod_right]
    omega
  have hi := iv_spec hp hv
  have r0 := Int.emod_nonneg (u * iv p v) (show (p : Int) ≠ 0 by omega)
  have h1 := mod_dvd (p : Int) (u * iv p v)
  obtain ⟨z, hz⟩ := Int.eq_ofNat_of_zero_le r0
  rw [hz] at h1
  have key : (p : Int) ∣ ((z * z : Nat) : Int) - (n : Int) := by
    rw [Int.natCast_mul]
    generalize iv p v = w at *
    exact comb3 h hi h1 (w * w) ((n : Int) * (v * w + 1)) ((z : Int) + u * w) (by grind)
  have := hp.euler_square ho hn (cong_nat (by omega) key)
  omega

theorem edC_of (hp : Prime p) (h8 : p % 8 = 5) {n : Nat} (e : n ^ ((p - 1) / 2) % p = p - 1) : EdC p (n : Int) :=
  ⟨hp, by omega, fun u v h => hp.no_square (by omega) (by omega) e u v h, ⟨_, hp.minus_one h8 e⟩⟩

/-- 2 is no square by a prime number that leaves 5 by 8. -/
theorem Prime.two_less (hp : Prime p) (h8 : p % 8 = 5) {i : Nat} (hi : (p : Int) ∣ (i : Int) * i + 1) : 2 ^ ((p - 1) / 2) % p = p - 1 := by
  have h2 := hp.1
  have hn : ¬ p ∣ i + 1 := by
    intro k
    have k' : (p : Int) ∣ (i : Int) + 1 := by have := Int.natCast_dvd_natCast.2 k; rwa [Int.natCast_add] at this
    have : (p : Int) ∣ 2 := comb2 hi k' 1 (1 - (i : Int)) (by grind)
    have := Int.le_of_dvd (by omega) this
    omega
  have hf := hp.fermat hn
  have f1 : (p : Int) ∣ (((i + 1) ^ (p - 1) : Nat) : Int) - 1 := by
    have := nat_cong (show (i + 1) ^ (p - 1) % p = 1 % p by rw [hf, Nat.mod_eq_of_lt (by omega)])
    simpa using this
  -- (1 + i)^2 leaves 2 i
  have s1 : (p : Int) ∣ (((i + 1) * (i + 1) : Nat) : Int) - ((2 * i : Nat) : Int) := by
    rw [Int.natCast_mul, Int.natCast_add, Int.natCast_mul]
    exact comb1 hi 1 (by grind)
  have c1 := cong_nat (by omega) s1
  have e1 : (i + 1) ^ (p - 1) % p = (2 * i) ^ ((p - 1) / 2) % p := by
    rw [show p - 1 = 2 * ((p - 1) / 2) by omega, Nat.pow_mul, Nat.pow_two, show 2 * ((p - 1) / 2) / 2 = (p - 1) / 2 by omega, Nat.pow_mod, c1, ← Nat.pow_mod]
  -- i to half of p - 1 is -1
  have s2 : (p : Int) ∣ ((i * i : Nat) : Int) + 1 := by rw [Int.natCast_mul]; exact hi
  have c2 := cong_less h2 s2
  have e2 : i ^ ((p - 1) / 2) % p = p - 1 := by
    rw [show (p - 1) / 2 = 2 * ((p - 1) / 4) by omega, Nat.pow_mul, Nat.pow_two, Nat.pow_mod, c2]
    rw [show (p - 1) / 4 = 2 * ((p - 5) / 8) + 1 by omega, Nat.pow_succ, Nat.pow_mul, Nat.pow_two, Nat.mul_mod, Nat.pow_mod, less_sq h2, Nat.one_pow]
    rw [Nat.mod_eq_of_lt (by omega : 1 < p), Nat.one_mul, Nat.mod_mod, Nat.mod_eq_of_lt (by omega)]
  rw [hf, Nat.mul_pow, Nat.mul_mod, e2] at e1
  generalize 2 ^ ((p - 1) / 2) = t at *
  have k : (p : Int) ∣ ((t % p * (p - 1) : Nat) : Int) - 1 := by
    have := nat_cong (show t % p * (p - 1) % p = 1 % p by rw [← e1, Nat.mod_eq_of_lt (by omega)])
    simpa using this
  have k2 := mod_dvd (p : Int) (t : Int)
  rw [← Int.natCast_emod] at k2
  rw [Int.natCast_mul, show ((p - 1 : Nat) : Int) = (p : Int) - 1 by omega] at k
  have k3 : (p : Int) ∣ (p : Int) := Int.dvd_refl _
  refine cong_less h2 (comb3 k k2 k3 (-1) (-1) ((t % p : Nat) : Int) ?_)
  generalize ((t % p : Nat) : Int) = q at *
  grind

/-- A root, as the model reckons it. -/
def root5 (p w : Nat) : Nat :=
  if (w ^ ((p + 3) / 8) % p) * (w ^ ((p + 3) / 8) % p) % p = w % p then w ^ ((p + 3) / 8) % p else (w ^ ((p + 3) / 8) % p) * (2 ^ ((p - 1) / 4) % p) % p

theorem Prime.root5 (hp : Prime p) (h8 : p % 8 = 5) (ht : 2 ^ ((p - 1) / 2) % p = p - 1) {w z : Nat} (e : z * z % p = w % p) : root5 p w * root5 p w % p = w % p := by
  have h2 := hp.1
  unfold Proofs.YtigjjkondbdgjaaGreatDoor.root5
  by_cases c : (w ^ ((p + 3) / 8) % p) * (w ^ ((p + 3) / 8) % p) % p = w % p
  · rw [if_pos c]; exact c
  rw [if_neg c]
  have sq : (w ^ ((p + 3) / 8) % p) * (w ^ ((p + 3) / 8) % p) % p = w * w ^ ((p - 1) / 4) % p := by
    rw [← Nat.mul_mod, ← Nat.pow_add, show (p + 3) / 8 + (p + 3) / 8 = (p - 1) / 4 + 1 by omega, Nat.pow_succ, Nat.mul_comm]
  have hw : ¬ p ∣ w := by
    intro k
    apply c
    rw [sq, Nat.mul_mod, Nat.mod_eq_zero_of_dvd k, Nat.zero_mul, Nat.zero_mod]
  have hz : ¬ p ∣ z := by
    intro k
    apply hw
    have : z * z % p = 0 := Nat.mod_eq_zero_of_dvd (Nat.dvd_trans k (Nat.dvd_mul_right _ _))
    exact Nat.dvd_of_mod_eq_zero (by rw [← e, this])
  have q : w ^ ((p - 1) / 4) % p = z ^ ((p - 1) / 2) % p := by
    rw [Nat.pow_mod, ← e, ← Nat.pow_mod, ← Nat.pow_two, ← Nat.pow_mul, show 2 * ((p - 1) / 4) = (p - 1) / 2 by omega]
  rcases hp.euler (by omega) hz with k | k
  · exfalso
    apply c
    rw [sq, Nat.mul_mod, q, k, Nat.mul_one, Nat.mod_mod]
  · have t2 : (2 ^ ((p - 1) / 4) % p) * (2 ^ ((p - 1) / 4) % p) % p = p - 1 := by
      rw [← Nat.mul_mod, ← Nat.pow_add, show (p - 1) / 4 + (p - 1) / 4 = (p - 1) / 2 by omega, ht]
    generalize w ^ ((p + 3) / 8) % p = x at *
    generalize 2 ^ ((p - 1) / 4) % p = t at *
    rw [← Nat.mul_mod, show x * t * (x * t) = (x * x) * (t * t) by grind, Nat.mul_mod, sq, t2, Nat.mul_mod w, q, k, Nat.mod_mul_mod, Nat.mul_assoc, Nat.mul_mod, less_sq h2, Nat.mod_mod, Nat.mul_one, Nat.mod_mod]

end
end

section
set_option linter.unusedVariables false
open Go.RowKit

def prV (a : Pr) : Value := .agg #[.int .i64 a.x, .int .i64 a.y]

/-- A call's answer is whether the pair is of the curve. -/
def GivesOnE (p D : Int) (a : Pr) (r : Ending) : Prop := ∃ ok : Bool, r = .returned (.bool ok) ∧ (ok = true ↔ OnE p.toNat D a)

theorem givesOnE_no {p D x y : Int} (h : ¬ (0 ≤ x ∧ x ≤ p - 1 ∧ 0 ≤ y ∧ y ≤ p - 1)) (hp : 0 ≤ p) : GivesOnE p D ⟨x, y⟩ (.returned (.bool false)) :=
  ⟨false, rfl, ⟨fun k => by simp at k, fun k => absurd ⟨k.x0, by have := k.x1; simp only at this; omega, k.y0, by have := k.y1; simp only at this; omega⟩ h⟩⟩

theorem onE_model {p D x y : Int} (hp : 0 < p) (hx0 : 0 ≤ x) (hx : x ≤ p - 1) (hy0 : 0 ≤ y) (hy : y ≤ p - 1) : ((y * y % p - x * x % p) % p = (1 + D * (x * x % p) % p * (y * y % p)) % p) ↔ OnE p.toNat D ⟨x, y⟩ := by
  have e : ((p.toNat : Nat) : Int) = p := by omega
  have h1 := mod_dvd p (x * x)
  have h2 := mod_dvd p (y * y)
  have h3 := mod_dvd p (D * (x * x % p))
  generalize D * (x * x % p) % p = d at *
  generalize x * x % p = u at *
  generalize y * y % p = v at *
  constructor
  · intro h
    refine ⟨hx0, by simp only; omega, hy0, by simp only; omega, ?_⟩
    rw [e]
    have h4 := Int.dvd_of_emod_eq_zero (Int.emod_eq_emod_iff_emod_sub_eq_zero.1 h)
    exact comb4 h4 h1 h2 h3 1 (1 + D * v) (-1 + D * (x * x)) v (by grind)
  · intro h
    have h4 := h.on
    rw [e] at h4
    exact mod_eq (comb4 h4 h1 h2 h3 1 (-(1 + D * v)) (1 - D * (x * x)) (-v) (by grind))

theorem givesOnE_eq {p D x y : Int} (hp : 0 < p) (hx0 : 0 ≤ x) (hx : x ≤ p - 1) (hy0 : 0 ≤ y) (hy : y ≤ p - 1) {ok : Bool} (h : ok = ((y * y % p - x * x % p) % p == (1 + D * (x * x % p) % p * (y * y % p)) % p)) : GivesOnE p D ⟨x, y⟩ (.returned (.bool ok)) :=
  ⟨ok, rfl, by rw [h, beq_iff_eq]; exact onE_model hp hx0 hx hy0 hy⟩

/-- Both numbers in the range. -/
structure InE (p : Nat) (a : Pr) : Prop where
  x0 : 0 ≤ a.x
  x1 : a.x < p
  y0 : 0 ≤ a.y
  y1 : a.y < p

theorem addE_inE {p : Nat} (hp : 0 < p) (D : Int) (a b : Pr) : InE p (addE p D a b) :=
  ⟨Int.emod_nonneg _ (by omega), Int.emod_lt_of_pos _ (by omega), Int.emod_nonneg _ (by omega), Int.emod_lt_of_pos _ (by omega)⟩

theorem OnE.inE {p : Nat} {D : Int} {a : Pr} (h : OnE p D a) : InE p a := ⟨h.x0, h.x1, h.y0, h.y1⟩

theorem iv_congr {p : Nat} {a b : Int} (h : (p : Int) ∣ a - b) : iv p a = iv p b := by
  unfold iv
  rw [mod_eq h]

theorem mulmod (p a b : Int) : a * b % p = a % p * b % p := by
  have h := mod_dvd p a
  generalize a % p = r at *
  exact mod_eq (comb1 h (-b) (by grind))

/-- The model's sum is the rule's. -/
theorem addE_model (p : Nat) (D x1 y1 x2 y2 m : Int) (hm : m = D * (x1 * x2 % p) % p * (y1 * y2 % p) % p) :
    addE p D ⟨x1, y1⟩ ⟨x2, y2⟩ = ⟨(x1 * y2 + y1 * x2) % p * iv p (1 + m) % p, (y1 * y2 % p + x1 * x2 % p) % p * iv p (1 - m) % p⟩ := by
  have h1 := mod_dvd (p : Int) (x1 * x2)
  have h2 := mod_dvd (p : Int) (y1 * y2)
  have h3 := mod_dvd (p : Int) (D * (x1 * x2 % p))
  have h4 := mod_dvd (p : Int) (D * (x1 * x2 % p) % p * (y1 * y2 % p))
  rw [← hm] at h4
  have hd : (p : Int) ∣ m - mE D ⟨x1, y1⟩ ⟨x2, y2⟩ := by
    show (p : Int) ∣ m - D * x1 * x2 * y1 * y2
    generalize D * (x1 * x2 % p) % p = d at *
    generalize x1 * x2 % (p : Int) = u at *
    generalize y1 * y2 % (p : Int) = v at *
    exact comb4 h4 h3 h1 h2 1 v (D * v) (D * (x1 * x2)) (by grind)
  have e1 : iv p (1 + mE D ⟨x1, y1⟩ ⟨x2, y2⟩) = iv p (1 + m) := iv_congr (comb1 hd (-1) (by grind))
  have e2 : iv p (1 - mE D ⟨x1, y1⟩ ⟨x2, y2⟩) = iv p (1 - m) := iv_congr (comb1 hd 1 (by grind))
  unfold addE
  rw [e1, e2]
  refine Pr.ext' ?_ ?_
  · show _ % (p : Int) = _ % (p : Int)
    exact mulmod _ _ _
  · show _ % (p : Int) = _ % (p : Int)
    have e3 : (y1 * y2 % (p : Int) + x1 * x2 % (p : Int)) % p = (y1 * y2 + x1 * x2) % p := (Int.add_emod _ _ _).symm
    rw [e3]
    exact mulmod _ _ _
end

section
set_option linter.unusedVariables false
open Go.RowKit

set_option maxHeartbeats 1600000 in
set_option maxRecDepth 100000 in
theorem l4On_any (p D L bx b' x y : Int) (w : World) (hp0 : 2 ≤ p) (hp : p ≤ 1048576) (hD0 : 0 ≤ D) (hD : D ≤ 1048576) :
    Calls Tryz.prog 91 #[.agg #[.int .i64 p, .int .i64 D, .int .i64 L, .int .i64 bx, .int .i64 b'], .agg #[.int .i64 x, .int .i64 y]] w fun r w' => GivesOnE p D ⟨x, y⟩ r ∧ Ext w w' := by
  by_cases c1 : 0 ≤ x ∧ x ≤ p - 1
  · have hin : (decide ((0 : Int) ≤ x) && decide (x ≤ p - 1)) = true := by simp; omega
    by_cases c2 : 0 ≤ y ∧ y ≤ p - 1
    · have hin2 : (decide ((0 : Int) ≤ y) && decide (y ≤ p - 1)) = true := by simp; omega
      obtain ⟨x0', x1⟩ := c1
      obtain ⟨y0, y1⟩ := c2
      have Hy : Hid (∀ ok : Bool, ok = ((y * y % p - x * x % p) % p == (1 + D * (x * x % p) % p * (y * y % p)) % p) → GivesOnE p D ⟨x, y⟩ (.returned (.bool ok))) := fun ok h => givesOnE_eq (by omega) x0' x1 y0 y1 h
      obtain ⟨a0, a1⟩ := mulBd y0 (show y ≤ 1048576 by omega) y0 (show y ≤ 1048576 by omega)
      obtain ⟨b0, b1⟩ := mulBd x0' (show x ≤ 1048576 by omega) x0' (show x ≤ 1048576 by omega)
      have m0 := Int.emod_nonneg (x * x) (show p ≠ 0 by omega)
      have m1 := Int.emod_lt_of_pos (x * x) (show 0 < p by omega)
      have n0 := Int.emod_nonneg (y * y) (show p ≠ 0 by omega)
      have n1 := Int.emod_lt_of_pos (y * y) (show 0 < p by omega)
      obtain ⟨d0, d1⟩ := mulBd hD0 hD m0 (show x * x % p ≤ 1048576 by omega)
      have r0 := Int.emod_nonneg (D * (x * x % p)) (show p ≠ 0 by omega)
      have r1 := Int.emod_lt_of_pos (D * (x * x % p)) (show 0 < p by omega)
      obtain ⟨s0, s1⟩ := mulBd r0 (show D * (x * x % p) % p ≤ 1048576 by omega) n0 (show y * y % p ≤ 1048576 by omega)
      have HL : Hid (∀ w : World, Calls Tryz.prog 119 #[.int .i64 (y * y % p - x * x % p), .int .i64 p] w fun r w' => r = .returned (.int .i64 ((y * y % p - x * x % p) % p)) ∧ w' = w) := fun w => l2Left_any _ _ w (by omega) (by omega) (by omega) (by omega)
      have e1 : IntKind.i64.wrap (y * y % p - x * x % p) = y * y % p - x * x % p := by rw [IntKind.wrap_i64]; omega
      have pp : ¬ p = 0 := by omega
      go_enter Tryz.func91, Tryz.ntmps91
      go_wp2_with fail
      refine (l1In_int _ _ _ _).mono ?_
      rintro r w' ⟨rfl, hw⟩
      subst hw
      rw [hin]
      go_wp2_with fail
      refine (l1In_int _ _ _ _).mono ?_
      rintro r w' ⟨rfl, hw⟩
      subst hw
      rw [hin2]
      clear hin hin2
      go_wp2
      go_quiet (fail)
      have hVE : Ext ((w.alloc (.cells #[.int .i64 p, .int .i64 D, .int .i64 L, .int .i64 bx, .int .i64 b'] 44)).alloc (.cells #[.int .i64 x, .int .i64 y] 45)) (((w.alloc (.cells #[.int .i64 p, .int .i64 D, .int .i64 L, .int .i64 bx, .int .i64 b'] 44)).alloc (.cells #[.int .i64 x, .int .i64 y] 45)).drewN nq) := below_drewN (Below.refl _ _) _
      obtain ⟨B1, -, hE, hz⟩ := box2 w [.int .i64 p, .int .i64 D, .int .i64 L, .int .i64 bx, .int .i64 b'] [.int .i64 x, .int .i64 y] 44 45 hVE
      clear hVE
      generalize ((w.alloc (.cells #[.int .i64 p, .int .i64 D, .int .i64 L, .int .i64 bx, .int .i64 b'] 44)).alloc (.cells #[.int .i64 x, .int .i64 y] 45)).drewN nq = V at *
      have k0 := (B1 0 _ rfl).1
      have k1 := (B1 1 _ rfl).1
      clear B1
      go_wp2
      go_quiet ((go_at_call 119; exact Calls.quiet_of_same (HL.out _)))
      go_wp2
      go_ret
      exact ⟨Hy.out _ (by rw [Int.sub_emod (y * y) (x * x) p]), below_drewN hE _⟩
    · have hin2 : (decide ((0 : Int) ≤ y) && decide (y ≤ p - 1)) = false := by simp; omega
      have Hno : Hid (GivesOnE p D ⟨x, y⟩ (.returned (.bool false))) := givesOnE_no (fun h => c2 ⟨h.2.2.1, h.2.2.2⟩) (by omega)
      go_enter Tryz.func91, Tryz.ntmps91
      go_wp2_with fail
      refine (l1In_int _ _ _ _).mono ?_
      rintro r w' ⟨rfl, hw⟩
      subst hw
      rw [hin]
      go_wp2_with fail
      refine (l1In_int _ _ _ _).mono ?_
      rintro r w' ⟨rfl, hw⟩
      subst hw
      rw [hin2]
      clear hin hin2
      go_wp2
      go_ret
      exact ⟨Hno.out, ((Below.refl _ _).alloc (Nat.le_refl _) _).alloc (by simp) _⟩
  · have hin : (decide ((0 : Int) ≤ x) && decide (x ≤ p - 1)) = false := by simp; omega
    have Hno : Hid (GivesOnE p D ⟨x, y⟩ (.returned (.bool false))) := givesOnE_no (fun h => c1 ⟨h.1, h.2.1⟩) (by omega)
    go_enter Tryz.func91, Tryz.ntmps91
    go_wp2_with fail
    refine (l1In_int _ _ _ _).mono ?_
    rintro r w' ⟨rfl, hw⟩
    subst hw
    rw [hin]
    clear hin
    go_wp2
    go_ret
    exact ⟨Hno.out, ((Below.refl _ _).alloc (Nat.le_refl _) _).alloc (by simp) _⟩

theorem l2Inv_ext (a : Int) (p : Nat) (w : World) (h0 : -9223372036854775808 ≤ a) (h1 : a ≤ 9223372036854775807) (hp : Prime p) (h3 : 3 ≤ p) (hm : p ≤ 1073741824) :
    Calls Tryz.prog 118 #[.int .i64 a, .int .i64 (p : Int)] w fun r w' => r = .returned (.int .i64 (iv p a)) ∧ Ext w w' :=
  (l2Inv_iv a p w h0 h1 hp h3 hm).mono fun r w' k => ⟨k.1, by obtain ⟨q, rfl⟩ := k.2; exact below_drewN (Below.refl _ _) _⟩

set_option maxHeartbeats 1600000 in
set_option maxRecDepth 100000 in
theorem l4Add_any (p : Nat) (D L bx b' : Int) (a b : Pr) (w : World) (hpr : Prime p) (h3 : 3 ≤ p) (hp : p ≤ 1048576) (hD0 : 0 ≤ D) (hD : D ≤ 1048576) (ha : InE p a) (hb : InE p b) :
    Calls Tryz.prog 153 #[.agg #[.int .i64 p, .int .i64 D, .int .i64 L, .int .i64 bx, .int .i64 b'], .agg #[.int .i64 a.x, .int .i64 a.y], .agg #[.int .i64 b.x, .int .i64 b.y]] w fun r w' => r = .returned (prV (addE p D a b)) ∧ Ext w w' := by
  obtain ⟨x1, y1⟩ := a
  obtain ⟨x2, y2⟩ := b
  obtain ⟨a0, a1, a2, a3⟩ := ha
  obtain ⟨b0, b1, b2, b3⟩ := hb
  simp only at a0 a1 a2 a3 b0 b1 b2 b3 ⊢
  have pp : (0 : Int) < p := by omega
  have hM : (p : Int) ≤ 1048576 := by omega
  obtain ⟨m, hm⟩ : ∃ m, m = D * (x1 * x2 % p) % p * (y1 * y2 % p) % p := ⟨_, rfl⟩
  have HV := hide (addE_model p D x1 y1 x2 y2 m hm)
  obtain ⟨q1, q2⟩ := mulBd a0 (show x1 ≤ 1048576 by omega) b0 (show x2 ≤ 1048576 by omega)
  obtain ⟨q3, q4⟩ := mulBd a2 (show y1 ≤ 1048576 by omega) b2 (show y2 ≤ 1048576 by omega)
  obtain ⟨q5, q6⟩ := mulBd a0 (show x1 ≤ 1048576 by omega) b2 (show y2 ≤ 1048576 by omega)
  obtain ⟨q7, q8⟩ := mulBd a2 (show y1 ≤ 1048576 by omega) b0 (show x2 ≤ 1048576 by omega)
  have u0 := Int.emod_nonneg (x1 * x2) (show (p : Int) ≠ 0 by omega)
  have u1 := Int.emod_lt_of_pos (x1 * x2) pp
  have v0 := Int.emod_nonneg (y1 * y2) (show (p : Int) ≠ 0 by omega)
  have v1 := Int.emod_lt_of_pos (y1 * y2) pp
  obtain ⟨d0, d1⟩ := mulBd hD0 hD u0 (show x1 * x2 % (p : Int) ≤ 1048576 by omega)
  have r0 := Int.emod_nonneg (D * (x1 * x2 % p)) (show (p : Int) ≠ 0 by omega)
  have r1 := Int.emod_lt_of_pos (D * (x1 * x2 % p)) pp
  obtain ⟨s0, s1⟩ := mulBd r0 (show D * (x1 * x2 % (p : Int)) % p ≤ 1048576 by omega) v0 (show y1 * y2 % (p : Int) ≤ 1048576 by omega)
  have m0 : 0 ≤ m := by rw [hm]; exact Int.emod_nonneg _ (by omega)
  have m1 : m < p := by rw [hm]; exact Int.emod_lt_of_pos _ pp
  have t0 := Int.emod_nonneg (x1 * y2 + y1 * x2) (show (p : Int) ≠ 0 by omega)
  have t1 := Int.emod_lt_of_pos (x1 * y2 + y1 * x2) pp
  have t2 := Int.emod_nonneg (y1 * y2 % p + x1 * x2 % p) (show (p : Int) ≠ 0 by omega)
  have t3 := Int.emod_lt_of_pos (y1 * y2 % p + x1 * x2 % p) pp
  obtain ⟨i0, i1⟩ := iv_range (show 0 < p by omega) (1 + m)
  obtain ⟨i2, i3⟩ := iv_range (show 0 < p by omega) (1 - m)
  obtain ⟨k0, k1⟩ := mulBd t0 (show (x1 * y2 + y1 * x2) % (p : Int) ≤ 1048576 by omega) i0 (show iv p (1 + m) ≤ 1048576 by omega)
  obtain ⟨k2, k3⟩ := mulBd t2 (show (y1 * y2 % (p : Int) + x1 * x2 % (p : Int)) % (p : Int) ≤ 1048576 by omega) i2 (show iv p (1 - m) ≤ 1048576 by omega)
  replace hm := hm.symm
  obtain ⟨A1, hA1⟩ : ∃ A1, 1 + m = A1 := ⟨_, rfl⟩
  obtain ⟨A2, hA2⟩ : ∃ A2, 1 - m = A2 := ⟨_, rfl⟩
  have e1 : IntKind.i64.wrap (1 - m) = A2 := by rw [IntKind.wrap_i64]; omega
  have e2 : IntKind.i64.wrap (1 + m) = A1 := by rw [IntKind.wrap_i64]; omega
  have e1' : wrap64 (1 - m) = A2 := by unfold wrap64; omega
  have e2' : wrap64 (1 + m) = A1 := by unfold wrap64; omega
  have HI1 : Hid (∀ w : World, Calls Tryz.prog 118 #[.int .i64 A1, .int .i64 (p : Int)] w fun e w' => e = .returned (.int .i64 (iv p A1)) ∧ Ext w w') := fun w => l2Inv_ext A1 p w (by omega) (by omega) hpr (by omega) (by omega)
  have HI2 : Hid (∀ w : World, Calls Tryz.prog 118 #[.int .i64 A2, .int .i64 (p : Int)] w fun e w' => e = .returned (.int .i64 (iv p A2)) ∧ Ext w w') := fun w => l2Inv_ext A2 p w (by omega) (by omega) hpr (by omega) (by omega)
  rw [hA1, hA2] at HV
  rw [hA1] at i0 i1 k0 k1
  rw [hA2] at i2 i3 k2 k3
  rw [← Int.add_emod] at HV t2 t3 k2 k3
  have pp' : ¬ (p : Int) = 0 := by omega
  have pn : ¬ p = 0 := by omega
  have pb : (p == 0) = false := by simpa using pn
  have pc : ((p : Int) == 0) = false := by simpa using pn
  go_enter Tryz.func153, Tryz.ntmps153
  go_wp2
  go_quiet (fail)
  have hVE : Ext ((((w.alloc (.cells #[.int .i64 p, .int .i64 D, .int .i64 L, .int .i64 bx, .int .i64 b'] 44)).alloc (.cells #[.int .i64 x1, .int .i64 y1] 45)).alloc (.cells #[.int .i64 x2, .int .i64 y2] 45)).alloc (.cells #[.int .i64 0, .int .i64 0] 45)) (((((w.alloc (.cells #[.int .i64 p, .int .i64 D, .int .i64 L, .int .i64 bx, .int .i64 b'] 44)).alloc (.cells #[.int .i64 x1, .int .i64 y1] 45)).alloc (.cells #[.int .i64 x2, .int .i64 y2] 45)).alloc (.cells #[.int .i64 0, .int .i64 0] 45)).drewN nq) := below_drewN (Below.refl _ _) _
  obtain ⟨B1, B2, B3, B4, hE, hz⟩ := box4 w [.int .i64 p, .int .i64 D, .int .i64 L, .int .i64 bx, .int .i64 b'] [.int .i64 x1, .int .i64 y1] [.int .i64 x2, .int .i64 y2] [.int .i64 0, .int .i64 0] 44 45 45 45 hVE
  clear hVE
  generalize ((((w.alloc (.cells #[.int .i64 p, .int .i64 D, .int .i64 L, .int .i64 bx, .int .i64 b'] 44)).alloc (.cells #[.int .i64 x1, .int .i64 y1] 45)).alloc (.cells #[.int .i64 x2, .int .i64 y2] 45)).alloc (.cells #[.int .i64 0, .int .i64 0] 45)).drewN nq = w1 at *
  have j0 := (B1 0 _ rfl).1
  have j1 := (B1 1 _ rfl).1
  go_wp2
  go_quiet (fail)
  have h2 : Ext w1 (w1.drewN nq) := below_drewN (Below.refl _ _) _
  generalize w1.drewN nq = w2 at *
  clear j0 j1
  replace B1 := B1.ext h2 (by omega)
  replace B2 := B2.ext h2 (by omega)
  replace B3 := B3.ext h2 (by omega)
  replace B4 := B4.ext h2 (by omega)
  replace hE := hE.trans h2
  replace hz : w.heap.size + 4 ≤ w2.heap.size := Nat.le_trans hz (Below.size h2)
  clear h2
  have j0 := (B1 0 _ rfl).1
  have j1 := (B1 1 _ rfl).1
  have f0 := (B2 0 _ rfl).1
  have f1 := (B2 1 _ rfl).1
  have g0 := (B3 0 _ rfl).1
  have g1 := (B3 1 _ rfl).1
  go_wp2
  simp only [hm]
  clear j0 j1 f0 f1 g0 g1 hm
  have rw0 : IntKind.i64.wrap (((x1 * y2 + y1 * x2) % (p : Int)) * iv p A1) = ((x1 * y2 + y1 * x2) % (p : Int)) * iv p A1 := by rw [IntKind.wrap_i64]; omega
  have ru0 : wrap64 (((x1 * y2 + y1 * x2) % (p : Int)) * iv p A1) = ((x1 * y2 + y1 * x2) % (p : Int)) * iv p A1 := by unfold wrap64; omega
  have rt1 : Int.tmod (((x1 * y2 + y1 * x2) % (p : Int)) * iv p A1) (p : Int) = (((x1 * y2 + y1 * x2) % (p : Int)) * iv p A1) % (p : Int) := Int.tmod_eq_emod_of_nonneg k0
  have rq1 := Int.emod_nonneg (((x1 * y2 + y1 * x2) % (p : Int)) * iv p A1) pp'
  have rs1 := Int.emod_lt_of_pos (((x1 * y2 + y1 * x2) % (p : Int)) * iv p A1) pp
  have rw1 : IntKind.i64.wrap ((((x1 * y2 + y1 * x2) % (p : Int)) * iv p A1) % (p : Int)) = (((x1 * y2 + y1 * x2) % (p : Int)) * iv p A1) % (p : Int) := by rw [IntKind.wrap_i64]; omega
  have ru1 : wrap64 ((((x1 * y2 + y1 * x2) % (p : Int)) * iv p A1) % (p : Int)) = (((x1 * y2 + y1 * x2) % (p : Int)) * iv p A1) % (p : Int) := by unfold wrap64; omega
  have rw2 : IntKind.i64.wrap ((y1 * y2 % (p : Int) + x1 * x2 % (p : Int))) = (y1 * y2 % (p : Int) + x1 * x2 % (p : Int)) := by rw [IntKind.wrap_i64]; omega
  have ru2 : wrap64 ((y1 * y2 % (p : Int) + x1 * x2 % (p : Int))) = (y1 * y2 % (p : Int) + x1 * x2 % (p : Int)) := by unfold wrap64; omega
  have rt3 : Int.tmod ((y1 * y2 % (p : Int) + x1 * x2 % (p : Int))) (p : Int) = ((y1 * y2 % (p : Int) + x1 * x2 % (p : Int))) % (p : Int) := Int.tmod_eq_emod_of_nonneg (by omega)
  have rq3 := Int.emod_nonneg ((y1 * y2 % (p : Int) + x1 * x2 % (p : Int))) pp'
  have rs3 := Int.emod_lt_of_pos ((y1 * y2 % (p : Int) + x1 * x2 % (p : Int))) pp
  have rw3 : IntKind.i64.wrap (((y1 * y2 % (p : Int) + x1 * x2 % (p : Int))) % (p : Int)) = ((y1 * y2 % (p : Int) + x1 * x2 % (p : Int))) % (p : Int) := by rw [IntKind.wrap_i64]; omega
  have ru3 : wrap64 (((y1 * y2 % (p : Int) + x1 * x2 % (p : Int))) % (p : Int)) = ((y1 * y2 % (p : Int) + x1 * x2 % (p : Int))) % (p : Int) := by unfold wrap64; omega
  have rw4 : IntKind.i64.wrap ((y1 * y2 + x1 * x2) % (p : Int) * iv p A2) = (y1 * y2 + x1 * x2) % (p : Int) * iv p A2 := by rw [IntKind.wrap_i64]; omega
  have ru4 : wrap64 ((y1 * y2 + x1 * x2) % (p : Int) * iv p A2) = (y1 * y2 + x1 * x2) % (p : Int) * iv p A2 := by unfold wrap64; omega
  have rt5 : Int.tmod ((y1 * y2 + x1 * x2) % (p : Int) * iv p A2) (p : Int) = ((y1 * y2 + x1 * x2) % (p : Int) * iv p A2) % (p : Int) := Int.tmod_eq_emod_of_nonneg k2
  have rq5 := Int.emod_nonneg ((y1 * y2 + x1 * x2) % (p : Int) * iv p A2) pp'
  have rs5 := Int.emod_lt_of_pos ((y1 * y2 + x1 * x2) % (p : Int) * iv p A2) pp
  have rw5 : IntKind.i64.wrap (((y1 * y2 + x1 * x2) % (p : Int) * iv p A2) % (p : Int)) = ((y1 * y2 + x1 * x2) % (p : Int) * iv p A2) % (p : Int) := by rw [IntKind.wrap_i64]; omega
  have ru5 : wrap64 (((y1 * y2 + x1 * x2) % (p : Int) * iv p A2) % (p : Int)) = ((y1 * y2 + x1 * x2) % (p : Int) * iv p A2) % (p : Int) := by unfold wrap64; omega
  obtain ⟨X, hX⟩ : ∃ X : Nat → Prop, X = fun k => w.heap.size + 3 ≤ k := ⟨_, rfl⟩
  have x0 : ∀ k, k < w.heap.size + 3 → ¬ X k := fun k h => by rw [hX]; simp; omega
  have xC : X (w.heap.size + 1 + 1 + 1) := by rw [hX]; exact Nat.le_refl _
  clear hX
  have c0 := cell_reC (B1 0 _ rfl).1 (x0 _ (by first | omega | (simp only; omega)))
  clear a0 a1 a2 a3 b0 b1 b2 b3 q1 q2 q3 q4 q5 q6 q7 q8 u0 u1 v0 v1 d0 d1 r0 r1 s0 s1 m0 m1 t0 t1 t2 t3 i0 i1 i2 i3 k0 k1 k2 k3 hA1 hA2 B1 B2 B3 hpr h3 hp hD0 hD hM rq1 rq3 rq5 rs1 rs3 rs5
  refine anyK_begin X 27 rfl (by kernel_rfl) ?_
  refine anyK_take 0 26 1 rfl (by decide) (by kernel_rfl) (fun _ _ d _ _ h => by cases d <;> exact h) ?_
  repeat (refine headC_step (fun K hK => ?_); go_simp; first | (refine hK _ ?_; clear hK K) | (apply Exists.intro; refine ⟨fun _ => ?_, hK _ ?_⟩; (first | (go_at_call_of 118 (A1); exact Calls.re_of (HI1.out _)) | (go_at_call_of 118 (A2); exact Calls.re_of (HI2.out _))); clear hK K))
  refine headC_nil ?_
  clear c0
  generalize (x1 * y2 + y1 * x2) % (p : Int) * iv p A1 % p = e1 at *
  generalize (y1 * y2 + x1 * x2) % (p : Int) * iv p A2 % p = e2 at *
  refine anyK_one 26 (by kernel_rfl) ?_
  refine stepK_run rfl ?_
  intro w3 h3 K hK
  have BZ := B4.ext h3 (by omega)
  have v0' := (BZ 0 _ rfl).1
  have v1' := (BZ 1 _ rfl).1
  have z0 := (BZ 0 _ rfl).2
  have z1 := (BZ 1 _ rfl).2
  go_simp
  refine hK _ _ (show Grw X w2 (putL (w.heap.size + 1 + 1 + 1) 0 [.int .i64 e1, .int .i64 e2] w3) from Grw.putL xC _ _ _ (.of_ext h3)) ?_
  clear hK K v0' v1' z0 z1
  refine anyK_done (by kernel_rfl) ?_ 0
  intro w4 h4
  replace h4 : Ext (putL (w.heap.size + 1 + 1 + 1) 0 [.int .i64 e1, .int .i64 e2] w3) w4 := h4
  have BW := (BZ.put [.int .i64 e1, .int .i64 e2] rfl).ext h4 (by rw [size_putL]; have := Below.size h3; omega)
  have hF : Ext w w4 := ((hE.trans h3).putL (by omega) [.int .i64 e1, .int .i64 e2]).trans h4
  clear h3 h4 BZ
  have j0 := (BW 0 _ rfl).1
  have j1 := (BW 1 _ rfl).1
  go_wp2
  refine bodyPost_ret (v := .agg #[.int .i64 e1, .int .i64 e2]) (by simp [results, Tryz.results153, go_sem, j0, j1]) rfl ⟨by rw [HV.out]; rfl, hF⟩
end

section
set_option linter.unusedVariables false
open Go.RowKit

theorem accE_zero (p : Nat) (D : Int) : ∀ (f : Nat) (o a : Pr), accE p D f 0 o a = o := by
  intro f
  induction f with
  | zero => intro o a; rfl
  | succ f ih => intro o a; rw [accE]; simp [ih]

/-- What l4Mul's loop keeps: the curve, the pair, the answer's block, the sum so far. -/
structure MulE (w wr : World) (p D L bx b' : Int) (b o : Pr) : Prop where
  cv : Blk wr w.heap.size [.int .i64 p, .int .i64 D, .int .i64 L, .int .i64 bx, .int .i64 b']
  pt : Blk wr (w.heap.size + 1) [.int .i64 b.x, .int .i64 b.y]
  rs : Blk wr (w.heap.size + 1 + 1) [.int .i64 0, .int .i64 0]
  ot : Blk wr (w.heap.size + 1 + 1 + 1) [.int .i64 o.x, .int .i64 o.y]
  ext : Ext w wr
  big : w.heap.size + 4 ≤ wr.heap.size

theorem MulE.call {w wr w1 : World} {p D L bx b' : Int} {b o : Pr} (h : MulE w wr p D L bx b' b o) (hb : Ext wr w1) : MulE w w1 p D L bx b' b o :=
  ⟨h.cv.ext hb (by have := h.big; omega), h.pt.ext hb (by have := h.big; omega), h.rs.ext hb (by have := h.big; omega), h.ot.ext hb (by have := h.big; omega), h.ext.trans hb, Nat.le_trans h.big (Below.size hb)⟩

theorem MulE.putO {w wr : World} {p D L bx b' : Int} {b o : Pr} (h : MulE w wr p D L bx b' b o) (c : Pr) : MulE w (putL (w.heap.size + 1 + 1 + 1) 0 [.int .i64 c.x, .int .i64 c.y] wr) p D L bx b' b c :=
  ⟨h.cv.put_other _ (by omega), h.pt.put_other _ (by omega), h.rs.put_other _ (by omega), h.ot.put _ rfl, h.ext.putL (by omega) _, by rw [size_putL]; exact h.big⟩

theorem MulE.putB {w wr : World} {p D L bx b' : Int} {b o : Pr} (h : MulE w wr p D L bx b' b o) (c : Pr) : MulE w (putL (w.heap.size + 1) 0 [.int .i64 c.x, .int .i64 c.y] wr) p D L bx b' c o :=
  ⟨h.cv.put_other _ (by omega), h.pt.put _ rfl, h.rs.put_other _ (by omega), h.ot.put_other _ (by omega), h.ext.putL (by omega) _, by rw [size_putL]; exact h.big⟩

set_option maxHeartbeats 3200000 in
set_option maxRecDepth 100000 in
theorem l4Mul_any (p : Nat) (D L bx b' : Int) (n : Nat) (a : Pr) (w : World) (hpr : Prime p) (h3 : 3 ≤ p) (hp : p ≤ 1048576) (hD0 : 0 ≤ D) (hD : D ≤ 1048576) (ha : InE p a) (hn : n ≤ 9223372036854775807) :
    Calls Tryz.prog 121 #[.agg #[.int .i64 p, .int .i64 D, .int .i64 L, .int .i64 bx, .int .i64 b'], .int .i64 n, .agg #[.int .i64 a.x, .int .i64 a.y]] w fun r w' => r = .returned (prV (mulE p D n a)) ∧ Ext w w' := by
  have Hadd : Hid (∀ (a b : Pr) (w : World), InE p a → InE p b → Calls Tryz.prog 153 #[.agg #[.int .i64 p, .int .i64 D, .int .i64 L, .int .i64 bx, .int .i64 b'], .agg #[.int .i64 a.x, .int .i64 a.y], .agg #[.int .i64 b.x, .int .i64 b.y]] w fun r w' => r = .returned (.agg #[.int .i64 (addE p D a b).x, .int .i64 (addE p D a b).y]) ∧ Ext w w') := fun a b w ha hb => l4Add_any p D L bx b' a b w hpr h3 hp hD0 hD ha hb
  have Hin : Hid (∀ a b : Pr, InE p a → InE p b → InE p (addE p D a b)) := fun a b _ _ => addE_inE (by omega) D a b
  have Hs : Hid (accE p D 64 n oneE a = mulE p D n a) := rfl
  have Ha : Hid (InE p a) := ha
  have Hf : Hid (InE p oneE) := ⟨Int.le_refl _, by show (0 : Int) < p; omega, by show (0 : Int) ≤ 1; omega, by show (1 : Int) < p; omega⟩
  generalize mulE p D n a = G at *
  clear hpr h3 hp hD0 hD ha
  go_enter Tryz.func121, Tryz.ntmps121
  obtain ⟨B1, B2, B3, B4, hE, hz⟩ := box4 w [.int .i64 p, .int .i64 D, .int .i64 L, .int .i64 bx, .int .i64 b'] [.int .i64 a.x, .int .i64 a.y] [.int .i64 0, .int .i64 0] [.int .i64 0, .int .i64 1] 44 45 45 45 (Ext.refl _)
  have HF : Hid (MulE w _ p D L bx b' a oneE) := ⟨B1, B2, B3, B4, hE, hz⟩
  clear B1 B2 B3 B4 hE hz
  go_wp2
  go_loopw [1] (fun m wr => ∃ (f X : Nat) (o b : Pr), m = .int .i64 X ∧ X < 2 ^ f ∧ X ≤ 9223372036854775807 ∧ InE p o ∧ InE p b ∧ accE p D f X o b = G ∧ MulE w wr p D L bx b' b o) (fun m _ => (intOf m).toNat)
  case atStart => exact ⟨64, n, oneE, a, rfl, by omega, hn, Hf.out, Ha.out, Hs.out, HF.out⟩
  case round =>
    obtain ⟨f, X, o, b, rfl, hX, hXm, ho, hb, hacc, hM⟩ := hrel
    have HM := hide hM
    have Hacc := hide hacc
    clear Hs Ha Hf hacc HF
    have KC := hM.cv
    have KO := hM.ot
    have KB := hM.pt
    have k0 := (KC 0 _ rfl).1
    have k1 := (KC 1 _ rfl).1
    have k2 := (KC 2 _ rfl).1
    have k3 := (KC 3 _ rfl).1
    have k4 := (KC 4 _ rfl).1
    have o0 := (KO 0 _ rfl).1
    have o1 := (KO 1 _ rfl).1
    have y0 := (KO 0 _ rfl).2
    have y1 := (KO 1 _ rfl).2
    have b0 := (KB 0 _ rfl).1
    have b1 := (KB 1 _ rfl).1
    have x0 := (KB 0 _ rfl).2
    have x1 := (KB 1 _ rfl).2
    clear KC KO KB
    clear hM
    by_cases h0 : X = 0
    · subst h0
      have e : o = G := by rw [← Hacc.out, accE_zero]
      subst e
      have B3 := HM.out.rs
      have hE := HM.out.ext
      have d0 := (B3 0 _ rfl).1
      have d1 := (B3 1 _ rfl).1
      have z0 := (B3 0 _ rfl).2
      have z1 := (B3 1 _ rfl).2
      go_wp2
      obtain ⟨W, hW⟩ : ∃ W, putL (w.heap.size + 1 + 1) 0 [.int .i64 o.x, .int .i64 o.y] wr = W := ⟨_, rfl⟩
      have BW := Blk.put B3 [.int .i64 o.x, .int .i64 o.y] rfl
      rw [hW] at BW
      have hF : Ext w W := hW ▸ hE.putL (by omega) _
      simp only [putL, Nat.zero_add] at hW
      simp only [hW]
      have q0 := (BW 0 _ rfl).1
      have q1 := (BW 1 _ rfl).1
      refine bodyPost_ret (v := .agg #[.int .i64 o.x, .int .i64 o.y]) (by simp [results, Tryz.results121, go_sem, q0, q1]) rfl ⟨rfl, hF⟩
    · obtain ⟨f', rfl⟩ : ∃ f', f = f' + 1 := by
        rcases f with _ | f'
        · simp at hX; omega
        · exact ⟨f', rfl⟩
      have hX2 : X / 2 < 2 ^ f' := by rw [Nat.pow_succ] at hX; omega
      have hpos : 0 < (X : Int) := by omega
      have Hac : Hid (accE p D f' (X / 2) (if X % 2 = 1 then addE p D o b else o) (addE p D b b) = G) := Hacc.out
      have Hbb := hide (Hin.out b b hb hb)
      clear Hacc hX
      by_cases hodd : X % 2 = 1
      · have hb1 : (X : Int) % 2 = 1 := by omega
        have Hob := hide (Hin.out o b ho hb)
        have Ha2 : Hid (accE p D f' (X / 2) (addE p D o b) (addE p D b b) = G) := by have := Hac.out; rwa [if_pos hodd] at this
        clear Hac
        go_wp2_with fail
        refine (Hadd.out o b _ ho hb).mono ?_
        rintro e w1 ⟨rfl, hw1⟩
        generalize addE p D o b = c at *
        have M1 := HM.out.call hw1
        have HM1 := hide M1
        clear hw1 HM k0 k1 k2 k3 k4 o0 o1 y0 y1 b0 b1 x0 x1
        have KC := M1.cv
        have KO := M1.ot
        have KB := M1.pt
        have k0 := (KC 0 _ rfl).1
        have k1 := (KC 1 _ rfl).1
        have k2 := (KC 2 _ rfl).1
        have k3 := (KC 3 _ rfl).1
        have k4 := (KC 4 _ rfl).1
        have o0 := (KO 0 _ rfl).1
        have o1 := (KO 1 _ rfl).1
        have y0 := (KO 0 _ rfl).2
        have y1 := (KO 1 _ rfl).2
        have b0 := (KB 0 _ rfl).1
        have b1 := (KB 1 _ rfl).1
        have x0 := (KB 0 _ rfl).2
        have x1 := (KB 1 _ rfl).2
        clear KC KO KB
        clear M1
        go_wp2_with fail
        refine (Hadd.out b b _ hb hb).mono ?_
        rintro e w2 ⟨rfl, hw2⟩
        generalize addE p D b b = d at *
        have M2 := (HM1.out.putO c).call hw2
        have HM2 := hide M2
        clear hw2 HM1 k0 k1 k2 k3 k4 o0 o1 y0 y1 b0 b1 x0 x1
        have KC := M2.cv
        have KO := M2.ot
        have KB := M2.pt
        have k0 := (KC 0 _ rfl).1
        have k1 := (KC 1 _ rfl).1
        have k2 := (KC 2 _ rfl).1
        have k3 := (KC 3 _ rfl).1
        have k4 := (KC 4 _ rfl).1
        have o0 := (KO 0 _ rfl).1
        have o1 := (KO 1 _ rfl).1
        have y0 := (KO 0 _ rfl).2
        have y1 := (KO 1 _ rfl).2
        have b0 := (KB 0 _ rfl).1
        have b1 := (KB 1 _ rfl).1
        have x0 := (KB 0 _ rfl).2
        have x1 := (KB 1 _ rfl).2
        clear KC KO KB
        clear M2
        go_wp2
        go_roundw
        case rel => exact ⟨f', X / 2, c, d, by go_num, hX2, by omega, Hob.out, Hbb.out, Ha2.out, HM2.out.putB d⟩
        case measure => simp [intOf]; omega
      · have hb1 : (X : Int) % 2 = 0 := by omega
        have Ha2 : Hid (accE p D f' (X / 2) o (addE p D b b) = G) := by have := Hac.out; rwa [if_neg hodd] at this
        clear Hac
        go_wp2_with fail
        refine (Hadd.out b b _ hb hb).mono ?_
        rintro e w2 ⟨rfl, hw2⟩
        generalize addE p D b b = d at *
        have M2 := HM.out.call hw2
        have HM2 := hide M2
        clear hw2 HM k0 k1 k2 k3 k4 o0 o1 y0 y1 b0 b1 x0 x1
        have KC := M2.cv
        have KO := M2.ot
        have KB := M2.pt
        have k0 := (KC 0 _ rfl).1
        have k1 := (KC 1 _ rfl).1
        have k2 := (KC 2 _ rfl).1
        have k3 := (KC 3 _ rfl).1
        have k4 := (KC 4 _ rfl).1
        have o0 := (KO 0 _ rfl).1
        have o1 := (KO 1 _ rfl).1
        have y0 := (KO 0 _ rfl).2
        have y1 := (KO 1 _ rfl).2
        have b0 := (KB 0 _ rfl).1
        have b1 := (KB 1 _ rfl).1
        have x0 := (KB 0 _ rfl).2
        have x1 := (KB 1 _ rfl).2
        clear KC KO KB
        clear M2
        go_wp2
        go_roundw
        case rel => exact ⟨f', X / 2, o, d, by go_num, hX2, by omega, ho, Hbb.out, Ha2.out, HM2.out.putB d⟩
        case measure => simp [intOf]; omega
end

section
set_option linter.unusedVariables false

/-- A pair's bytes. -/
def prByte (a : Pr) (i : Nat) : Int := if i = 0 then a.y % 256 else if i = 1 then a.y / 256 % 256 else a.y / 65536 + 128 * (a.x % 2)

/-- The pair that these bytes tell. -/
structure ReadsE (p : Nat) (D : Int) (n : Nat) (f : Nat → Int) (c : Pr) : Prop where
  len : n = 3
  y : c.y = f 0 + f 1 * 256 + f 2 % 128 * 65536
  odd : c.x % 2 = f 2 / 128
  on : OnE p D c

section
variable {p : Nat} {D : Int}

theorem EdC.den (h : EdC p D) (y : Int) : ¬ (p : Int) ∣ 1 + D * (y * y) := by
  intro k
  obtain ⟨i, hi⟩ := h.i
  have k1 := h.ns i y (comb2 hi k 1 (-1) (by grind))
  exact h.unit (comb2 k k1 1 (-(D * y)) (by grind))

theorem EdC.odd (h : EdC p D) : p % 2 = 1 := by
  have h3 := h.three
  rcases Nat.mod_two_eq_zero_or_one p with k | k
  · exact absurd (Nat.dvd_of_mod_eq_zero k) (h.prime.no_div (by omega) (by omega))
  · exact k

theorem sq_two (hp : Prime p) {x z : Int} (x0 : 0 ≤ x) (x1 : x < p) (z0 : 0 ≤ z) (z1 : z < p) (h : (p : Int) ∣ x * x - z * z) : x = z ∨ x + z = p ∨ (x = 0 ∧ z = 0) := by
  have k : (p : Int) ∣ (x - z) * (x + z) := comb1 h 1 (by grind)
  rcases hp.dvd_mul_int k with k | k
  · exact Or.inl (eq_of_dvd x0 x1 z0 z1 k)
  · rcases Classical.em (x + z = 0) with e | e
    · exact Or.inr (Or.inr (by omega))
    · have h1 := Int.le_of_dvd (by omega) k
      obtain ⟨c, hc⟩ := k
      have : c = 1 := by
        have c1 : (p : Int) * c < p * 2 := by omega
        have c2 := Int.lt_of_mul_lt_mul_left c1 (by omega)
        have c3 : 0 < c := by
          rcases Int.lt_or_le 0 c with q | q
          · exact q
          · have := Int.mul_nonpos_of_nonneg_of_nonpos (show 0 ≤ (p : Int) by omega) q
            omega
        omega
      subst this
      exact Or.inr (Or.inl (by omega))

/-- Two pairs with one y: the xs are each other's other side. -/
theorem OnE.sq (h : EdC p D) {x z y : Int} (ha : OnE p D ⟨x, y⟩) (hb : OnE p D ⟨z, y⟩) : (p : Int) ∣ x * x - z * z := by
  have h1 := ha.on
  have h2 := hb.on
  simp only at h1 h2
  have k : (p : Int) ∣ (x * x - z * z) * (1 + D * (y * y)) := comb2 h1 h2 (-1) 1 (by grind)
  exact (h.prime.dvd_mul_int k).resolve_right (h.den y)

theorem OnE.same_x (h : EdC p D) {x z y : Int} (ha : OnE p D ⟨x, y⟩) (hb : OnE p D ⟨z, y⟩) (e : x % 2 = z % 2) : x = z := by
  have ho := h.odd
  have a0 := ha.x0; have a1 := ha.x1; have b0 := hb.x0; have b1 := hb.x1
  simp only at a0 a1 b0 b1
  rcases sq_two h.prime a0 a1 b0 b1 (OnE.sq h ha hb) with k | k | k <;> omega

theorem ReadsE.unique (h : EdC p D) {n : Nat} {f : Nat → Int} {c d : Pr} (hc : ReadsE p D n f c) (hd : ReadsE p D n f d) : c = d := by
  obtain ⟨x, y⟩ := c
  obtain ⟨z, y'⟩ := d
  have e : y = y' := hc.y.trans hd.y.symm
  subst e
  exact Pr.ext' (OnE.same_x h hc.on hd.on (hc.odd.trans hd.odd.symm)) rfl

/-- Being of the curve, by the square of x. -/
theorem onE_root (h : EdC p D) {x y : Int} (x0 : 0 ≤ x) (x1 : x < p) (y0 : 0 ≤ y) (y1 : y < p) {w : Int} (hw : (p : Int) ∣ w * (1 + D * (y * y)) - (y * y - 1)) : OnE p D ⟨x, y⟩ ↔ (p : Int) ∣ x * x - w := by
  constructor
  · intro k
    have h1 := k.on
    simp only at h1
    have q : (p : Int) ∣ (x * x - w) * (1 + D * (y * y)) := comb2 h1 hw (-1) (-1) (by grind)
    exact (h.prime.dvd_mul_int q).resolve_right (h.den y)
  · intro k
    exact ⟨x0, x1, y0, y1, comb2 k hw (-(1 + D * (y * y))) (-1) (by simp only; grind)⟩

/-- A pair's bytes tell it. -/
theorem readsE_back {a : Pr} (ha : OnE p D a) (hp : p ≤ 1048576) : ReadsE p D 3 (prByte a) a := by
  have y0 := ha.y0; have y1 := ha.y1
  refine ⟨rfl, ?_, ?_, ha⟩
  · simp [prByte]; omega
  · simp [prByte]; omega

theorem prByte_range {a : Pr} (ha : OnE p D a) (hp : p ≤ 1048576) (i : Nat) : 0 ≤ prByte a i ∧ prByte a i ≤ 255 := by
  have y0 := ha.y0; have y1 := ha.y1
  unfold prByte
  repeat' split
  all_goals omega

/-- What is read of bytes is written as these. -/
theorem ReadsE.wrote {n : Nat} {f : Nat → Int} {c : Pr} (h : ReadsE p D n f c) (hr : ∀ i, i < n → 0 ≤ f i ∧ f i ≤ 255) : ∀ i, i < n → prByte c i = f i := by
  obtain ⟨rfl, hy, ho, hon⟩ := h
  have r0 := hr 0 (by omega); have r1 := hr 1 (by omega); have r2 := hr 2 (by omega)
  intro i hi
  have : i = 0 ∨ i = 1 ∨ i = 2 := by omega
  rcases this with rfl | rfl | rfl
  · simp [prByte]; omega
  · simp [prByte]; omega
  · simp [prByte]; omega

/-- The number of which x is a root, as the model reckons it. -/
def wE (p : Nat) (D y : Int) : Int := (y * y % p - 1) % p * iv p (1 + D * (y * y % p)) % p

theorem wE_spec (h : EdC p D) (y : Int) : (p : Int) ∣ wE p D y * (1 + D * (y * y)) - (y * y - 1) := by
  have h1 := mod_dvd (p : Int) (y * y)
  have hn : ¬ (p : Int) ∣ 1 + D * (y * y % p) := by
    intro k
    apply h.den y
    generalize y * y % (p : Int) = q at *
    exact comb2 k h1 1 (-D) (by grind)
  have h2 := iv_div (u := (y * y % p - 1) % p) h.prime hn
  have h3 := mod_dvd (p : Int) (y * y % p - 1)
  unfold wE
  generalize (y * y % p - 1) % (p : Int) * iv p (1 + D * (y * y % p)) % p = z at *
  generalize (y * y % p - 1) % (p : Int) = t at *
  generalize y * y % (p : Int) = q at *
  exact comb3 h2 h3 h1 1 1 (1 - D * z) (by grind)

/-- The x that the model tries. -/
def xE (p : Nat) (D y odd : Int) : Int := if (root5 p (wE p D y).toNat : Int) % 2 = odd then (root5 p (wE p D y).toNat : Int) else (-(root5 p (wE p D y).toNat : Int)) % p

theorem root5_lt {w : Nat} (hp : 0 < p) : root5 p w < p := by
  unfold root5
  split <;> exact Nat.mod_lt _ hp

/-- If any pair is told, it is the one that the model tries. -/
theorem model_readE (h : EdC p D) (h8 : p % 8 = 5) {n : Nat} {f : Nat → Int} {c : Pr} (hc : ReadsE p D n f c) : c.x = xE p D c.y (f 2 / 128) := by
  have hp := h.pos
  have ho := h.odd
  obtain ⟨x, y⟩ := c
  have on := hc.on
  have odd := hc.odd
  have x0 := on.x0; have x1 := on.x1; have y0 := on.y0; have y1 := on.y1
  simp only at x0 x1 y0 y1 odd ⊢
  clear hc
  have hw := wE_spec h y
  have w0 : 0 ≤ wE p D y := Int.emod_nonneg _ (by omega)
  have w1 : wE p D y < p := Int.emod_lt_of_pos _ (by omega)
  have k1 := (onE_root h x0 x1 y0 y1 hw).1 on
  obtain ⟨i, hi⟩ := h.i
  -- a root of -1 as a natural number
  have i0 := Int.emod_nonneg i (show (p : Int) ≠ 0 by omega)
  have i1 := mod_dvd (p : Int) i
  obtain ⟨j, hj⟩ := Int.eq_ofNat_of_zero_le i0
  rw [hj] at i1
  have hj2 : (p : Int) ∣ (j : Int) * j + 1 := comb2 hi i1 1 ((j : Int) + i) (by grind)
  have two := h.prime.two_less h8 hj2
  obtain ⟨X, rfl⟩ := Int.eq_ofNat_of_zero_le x0
  obtain ⟨W, hW⟩ := Int.eq_ofNat_of_zero_le w0
  have kW : X * X % p = W % p := cong_nat hp (by rw [Int.natCast_mul]; rw [hW] at k1; exact k1)
  have r := h.prime.root5 h8 two kW
  have r2 := nat_cong r
  rw [Int.natCast_mul] at r2
  have hlt := root5_lt (p := p) (w := W) hp
  unfold xE
  rw [hW, Int.toNat_natCast]
  generalize root5 p W = R at *
  have k2 : (p : Int) ∣ (X : Int) * X - (R : Int) * R := by
    rw [hW] at k1
    exact comb2 k1 r2 1 (-1) (by grind)
  have R1 : (R : Int) < p := by omega
  rcases sq_two h.prime x0 x1 (show (0 : Int) ≤ R by omega) R1 k2 with e | e | e
  · rw [if_pos (by omega)]; exact e
  · have hne : ¬ (R : Int) % 2 = f 2 / 128 := by omega
    rw [if_neg hne]
    have h1 : (-(R : Int)) % p = (p - R) % p := by rw [Int.sub_eq_add_neg, Int.add_emod_left]
    rw [h1, Int.emod_eq_of_lt (by omega) (by omega)]
    omega
  · rw [if_pos (by omega)]; omega

end
end

section
set_option linter.unusedVariables false

/-- The twisted curve is as the document wants it. -/
structure EvOk (P D L bx cy : Int) : Prop where
  p13 : 13 ≤ P
  pM : P ≤ 1048576
  p8 : P % 8 = 5
  pp : Prime P.toNat
  d2 : 2 ≤ D
  d1 : D ≤ P - 1
  pw : D.toNat ^ ((P.toNat - 1) / 2) % P.toNat = P.toNat - 1
  l5 : 5 ≤ L
  lM : L ≤ 2097152
  lp : Prime L.toNat
  on : OnE P.toNat D ⟨bx, cy⟩
  ne : ¬ (bx = 0 ∧ cy = 1)
  fold : mulE P.toNat D L.toNat ⟨bx, cy⟩ = oneE

section
variable {P D L bx cy : Int}

theorem EvOk.edc (h : EvOk P D L bx cy) : EdC P.toNat D := by
  have h1 := h.p8; have h2 := h.p13; have h3 := h.d2
  have := edC_of h.pp (show P.toNat % 8 = 5 by omega) h.pw
  rwa [show ((D.toNat : Nat) : Int) = D by omega] at this

theorem EvOk.nat (h : EvOk P D L bx cy) : ((P.toNat : Nat) : Int) = P := by have := h.p13; omega
theorem EvOk.p63 (h : EvOk P D L bx cy) : P ≤ 9223372036854775807 := by have := h.pM; omega
theorem EvOk.l63 (h : EvOk P D L bx cy) : L ≤ 9223372036854775807 := by have := h.lM; omega

theorem EvOk.mul_eq (h : EvOk P D L bx cy) {a : Pr} (ha : OnE P.toNat D a) {n : Nat} (hn : n ≤ 9223372036854775807) : mulE P.toNat D n a = nE P.toNat D n a := mulE_eq h.edc (by omega) ha
theorem EvOk.mul_on (h : EvOk P D L bx cy) {a : Pr} (ha : OnE P.toNat D a) {n : Nat} (hn : n ≤ 9223372036854775807) : OnE P.toNat D (mulE P.toNat D n a) := mulE_on h.edc (by omega) ha

theorem EvOk.mul_succ (h : EvOk P D L bx cy) {a : Pr} (ha : OnE P.toNat D a) {n : Nat} (hn : n ≤ 100000) : addE P.toNat D (mulE P.toNat D n a) a = mulE P.toNat D (n + 1) a := by
  rw [h.mul_eq ha (by omega), h.mul_eq ha (by omega)]; rfl

/-- A pair's other side, as the law writes it. -/
theorem EvOk.other (h : EvOk P D L bx cy) {x y : Int} (ha : OnE P.toNat D ⟨x, y⟩) : OnE P.toNat D ⟨Int.tmod (P - x) P, y⟩ ∧ addE P.toNat D ⟨x, y⟩ ⟨Int.tmod (P - x) P, y⟩ = oneE := by
  have e := h.nat
  have x0 := ha.x0; have x1 := ha.x1
  simp only at x0 x1
  rw [e] at x1
  have hx : Int.tmod (P - x) P = (-x) % P := by
    rw [Int.tmod_eq_emod_of_nonneg (by omega), Int.sub_eq_add_neg, Int.add_emod_left]
  have hn : negE P.toNat ⟨x, y⟩ = ⟨Int.tmod (P - x) P, y⟩ := by unfold negE; rw [e, hx]
  rw [← hn]
  exact ⟨negE_on h.edc ha, add_negE h.edc ha⟩

end

theorem prime_of' {p : Nat} (b : Nat) (h2 : 2 ≤ p) (hb : p < b * b) (h : ∀ d, d < b → 2 ≤ d → ¬ p % d = 0) : Prime p :=
  ⟨h2, fun d hd hdd hdv => h d (by
    rcases Nat.lt_or_ge d b with k | k
    · exact k
    · have := Nat.mul_le_mul k k; omega) hd (Nat.mod_eq_zero_of_dvd hdv)⟩

def eP : Nat → Int
  | 0 => 101
  | 1 => 1021
  | _ => 10037

def eD : Nat → Int
  | 0 => 12
  | 1 => 6
  | _ => 3

def eL : Nat → Int
  | 0 => 11
  | 1 => 263
  | _ => 1279

def eX : Nat → Int
  | 0 => 76
  | 1 => 87
  | _ => 8662

def eY : Nat → Int
  | 0 => 22
  | 1 => 232
  | _ => 1422

instance : DecidableEq Pr := fun a b => if hx : a.x = b.x then (if hy : a.y = b.y then isTrue (Pr.ext' hx hy) else isFalse (fun e => hy (by rw [e]))) else isFalse (fun e => hx (by rw [e]))

theorem ev0 : EvOk 101 12 11 76 22 :=
  ⟨by decide, by decide, by decide, prime_of' 11 (by decide) (by decide) (by decide +kernel), by decide, by decide, by decide +kernel, by decide, by decide, prime_of' 4 (by decide) (by decide) (by decide +kernel), ⟨by decide, by decide, by decide, by decide, by decide +kernel⟩, by decide, by decide +kernel⟩

theorem ev1 : EvOk 1021 6 263 87 232 :=
  ⟨by decide, by decide, by decide, prime_of' 32 (by decide) (by decide) (by decide +kernel), by decide, by decide, by decide +kernel, by decide, by decide, prime_of' 17 (by decide) (by decide) (by decide +kernel), ⟨by decide, by decide, by decide, by decide, by decide +kernel⟩, by decide, by decide +kernel⟩

theorem ev2 : EvOk 10037 3 1279 8662 1422 :=
  ⟨by decide, by decide, by decide, prime_of' 101 (by decide) (by decide) (by decide +kernel), by decide, by decide, by decide +kernel, by decide, by decide, prime_of' 36 (by decide) (by decide) (by decide +kernel), ⟨by decide, by decide, by decide, by decide, by decide +kernel⟩, by decide, by decide +kernel⟩

theorem ev_ok {j : Nat} (h : j < 3) : EvOk (eP j) (eD j) (eL j) (eX j) (eY j) := by
  match j, h with
  | 0, _ => exact ev0
  | 1, _ => exact ev1
  | 2, _ => exact ev2
end

section
set_option linter.unusedVariables false
open Go.RowKit

theorem prHeld : Tryz.prog.stoodInHeld 45 = false := by kernel_rfl
theorem prGuard : Tryz.prog.eqGuardType Tryz.prog.depth 45 = false := by kernel_rfl

/-- Pairs compared. -/
theorem run_eqPr (x1 y1 x2 y2 : Int) (w : World) : (binOp .eql 45 (.agg #[.int .i64 x1, .int .i64 y1]) (.agg #[.int .i64 x2, .int .i64 y2])).run Tryz.prog w = .ok (.bool (x1 == x2 && y1 == y2)) w := by
  have u2 := prHeld
  cases hx : (x1 == x2)
  · simp [go_sem, u2, hx]
  · cases hy : (y1 == y2)
    · simp [go_sem, u2, hx, hy]
    · simp [go_sem, u2, hx, hy]

theorem run_nePr (x1 y1 x2 y2 : Int) (w : World) : (binOp .neq 45 (.agg #[.int .i64 x1, .int .i64 y1]) (.agg #[.int .i64 x2, .int .i64 y2])).run Tryz.prog w = .ok (.bool (!(x1 == x2 && y1 == y2))) w := by
  have u2 := prHeld
  cases hx : (x1 == x2)
  · simp [go_sem, u2, hx]
  · cases hy : (y1 == y2)
    · simp [go_sem, u2, hx, hy]
    · simp [go_sem, u2, hx, hy]

theorem nePr_yes {x y : Int} (h : ¬ (x = 0 ∧ y = 1)) (w : World) : (binOp .neq 45 (.agg #[.int .i64 x, .int .i64 y]) (.agg #[.int .i64 0, .int .i64 1])).run Tryz.prog w = .ok (.bool true) w := by
  rw [run_nePr]
  congr 2
  by_cases hx : x = 0
  · have hy : ¬ y = 1 := fun k => h ⟨hx, k⟩
    simp [hy]
  · simp [hx]

theorem nePr_no {x y : Int} (h : x = 0 ∧ y = 1) (w : World) : (binOp .neq 45 (.agg #[.int .i64 x, .int .i64 y]) (.agg #[.int .i64 0, .int .i64 1])).run Tryz.prog w = .ok (.bool false) w := by
  rw [run_nePr, h.1, h.2]; simp

theorem eqPr_yes (w : World) : (binOp .eql 45 (.agg #[.int .i64 0, .int .i64 1]) (.agg #[.int .i64 0, .int .i64 1])).run Tryz.prog w = .ok (.bool true) w := by
  rw [run_eqPr]; simp

theorem eqPr_no {R : Pr} (h : R ≠ oneE) (w : World) : (binOp .eql 45 (.agg #[.int .i64 R.x, .int .i64 R.y]) (.agg #[.int .i64 0, .int .i64 1])).run Tryz.prog w = .ok (.bool false) w := by
  rw [run_eqPr]
  congr 2
  obtain ⟨x, y⟩ := R
  by_cases hx : x = 0
  · by_cases hy : y = 1
    · exact absurd (by rw [hx, hy]; rfl) h
    · simp [hy]
  · simp [hx]
end

end Go.Proofs.YtigjjkondbdgjaaGreatDoor
