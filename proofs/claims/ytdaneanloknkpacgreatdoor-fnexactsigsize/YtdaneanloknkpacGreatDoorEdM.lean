/- Twisted curves: pairs are a group with one rule. Nothing of the program. -/
import Derived.Test.YtdaneanloknkpacGreatDoorCurveM
namespace Go.Proofs.YtdaneanloknkpacGreatDoor
set_option linter.unusedVariables false

theorem ed_assoc_x (x1 y1 x2 y2 x3 y3 D : Int) : ((x1 * y2 + y1 * x2) * y3 * (1 - D * x1 * x2 * y1 * y2) + (y1 * y2 + x1 * x2) * x3 * (1 + D * x1 * x2 * y1 * y2)) * ((1 + D * x2 * x3 * y2 * y3) * (1 - D * x2 * x3 * y2 * y3) + D * (x2 * y3 + y2 * x3) * (y2 * y3 + x2 * x3) * x1 * y1) - ((x2 * y3 + y2 * x3) * y1 * (1 - D * x2 * x3 * y2 * y3) + (y2 * y3 + x2 * x3) * x1 * (1 + D * x2 * x3 * y2 * y3)) * ((1 + D * x1 * x2 * y1 * y2) * (1 - D * x1 * x2 * y1 * y2) + D * (x1 * y2 + y1 * x2) * (y1 * y2 + x1 * x2) * x3 * y3) = (D * x1 * x2 * x2 * y2 * y2 * y2 * y3 * y3 * y3 + D * y1 * x2 * x2 * x2 * y2 * y2 * y3 * y3 * y3 + (-1) * D * x1 * x3 * x2 * x2 * x2 * y2 * y2 + (-1) * D * x1 * y3 * x2 * x2 * y2 * y2 * y2 + (-1) * D * x1 * x2 * x2 * x2 * x3 * x3 * x3 * y2 * y2 + (-1) * D * x3 * y1 * x2 * x2 * y2 * y2 * y2 + (-1) * D * y1 * y3 * x2 * x2 * x2 * y2 * y2 + (-1) * D * y1 * x2 * x2 * x3 * x3 * x3 * y2 * y2 * y2 + D * x1 * x2 * x3 * y2 * y2 * y2 * y2 * y3 * y3 + D * x3 * y1 * y2 * x2 * x2 * x2 * x2 * y3 * y3 + x3 * y1 * D * D * x2 * x2 * x2 * x2 * y2 * y2 * y2 * y3 * y3 + y1 * y3 * D * D * x2 * x2 * x2 * x3 * x3 * y2 * y2 * y2 * y2 + (-1) * D * x1 * y2 * y3 * x2 * x2 * x2 * x2 * x3 * x3 + (-1) * D * x2 * y1 * y3 * x3 * x3 * y2 * y2 * y2 * y2 + (-1) * x1 * x3 * D * D * x2 * x2 * x2 * y2 * y2 * y2 * y2 * y3 * y3 + (-1) * x1 * y3 * D * D * x2 * x2 * x2 * x2 * x3 * x3 * y2 * y2 * y2) * (y1 * y1 - x1 * x1 - 1 - D * (x1 * x1) * (y1 * y1)) + (x1 * x2 * x3 + x1 * x2 * x3 * x3 * x3 + x1 * y2 * y3 + x2 * x3 * x1 * x1 * x1 + x2 * y1 * y3 + x2 * x1 * x1 * x1 * x3 * x3 * x3 + x2 * y1 * y1 * y1 * y3 * y3 * y3 + x3 * y1 * y2 + y1 * y2 * x3 * x3 * x3 + y2 * y3 * x1 * x1 * x1 + (-1) * x1 * y2 * y3 * y3 * y3 + (-1) * x2 * y1 * y3 * y3 * y3 + (-1) * x2 * y3 * y1 * y1 * y1 + (-1) * x3 * y2 * y1 * y1 * y1 + (-1) * y2 * x1 * x1 * x1 * y3 * y3 * y3 + (-1) * y2 * x3 * x3 * x3 * y1 * y1 * y1 + x1 * y2 * y3 * x3 * x3 + x1 * y2 * y1 * y1 * y3 * y3 * y3 + x2 * y1 * y3 * x1 * x1 + x2 * y1 * y3 * x3 * x3 + x3 * y1 * y2 * x1 * x1 + x3 * y2 * y1 * y1 * y1 * y3 * y3 + y1 * y2 * x1 * x1 * x3 * x3 * x3 + y2 * y3 * x1 * x1 * x1 * x3 * x3 + (-1) * x1 * x2 * x3 * y1 * y1 + (-1) * x1 * x2 * x3 * y3 * y3 + (-1) * x1 * x2 * x3 * x3 * x3 * y1 * y1 + (-1) * x1 * y2 * y3 * y1 * y1 + (-1) * x2 * x3 * x1 * x1 * x1 * y3 * y3 + (-1) * x2 * y1 * x1 * x1 * y3 * y3 * y3 + (-1) * x2 * y3 * x3 * x3 * y1 * y1 * y1 + (-1) * x3 * y1 * y2 * y3 * y3 + D * x1 * x2 * x3 * x3 * x3 * y3 * y3 + D * x1 * y2 * x3 * x3 * y3 * y3 * y3 + D * x2 * y1 * x3 * x3 * y3 * y3 * y3 + D * x2 * x1 * x1 * x1 * x3 * x3 * x3 * y3 * y3 + D * y1 * y2 * x3 * x3 * x3 * y3 * y3 + D * y2 * x1 * x1 * x1 * x3 * x3 * y3 * y3 * y3 + x1 * x2 * x3 * y1 * y1 * y3 * y3 + x2 * y1 * y3 * x1 * x1 * x3 * x3 + (-1) * D * x2 * x3 * x3 * y1 * y1 * y1 * y3 * y3 * y3 + (-1) * D * y2 * x3 * x3 * x3 * y1 * y1 * y1 * y3 * y3 + (-1) * x1 * y2 * y3 * x3 * x3 * y1 * y1 + (-1) * x3 * y1 * y2 * x1 * x1 * y3 * y3 + D * x1 * x2 * x3 * y2 * y2 * y3 * y3 + D * x1 * y2 * y3 * x2 * x2 * x3 * x3 + D * x2 * x3 * x1 * x1 * x1 * y2 * y2 * y3 * y3 + D * x2 * y1 * x1 * x1 * x3 * x3 * y3 * y3 * y3 + D * x2 * y3 * x3 * x3 * y1 * y1 * y1 * y2 * y2 + D * x3 * y2 * x2 * x2 * y1 * y1 * y1 * y3 * y3 + D * y1 * y2 * x1 * x1 * x3 * x3 * x3 * y3 * y3 + D * y2 * y3 * x1 * x1 * x1 * x2 * x2 * x3 * x3 + (-1) * D * x1 * x2 * x3 * x3 * x3 * y1 * y1 * y3 * y3 + (-1) * D * x1 * y2 * x3 * x3 * y1 * y1 * y3 * y3 * y3 + (-1) * D * x2 * y1 * y3 * x3 * x3 * y2 * y2 + (-1) * D * x3 * y1 * y2 * x2 * x2 * y3 * y3 + x1 * x2 * D * D * x3 * x3 * x3 * y1 * y1 * y2 * y2 * y3 * y3 + y1 * y2 * D * D * x1 * x1 * x2 * x2 * x3 * x3 * x3 * y3 * y3 + (-1) * D * x1 * x2 * x3 * y1 * y1 * y2 * y2 * y3 * y3 + (-1) * D * x1 * y2 * y3 * x2 * x2 * x3 * x3 * y1 * y1 + (-1) * D * x2 * y1 * y3 * x1 * x1 * x3 * x3 * y2 * y2 + (-1) * D * x3 * y1 * y2 * x1 * x1 * x2 * x2 * y3 * y3 + (-1) * x1 * y2 * D * D * x2 * x2 * x3 * x3 * y1 * y1 * y3 * y3 * y3 + (-1) * x2 * y1 * D * D * x1 * x1 * x3 * x3 * y2 * y2 * y3 * y3 * y3) * (y2 * y2 - x2 * x2 - 1 - D * (x2 * x2) * (y2 * y2)) + (x1 * y3 * y2 * y2 * y2 + x2 * y3 * y1 * y1 * y1 + x3 * y1 * y2 * y2 * y2 + x3 * y2 * y1 * y1 * y1 + y3 * x1 * x1 * x1 * y2 * y2 * y2 + y3 * x2 * x2 * x2 * y1 * y1 * y1 + (-1) * x1 * x2 * x3 + (-1) * x1 * x3 * x2 * x2 * x2 + (-1) * x1 * y2 * y3 + (-1) * x2 * x3 * x1 * x1 * x1 + (-1) * x2 * y1 * y3 + (-1) * x3 * y1 * y2 + (-1) * x3 * x1 * x1 * x1 * x2 * x2 * x2 + (-1) * x3 * y1 * y1 * y1 * y2 * y2 * y2 + (-1) * y1 * y3 * x2 * x2 * x2 + (-1) * y2 * y3 * x1 * x1 * x1 + x1 * x2 * x3 * y1 * y1 + x1 * x2 * x3 * y2 * y2 + x1 * x3 * x2 * x2 * x2 * y1 * y1 + x1 * y2 * y3 * y1 * y1 + x2 * x3 * x1 * x1 * x1 * y2 * y2 + x2 * y1 * y3 * y2 * y2 + x3 * y1 * x1 * x1 * y2 * y2 * y2 + x3 * y2 * x2 * x2 * y1 * y1 * y1 + (-1) * x1 * y2 * y3 * x2 * x2 + (-1) * x1 * y3 * y1 * y1 * y2 * y2 * y2 + (-1) * x2 * y1 * y3 * x1 * x1 + (-1) * x2 * y3 * y1 * y1 * y1 * y2 * y2 + (-1) * x3 * y1 * y2 * x1 * x1 + (-1) * x3 * y1 * y2 * x2 * x2 + (-1) * y1 * y3 * x1 * x1 * x2 * x2 * x2 + (-1) * y2 * y3 * x1 * x1 * x1 * x2 * x2 + x1 * y2 * y3 * x2 * x2 * y1 * y1 + x2 * y1 * y3 * x1 * x1 * y2 * y2 + (-1) * x1 * x2 * x3 * y1 * y1 * y2 * y2 + (-1) * x3 * y1 * y2 * x1 * x1 * x2 * x2 + D * x1 * y2 * y3 * x2 * x2 * y1 * y1 + D * x2 * y1 * y3 * x1 * x1 * y2 * y2 + (-1) * D * x1 * x2 * x3 * y1 * y1 * y2 * y2 + (-1) * D * x3 * y1 * y2 * x1 * x1 * x2 * x2) * (y3 * y3 - x3 * x3 - 1 - D * (x3 * x3) * (y3 * y3)) := by grind

theorem ed_assoc_y (x1 y1 x2 y2 x3 y3 D : Int) : ((y1 * y2 + x1 * x2) * y3 * (1 + D * x1 * x2 * y1 * y2) + (x1 * y2 + y1 * x2) * x3 * (1 - D * x1 * x2 * y1 * y2)) * ((1 + D * x2 * x3 * y2 * y3) * (1 - D * x2 * x3 * y2 * y3) - D * (x2 * y3 + y2 * x3) * (y2 * y3 + x2 * x3) * x1 * y1) - ((y2 * y3 + x2 * x3) * y1 * (1 + D * x2 * x3 * y2 * y3) + (x2 * y3 + y2 * x3) * x1 * (1 - D * x2 * x3 * y2 * y3)) * ((1 + D * x1 * x2 * y1 * y2) * (1 - D * x1 * x2 * y1 * y2) - D * (x1 * y2 + y1 * x2) * (y1 * y2 + x1 * x2) * x3 * y3) = (D * x1 * x2 * x2 * x2 * y2 * y2 * y3 * y3 * y3 + D * y1 * x2 * x2 * y2 * y2 * y2 * y3 * y3 * y3 + (-1) * D * x1 * x3 * x2 * x2 * y2 * y2 * y2 + (-1) * D * x1 * y3 * x2 * x2 * x2 * y2 * y2 + (-1) * D * x1 * x2 * x2 * x3 * x3 * x3 * y2 * y2 * y2 + (-1) * D * x3 * y1 * x2 * x2 * x2 * y2 * y2 + (-1) * D * y1 * y3 * x2 * x2 * y2 * y2 * y2 + (-1) * D * y1 * x2 * x2 * x2 * x3 * x3 * x3 * y2 * y2 + D * x1 * x3 * y2 * x2 * x2 * x2 * x2 * y3 * y3 + D * x2 * x3 * y1 * y2 * y2 * y2 * y2 * y3 * y3 + x1 * x3 * D * D * x2 * x2 * x2 * x2 * y2 * y2 * y2 * y3 * y3 + x1 * y3 * D * D * x2 * x2 * x2 * x3 * x3 * y2 * y2 * y2 * y2 + (-1) * D * x1 * x2 * y3 * x3 * x3 * y2 * y2 * y2 * y2 + (-1) * D * y1 * y2 * y3 * x2 * x2 * x2 * x2 * x3 * x3 + (-1) * x3 * y1 * D * D * x2 * x2 * x2 * y2 * y2 * y2 * y2 * y3 * y3 + (-1) * y1 * y3 * D * D * x2 * x2 * x2 * x2 * x3 * x3 * y2 * y2 * y2) * (y1 * y1 - x1 * x1 - 1 - D * (x1 * x1) * (y1 * y1)) + (x1 * x2 * y3 + x1 * x3 * y2 + x1 * y2 * x3 * x3 * x3 + x2 * x3 * y1 + x2 * y1 * x3 * x3 * x3 + x2 * y3 * x1 * x1 * x1 + x3 * y2 * x1 * x1 * x1 + y1 * y2 * y3 + y2 * x1 * x1 * x1 * x3 * x3 * x3 + y2 * y1 * y1 * y1 * y3 * y3 * y3 + (-1) * x1 * x2 * y3 * y3 * y3 + (-1) * x2 * x3 * y1 * y1 * y1 + (-1) * x2 * x1 * x1 * x1 * y3 * y3 * y3 + (-1) * x2 * x3 * x3 * x3 * y1 * y1 * y1 + (-1) * y1 * y2 * y3 * y3 * y3 + (-1) * y2 * y3 * y1 * y1 * y1 + x1 * x2 * y3 * x3 * x3 + x1 * x2 * y1 * y1 * y3 * y3 * y3 + x2 * x3 * y1 * x1 * x1 + x2 * x3 * y1 * y1 * y1 * y3 * y3 + x2 * y1 * x1 * x1 * x3 * x3 * x3 + x2 * y3 * x1 * x1 * x1 * x3 * x3 + y1 * y2 * y3 * x1 * x1 + y1 * y2 * y3 * x3 * x3 + (-1) * x1 * x2 * y3 * y1 * y1 + (-1) * x1 * x3 * y2 * y1 * y1 + (-1) * x1 * x3 * y2 * y3 * y3 + (-1) * x1 * y2 * x3 * x3 * x3 * y1 * y1 + (-1) * x2 * x3 * y1 * y3 * y3 + (-1) * x3 * y2 * x1 * x1 * x1 * y3 * y3 + (-1) * y1 * y2 * x1 * x1 * y3 * y3 * y3 + (-1) * y2 * y3 * x3 * x3 * y1 * y1 * y1 + D * x1 * x2 * x3 * x3 * y3 * y3 * y3 + D * x1 * y2 * x3 * x3 * x3 * y3 * y3 + D * x2 * y1 * x3 * x3 * x3 * y3 * y3 + D * x2 * x1 * x1 * x1 * x3 * x3 * y3 * y3 * y3 + D * y1 * y2 * x3 * x3 * y3 * y3 * y3 + D * y2 * x1 * x1 * x1 * x3 * x3 * x3 * y3 * y3 + x1 * x3 * y2 * y1 * y1 * y3 * y3 + y1 * y2 * y3 * x1 * x1 * x3 * x3 + (-1) * D * x2 * x3 * x3 * x3 * y1 * y1 * y1 * y3 * y3 + (-1) * D * y2 * x3 * x3 * y1 * y1 * y1 * y3 * y3 * y3 + (-1) * x1 * x2 * y3 * x3 * x3 * y1 * y1 + (-1) * x2 * x3 * y1 * x1 * x1 * y3 * y3 + D * x2 * x3 * y1 * y2 * y2 * y3 * y3 + D * x2 * y1 * x1 * x1 * x3 * x3 * x3 * y3 * y3 + D * y1 * y2 * y3 * x2 * x2 * x3 * x3 + D * y1 * y2 * x1 * x1 * x3 * x3 * y3 * y3 * y3 + (-1) * D * x1 * x2 * y3 * x3 * x3 * y2 * y2 + (-1) * D * x1 * x2 * x3 * x3 * y1 * y1 * y3 * y3 * y3 + (-1) * D * x1 * x3 * y2 * x2 * x2 * y3 * y3 + (-1) * D * x1 * y2 * x3 * x3 * x3 * y1 * y1 * y3 * y3 + (-1) * D * x2 * x3 * y1 * y1 * y1 * y2 * y2 * y3 * y3 + (-1) * D * x2 * y3 * x1 * x1 * x1 * x3 * x3 * y2 * y2 + (-1) * D * x3 * y2 * x1 * x1 * x1 * x2 * x2 * y3 * y3 + (-1) * D * y2 * y3 * x2 * x2 * x3 * x3 * y1 * y1 * y1 + D * x1 * x2 * y3 * x3 * x3 * y1 * y1 * y2 * y2 + D * x1 * x3 * y2 * x2 * x2 * y1 * y1 * y3 * y3 + D * x2 * x3 * y1 * x1 * x1 * y2 * y2 * y3 * y3 + D * y1 * y2 * y3 * x1 * x1 * x2 * x2 * x3 * x3 + x1 * x2 * D * D * x3 * x3 * y1 * y1 * y2 * y2 * y3 * y3 * y3 + y1 * y2 * D * D * x1 * x1 * x2 * x2 * x3 * x3 * y3 * y3 * y3 + (-1) * x1 * y2 * D * D * x2 * x2 * x3 * x3 * x3 * y1 * y1 * y3 * y3 + (-1) * x2 * y1 * D * D * x1 * x1 * x3 * x3 * x3 * y2 * y2 * y3 * y3) * (y2 * y2 - x2 * x2 - 1 - D * (x2 * x2) * (y2 * y2)) + (x1 * x3 * y2 * y2 * y2 + x2 * x3 * y1 * y1 * y1 + x3 * x1 * x1 * x1 * y2 * y2 * y2 + x3 * x2 * x2 * x2 * y1 * y1 * y1 + y1 * y3 * y2 * y2 * y2 + y2 * y3 * y1 * y1 * y1 + (-1) * x1 * x2 * y3 + (-1) * x1 * x3 * y2 + (-1) * x1 * y3 * x2 * x2 * x2 + (-1) * x2 * x3 * y1 + (-1) * x2 * y3 * x1 * x1 * x1 + (-1) * x3 * y1 * x2 * x2 * x2 + (-1) * x3 * y2 * x1 * x1 * x1 + (-1) * y1 * y2 * y3 + (-1) * y3 * x1 * x1 * x1 * x2 * x2 * x2 + (-1) * y3 * y1 * y1 * y1 * y2 * y2 * y2 + x1 * x2 * y3 * y1 * y1 + x1 * x2 * y3 * y2 * y2 + x1 * x3 * y2 * y1 * y1 + x1 * y3 * x2 * x2 * x2 * y1 * y1 + x2 * x3 * y1 * y2 * y2 + x2 * y3 * x1 * x1 * x1 * y2 * y2 + y1 * y3 * x1 * x1 * y2 * y2 * y2 + y2 * y3 * x2 * x2 * y1 * y1 * y1 + (-1) * x1 * x3 * y2 * x2 * x2 + (-1) * x1 * x3 * y1 * y1 * y2 * y2 * y2 + (-1) * x2 * x3 * y1 * x1 * x1 + (-1) * x2 * x3 * y1 * y1 * y1 * y2 * y2 + (-1) * x3 * y1 * x1 * x1 * x2 * x2 * x2 + (-1) * x3 * y2 * x1 * x1 * x1 * x2 * x2 + (-1) * y1 * y2 * y3 * x1 * x1 + (-1) * y1 * y2 * y3 * x2 * x2 + x1 * x3 * y2 * x2 * x2 * y1 * y1 + x2 * x3 * y1 * x1 * x1 * y2 * y2 + (-1) * x1 * x2 * y3 * y1 * y1 * y2 * y2 + (-1) * y1 * y2 * y3 * x1 * x1 * x2 * x2 + D * x1 * x3 * y2 * x2 * x2 * y1 * y1 + D * x2 * x3 * y1 * x1 * x1 * y2 * y2 + (-1) * D * x1 * x2 * y3 * y1 * y1 * y2 * y2 + (-1) * D * y1 * y2 * y3 * x1 * x1 * x2 * x2) * (y3 * y3 - x3 * x3 - 1 - D * (x3 * x3) * (y3 * y3)) := by grind

theorem ed_on (x1 y1 x2 y2 D : Int) : (y1 * y2 + x1 * x2) * (y1 * y2 + x1 * x2) * ((1 + D * x1 * x2 * y1 * y2) * (1 + D * x1 * x2 * y1 * y2)) - (x1 * y2 + y1 * x2) * (x1 * y2 + y1 * x2) * ((1 - D * x1 * x2 * y1 * y2) * (1 - D * x1 * x2 * y1 * y2)) - (1 + D * x1 * x2 * y1 * y2) * (1 + D * x1 * x2 * y1 * y2) * ((1 - D * x1 * x2 * y1 * y2) * (1 - D * x1 * x2 * y1 * y2)) - D * ((x1 * y2 + y1 * x2) * (x1 * y2 + y1 * x2)) * ((y1 * y2 + x1 * x2) * (y1 * y2 + x1 * x2)) = (x2 * x2 * x2 * x2 + y2 * y2 * y2 * y2 + (-4) * x2 * x2 * y2 * y2 + (-2) * x2 * x2 * x2 * x2 * y2 * y2 + 2 * x2 * x2 * y2 * y2 * y2 * y2 + (-1) * D * D * x2 * x2 * x2 * x2 * y2 * y2 * y2 * y2 + (-2) * D * x2 * x2 * y2 * y2 + (-2) * D * x2 * x2 * x2 * x2 * y2 * y2 * y2 * y2 + D * x1 * x1 * x2 * x2 * y2 * y2 * y2 * y2 + D * x2 * x2 * x2 * x2 * y1 * y1 * y2 * y2 + D * D * x2 * x2 * x2 * x2 * y1 * y1 * y2 * y2 * y2 * y2 + (-1) * D * x1 * x1 * x2 * x2 * x2 * x2 * y2 * y2 + (-1) * D * x2 * x2 * y1 * y1 * y2 * y2 * y2 * y2 + (-1) * D * D * x1 * x1 * x2 * x2 * x2 * x2 * y2 * y2 * y2 * y2 + D * D * D * x1 * x1 * x2 * x2 * x2 * x2 * y1 * y1 * y2 * y2 * y2 * y2) * (y1 * y1 - x1 * x1 - 1 - D * (x1 * x1) * (y1 * y1)) + (1 + y2 * y2 + (-1) * x2 * x2 + x1 * x1 * y2 * y2 + x2 * x2 * y1 * y1 + (-1) * x1 * x1 * x2 * x2 + (-1) * y1 * y1 * y2 * y2 + 2 * x2 * x2 * y2 * y2 + D * x2 * x2 * y2 * y2 + (-2) * x2 * x2 * y1 * y1 * y2 * y2 + 2 * x1 * x1 * x2 * x2 * y2 * y2 + D * x1 * x1 * x1 * x1 * x2 * x2 * y2 * y2 + D * x2 * x2 * y1 * y1 * y1 * y1 * y2 * y2 + (-2) * D * x2 * x2 * y1 * y1 * y2 * y2 + 2 * D * x1 * x1 * x2 * x2 * y2 * y2) * (y2 * y2 - x2 * x2 - 1 - D * (x2 * x2) * (y2 * y2)) := by grind

theorem ed_pole_pp (x1 y1 x2 y2 D i : Int) : (y1 + i * x1) * (y1 + i * x1) - D * ((x1 * y1 * (y2 - i * x2)) * (x1 * y1 * (y2 - i * x2))) = 1 * (y1 * y1 - x1 * x1 - 1 - D * (x1 * x1) * (y1 * y1)) + ((-1) * D * x1 * x1 * y1 * y1) * (y2 * y2 - x2 * x2 - 1 - D * (x2 * x2) * (y2 * y2)) + (x1 * x1 + (-1) * D * x1 * x1 * x2 * x2 * y1 * y1) * (i * i + 1) + (1 + 2 * i * x1 * y1 + (-1) * D * x1 * x2 * y1 * y2) * (1 + D * x1 * x2 * y1 * y2) := by grind

theorem ed_pole_pm (x1 y1 x2 y2 D i : Int) : (y1 - i * x1) * (y1 - i * x1) - D * ((x1 * y1 * (y2 + i * x2)) * (x1 * y1 * (y2 + i * x2))) = 1 * (y1 * y1 - x1 * x1 - 1 - D * (x1 * x1) * (y1 * y1)) + ((-1) * D * x1 * x1 * y1 * y1) * (y2 * y2 - x2 * x2 - 1 - D * (x2 * x2) * (y2 * y2)) + (x1 * x1 + (-1) * D * x1 * x1 * x2 * x2 * y1 * y1) * (i * i + 1) + (1 + (-2) * i * x1 * y1 + (-1) * D * x1 * x2 * y1 * y2) * (1 + D * x1 * x2 * y1 * y2) := by grind

theorem ed_pole_mp (x1 y1 x2 y2 D i : Int) : (y1 + i * x1) * (y1 + i * x1) - D * ((x1 * y1 * (y2 + i * x2)) * (x1 * y1 * (y2 + i * x2))) = 1 * (y1 * y1 - x1 * x1 - 1 - D * (x1 * x1) * (y1 * y1)) + ((-1) * D * x1 * x1 * y1 * y1) * (y2 * y2 - x2 * x2 - 1 - D * (x2 * x2) * (y2 * y2)) + (x1 * x1 + (-1) * D * x1 * x1 * x2 * x2 * y1 * y1) * (i * i + 1) + (1 + 2 * i * x1 * y1 + D * x1 * x2 * y1 * y2) * (1 - D * x1 * x2 * y1 * y2) := by grind

theorem ed_pole_mm (x1 y1 x2 y2 D i : Int) : (y1 - i * x1) * (y1 - i * x1) - D * ((x1 * y1 * (y2 - i * x2)) * (x1 * y1 * (y2 - i * x2))) = 1 * (y1 * y1 - x1 * x1 - 1 - D * (x1 * x1) * (y1 * y1)) + ((-1) * D * x1 * x1 * y1 * y1) * (y2 * y2 - x2 * x2 - 1 - D * (x2 * x2) * (y2 * y2)) + (x1 * x1 + (-1) * D * x1 * x1 * x2 * x2 * y1 * y1) * (i * i + 1) + (1 + (-2) * i * x1 * y1 + D * x1 * x2 * y1 * y2) * (1 - D * x1 * x2 * y1 * y2) := by grind

theorem ed_cross (u w du dw nu nw : Int) : (u - w) * (du * dw) = dw * (u * du - nu) + (-du) * (w * dw - nw) + 1 * (nu * dw - nw * du) := by grind

/-- A pair. -/
structure Pr where
  x : Int
  y : Int

theorem Pr.ext' {a b : Pr} (hx : a.x = b.x) (hy : a.y = b.y) : a = b := by
  cases a; cases b; simp only at hx hy; subst hx hy; rfl

/-- A pair of the curve. -/
structure OnE (p : Nat) (D : Int) (a : Pr) : Prop where
  x0 : 0 ≤ a.x
  x1 : a.x < p
  y0 : 0 ≤ a.y
  y1 : a.y < p
  on : (p : Int) ∣ a.y * a.y - a.x * a.x - 1 - D * (a.x * a.x) * (a.y * a.y)

/-- A twisted curve: an odd prime number, D no square by it, -1 one. -/
structure EdC (p : Nat) (D : Int) : Prop where
  prime : Prime p
  three : 3 ≤ p
  ns : ∀ u v : Int, (p : Int) ∣ u * u - D * (v * v) → (p : Int) ∣ v
  i : ∃ i : Int, (p : Int) ∣ i * i + 1

/-- The product in the rule. -/
def mE (D : Int) (a b : Pr) : Int := D * a.x * b.x * a.y * b.y

/-- The sum. -/
def addE (p : Nat) (D : Int) (a b : Pr) : Pr := ⟨((a.x * b.y + a.y * b.x) * iv p (1 + mE D a b)) % p, ((a.y * b.y + a.x * b.x) * iv p (1 - mE D a b)) % p⟩

/-- The pair that changes nothing. -/
def oneE : Pr := ⟨0, 1⟩

section
variable {p : Nat} {D : Int}

theorem EdC.pos (h : EdC p D) : 0 < p := by have := h.three; omega

theorem EdC.two (h : EdC p D) {y : Int} (hd : (p : Int) ∣ 2 * y) : (p : Int) ∣ y := by
  rcases h.prime.dvd_mul_int hd with k | k
  · have := Int.le_of_dvd (by omega) k
    have := h.three
    omega
  · exact k

theorem EdC.unit (h : EdC p D) : ¬ (p : Int) ∣ 1 := fun k => by
  have := Int.le_of_dvd (by omega) k
  have := h.three
  omega

/-- Where the product were 1 or -1, D would be a square. -/
theorem EdC.no_pole (h : EdC p D) {a b : Pr} (ha : OnE p D a) (hb : OnE p D b) : ¬ (p : Int) ∣ 1 + mE D a b ∧ ¬ (p : Int) ∣ 1 - mE D a b := by
  obtain ⟨i, hi⟩ := h.i
  have nxy : ∀ c : Int, (c = 1 ∨ c = -1) → (p : Int) ∣ 1 + c * mE D a b → ¬ (p : Int) ∣ a.x * a.y ∧ ¬ (p : Int) ∣ b.y := by
    intro c hc hd
    constructor
    · intro k
      refine h.unit (comb2 hd k 1 (-(c * D * b.x * b.y)) ?_)
      unfold mE; grind
    · intro k
      refine h.unit (comb2 hd k 1 (-(c * D * a.x * a.y * b.x)) ?_)
      unfold mE; grind
  constructor
  · intro hd
    have hd' : (p : Int) ∣ 1 + D * a.x * b.x * a.y * b.y := hd
    obtain ⟨n1, n2⟩ := nxy 1 (Or.inl rfl) (by rw [Int.one_mul]; exact hd)
    have e1 := h.ns _ _ (comb4 ha.on hb.on hi hd' _ _ _ _ (ed_pole_pp a.x a.y b.x b.y D i))
    have e2 := h.ns _ _ (comb4 ha.on hb.on hi hd' _ _ _ _ (ed_pole_pm a.x a.y b.x b.y D i))
    rcases h.prime.dvd_mul_int e1 with k | k1
    · exact n1 k
    · rcases h.prime.dvd_mul_int e2 with k | k2
      · exact n1 k
      · exact n2 (h.two (comb2 k1 k2 1 1 (by grind)))
  · intro hd
    have hd' : (p : Int) ∣ 1 - D * a.x * b.x * a.y * b.y := hd
    obtain ⟨n1, n2⟩ := nxy (-1) (Or.inr rfl) (by rw [show 1 + -1 * mE D a b = 1 - mE D a b by omega]; exact hd)
    have e1 := h.ns _ _ (comb4 ha.on hb.on hi hd' _ _ _ _ (ed_pole_mp a.x a.y b.x b.y D i))
    have e2 := h.ns _ _ (comb4 ha.on hb.on hi hd' _ _ _ _ (ed_pole_mm a.x a.y b.x b.y D i))
    rcases h.prime.dvd_mul_int e1 with k | k1
    · exact n1 k
    · rcases h.prime.dvd_mul_int e2 with k | k2
      · exact n1 k
      · exact n2 (h.two (comb2 k1 k2 1 1 (by grind)))

/-- The sum told by two congruences. -/
structure SumE (p : Nat) (D : Int) (a b s : Pr) : Prop where
  x0 : 0 ≤ s.x
  x1 : s.x < p
  y0 : 0 ≤ s.y
  y1 : s.y < p
  ex : (p : Int) ∣ s.x * (1 + mE D a b) - (a.x * b.y + a.y * b.x)
  ey : (p : Int) ∣ s.y * (1 - mE D a b) - (a.y * b.y + a.x * b.x)

theorem iv_div (hp : Prime p) {u d : Int} (hd : ¬ (p : Int) ∣ d) : (p : Int) ∣ (u * iv p d % p) * d - u := by
  have h1 := iv_spec hp hd
  have h2 := mod_dvd (p : Int) (u * iv p d)
  generalize u * iv p d % p = z at *
  generalize iv p d = v at *
  exact comb2 h1 h2 u d (by grind)

theorem addE_sum (h : EdC p D) {a b : Pr} (ha : OnE p D a) (hb : OnE p D b) : SumE p D a b (addE p D a b) := by
  have hp := h.pos
  obtain ⟨n1, n2⟩ := h.no_pole ha hb
  exact ⟨Int.emod_nonneg _ (by omega), Int.emod_lt_of_pos _ (by omega), Int.emod_nonneg _ (by omega), Int.emod_lt_of_pos _ (by omega), iv_div h.prime n1, iv_div h.prime n2⟩

theorem SumE.unique (h : EdC p D) {a b s t : Pr} (ha : OnE p D a) (hb : OnE p D b) (hs : SumE p D a b s) (ht : SumE p D a b t) : s = t := by
  obtain ⟨n1, n2⟩ := h.no_pole ha hb
  refine Pr.ext' (eq_of_dvd hs.x0 hs.x1 ht.x0 ht.x1 ?_) (eq_of_dvd hs.y0 hs.y1 ht.y0 ht.y1 ?_)
  · have k : (p : Int) ∣ (s.x - t.x) * (1 + mE D a b) := comb2 hs.ex ht.ex 1 (-1) (by grind)
    exact (h.prime.dvd_mul_int k).resolve_right n1
  · have k : (p : Int) ∣ (s.y - t.y) * (1 - mE D a b) := comb2 hs.ey ht.ey 1 (-1) (by grind)
    exact (h.prime.dvd_mul_int k).resolve_right n2

theorem SumE.eq (h : EdC p D) {a b s : Pr} (ha : OnE p D a) (hb : OnE p D b) (hs : SumE p D a b s) : addE p D a b = s := (addE_sum h ha hb).unique h ha hb hs

theorem mE_comm (D : Int) (a b : Pr) : mE D a b = mE D b a := by unfold mE; grind

theorem addE_comm (p : Nat) (D : Int) (a b : Pr) : addE p D a b = addE p D b a := by
  unfold addE
  rw [mE_comm D a b, show a.x * b.y + a.y * b.x = b.x * a.y + b.y * a.x by grind, show a.y * b.y + a.x * b.x = b.y * a.y + b.x * a.x by grind]

theorem SumE.on (h : EdC p D) {a b s : Pr} (ha : OnE p D a) (hb : OnE p D b) (hs : SumE p D a b s) : OnE p D s := by
  obtain ⟨n1, n2⟩ := h.no_pole ha hb
  refine ⟨hs.x0, hs.x1, hs.y0, hs.y1, ?_⟩
  have ex : (p : Int) ∣ s.x * (1 + D * a.x * b.x * a.y * b.y) - (a.x * b.y + a.y * b.x) := hs.ex
  have ey : (p : Int) ∣ s.y * (1 - D * a.x * b.x * a.y * b.y) - (a.y * b.y + a.x * b.x) := hs.ey
  have key := ed_on a.x a.y b.x b.y D
  have k0 : (p : Int) ∣ _ := comb2 ha.on hb.on _ _ key
  have n1' : ¬ (p : Int) ∣ 1 + D * a.x * b.x * a.y * b.y := n1
  have n2' : ¬ (p : Int) ∣ 1 - D * a.x * b.x * a.y * b.y := n2
  clear key hs ha hb n1 n2
  generalize D * a.x * b.x * a.y * b.y = m at *
  generalize a.x * b.y + a.y * b.x = A at *
  generalize a.y * b.y + a.x * b.x = B at *
  have k : (p : Int) ∣ (1 + m) * ((1 + m) * ((1 - m) * ((1 - m) * (s.y * s.y - s.x * s.x - 1 - D * (s.x * s.x) * (s.y * s.y))))) := by
    refine comb3 k0 ex ey 1 (-((1 - m) * (1 - m) * (s.x * (1 + m) + A)) - D * B * B * (s.x * (1 + m) + A)) ((1 + m) * (1 + m) * (s.y * (1 - m) + B) - D * (s.x * (1 + m)) * (s.x * (1 + m)) * (s.y * (1 - m) + B)) ?_
    grind
  have k := (h.prime.dvd_mul_int k).resolve_left n1'
  have k := (h.prime.dvd_mul_int k).resolve_left n1'
  have k := (h.prime.dvd_mul_int k).resolve_left n2'
  exact (h.prime.dvd_mul_int k).resolve_left n2'

theorem addE_on (h : EdC p D) {a b : Pr} (ha : OnE p D a) (hb : OnE p D b) : OnE p D (addE p D a b) := (addE_sum h ha hb).on h ha hb

theorem one_on (h : EdC p D) : OnE p D oneE := ⟨by simp [oneE], by have := h.three; simp [oneE]; omega, by simp [oneE], by have := h.three; simp [oneE]; omega, by simp [oneE]⟩

theorem addE_one (h : EdC p D) {a : Pr} (ha : OnE p D a) : addE p D a oneE = a := by
  refine SumE.eq h ha (one_on h) ⟨ha.x0, ha.x1, ha.y0, ha.y1, ?_, ?_⟩
  · simp [mE, oneE]
  · simp [mE, oneE]

theorem one_addE (h : EdC p D) {a : Pr} (ha : OnE p D a) : addE p D oneE a = a := by rw [addE_comm]; exact addE_one h ha

/-- The other side. -/
def negE (p : Nat) (a : Pr) : Pr := ⟨(-a.x) % p, a.y⟩

theorem negE_on (h : EdC p D) {a : Pr} (ha : OnE p D a) : OnE p D (negE p a) := by
  have hp := h.pos
  refine ⟨Int.emod_nonneg _ (by omega), Int.emod_lt_of_pos _ (by omega), ha.y0, ha.y1, ?_⟩
  have h1 := mod_dvd (p : Int) (-a.x)
  have h2 := ha.on
  show (p : Int) ∣ a.y * a.y - ((-a.x) % p) * ((-a.x) % p) - 1 - D * (((-a.x) % p) * ((-a.x) % p)) * (a.y * a.y)
  generalize (-a.x) % (p : Int) = z at *
  exact comb2 h2 h1 1 (-(z - a.x) - D * (z - a.x) * (a.y * a.y)) (by grind)

theorem add_negE (h : EdC p D) {a : Pr} (ha : OnE p D a) : addE p D a (negE p a) = oneE := by
  have h1 := mod_dvd (p : Int) (-a.x)
  have h2 := ha.on
  have h3 := one_on h
  refine SumE.eq h ha (negE_on h ha) ⟨h3.x0, h3.x1, h3.y0, h3.y1, ?_, ?_⟩
  · show (p : Int) ∣ 0 * _ - (a.x * a.y + a.y * ((-a.x) % p))
    generalize (-a.x) % (p : Int) = z at *
    exact comb1 h1 (-a.y) (by grind)
  · show (p : Int) ∣ 1 * (1 - D * a.x * ((-a.x) % p) * a.y * a.y) - (a.y * a.y + a.x * ((-a.x) % p))
    generalize (-a.x) % (p : Int) = z at *
    exact comb2 h2 h1 (-1) (-(D * a.x * a.y * a.y) - a.x) (by grind)

/-- A sum and one more, the denominators cleared. -/
theorem sum_more (h : EdC p D) {a b c s u : Pr} (ha : OnE p D a) (hb : OnE p D b) (hc : OnE p D c) (hs : SumE p D a b s) (hu : SumE p D s c u) :
    ((p : Int) ∣ u.x * ((1 + mE D a b) * (1 - mE D a b) + D * (a.x * b.y + a.y * b.x) * (a.y * b.y + a.x * b.x) * c.x * c.y) - ((a.x * b.y + a.y * b.x) * c.y * (1 - mE D a b) + (a.y * b.y + a.x * b.x) * c.x * (1 + mE D a b)) ∧
      ¬ (p : Int) ∣ (1 + mE D a b) * (1 - mE D a b) + D * (a.x * b.y + a.y * b.x) * (a.y * b.y + a.x * b.x) * c.x * c.y) ∧
    ((p : Int) ∣ u.y * ((1 + mE D a b) * (1 - mE D a b) - D * (a.x * b.y + a.y * b.x) * (a.y * b.y + a.x * b.x) * c.x * c.y) - ((a.y * b.y + a.x * b.x) * c.y * (1 + mE D a b) + (a.x * b.y + a.y * b.x) * c.x * (1 - mE D a b)) ∧
      ¬ (p : Int) ∣ (1 + mE D a b) * (1 - mE D a b) - D * (a.x * b.y + a.y * b.x) * (a.y * b.y + a.x * b.x) * c.x * c.y) := by
  obtain ⟨n1, n2⟩ := h.no_pole ha hb
  have os := hs.on h ha hb
  obtain ⟨n3, n4⟩ := h.no_pole os hc
  have ex := hs.ex
  have ey := hs.ey
  have fx : (p : Int) ∣ u.x * (1 + D * s.x * c.x * s.y * c.y) - (s.x * c.y + s.y * c.x) := hu.ex
  have fy : (p : Int) ∣ u.y * (1 - D * s.x * c.x * s.y * c.y) - (s.y * c.y + s.x * c.x) := hu.ey
  have n3' : ¬ (p : Int) ∣ 1 + D * s.x * c.x * s.y * c.y := n3
  have n4' : ¬ (p : Int) ∣ 1 - D * s.x * c.x * s.y * c.y := n4
  clear hu hs os n3 n4 ha hb hc
  generalize mE D a b = m at *
  generalize a.x * b.y + a.y * b.x = A at *
  generalize a.y * b.y + a.x * b.x = B at *
  -- D A B x3 y3 is the product of the denominators times the second product
  have q : (p : Int) ∣ (1 + m) * (1 - m) * (D * s.x * c.x * s.y * c.y) - D * A * B * c.x * c.y := comb2 ex ey (D * c.x * c.y * (s.y * (1 - m))) (D * c.x * c.y * A) (by grind)
  refine ⟨⟨?_, ?_⟩, ?_, ?_⟩
  · exact comb4 fx ex ey q ((1 + m) * (1 - m)) (c.y * (1 - m)) (c.x * (1 + m)) (-u.x) (by grind)
  · intro k
    have : (p : Int) ∣ (1 + m) * ((1 - m) * (1 + D * s.x * c.x * s.y * c.y)) := comb2 k q 1 1 (by grind)
    rcases h.prime.dvd_mul_int this with k | k
    · exact n1 k
    · rcases h.prime.dvd_mul_int k with k | k
      · exact n2 k
      · exact n3' k
  · exact comb4 fy ex ey q ((1 + m) * (1 - m)) (c.x * (1 - m)) (c.y * (1 + m)) u.y (by grind)
  · intro k
    have : (p : Int) ∣ (1 + m) * ((1 - m) * (1 - D * s.x * c.x * s.y * c.y)) := comb2 k q 1 (-1) (by grind)
    rcases h.prime.dvd_mul_int this with k | k
    · exact n1 k
    · rcases h.prime.dvd_mul_int k with k | k
      · exact n2 k
      · exact n4' k

theorem addE_assoc (h : EdC p D) {a b c : Pr} (ha : OnE p D a) (hb : OnE p D b) (hc : OnE p D c) : addE p D (addE p D a b) c = addE p D a (addE p D b c) := by
  rw [addE_comm p D a (addE p D b c)]
  have hs := addE_sum h ha hb
  have hv := addE_sum h hb hc
  have hu := addE_sum h (addE_on h ha hb) hc
  have hw := addE_sum h (addE_on h hb hc) ha
  obtain ⟨⟨u1, u2⟩, u3, u4⟩ := sum_more h ha hb hc hs hu
  obtain ⟨⟨w1, w2⟩, w3, w4⟩ := sum_more h hb hc ha hv hw
  have kx : (p : Int) ∣ _ := comb3 ha.on hb.on hc.on _ _ _ (ed_assoc_x a.x a.y b.x b.y c.x c.y D)
  have ky : (p : Int) ∣ _ := comb3 ha.on hb.on hc.on _ _ _ (ed_assoc_y a.x a.y b.x b.y c.x c.y D)
  generalize addE p D (addE p D a b) c = u at *
  generalize addE p D (addE p D b c) a = w at *
  unfold mE at u1 u2 u3 u4 w1 w2 w3 w4
  refine Pr.ext' (eq_of_dvd hu.x0 hu.x1 hw.x0 hw.x1 ?_) (eq_of_dvd hu.y0 hu.y1 hw.y0 hw.y1 ?_)
  · clear u3 u4 w3 w4 ky hu hw hs hv
    revert u1 u2 w1 w2 kx
    generalize ((1 + D * a.x * b.x * a.y * b.y) * (1 - D * a.x * b.x * a.y * b.y) + D * (a.x * b.y + a.y * b.x) * (a.y * b.y + a.x * b.x) * c.x * c.y) = du
    generalize ((1 + D * b.x * c.x * b.y * c.y) * (1 - D * b.x * c.x * b.y * c.y) + D * (b.x * c.y + b.y * c.x) * (b.y * c.y + b.x * c.x) * a.x * a.y) = dw
    generalize ((a.x * b.y + a.y * b.x) * c.y * (1 - D * a.x * b.x * a.y * b.y) + (a.y * b.y + a.x * b.x) * c.x * (1 + D * a.x * b.x * a.y * b.y)) = nu
    generalize ((b.x * c.y + b.y * c.x) * a.y * (1 - D * b.x * c.x * b.y * c.y) + (b.y * c.y + b.x * c.x) * a.x * (1 + D * b.x * c.x * b.y * c.y)) = nw
    intro h1 h2 kx u1 w1
    have k : (p : Int) ∣ (u.x - w.x) * (du * dw) := comb3 u1 w1 kx dw (-du) 1 (ed_cross _ _ _ _ _ _)
    rcases h.prime.dvd_mul_int k with k | k
    · exact k
    · rcases h.prime.dvd_mul_int k with k | k
      · first | exact absurd k h1 | exact absurd k h2
      · first | exact absurd k h1 | exact absurd k h2
  · clear u1 u2 w1 w2 kx hu hw hs hv
    revert u3 u4 w3 w4 ky
    generalize ((1 + D * a.x * b.x * a.y * b.y) * (1 - D * a.x * b.x * a.y * b.y) - D * (a.x * b.y + a.y * b.x) * (a.y * b.y + a.x * b.x) * c.x * c.y) = du
    generalize ((1 + D * b.x * c.x * b.y * c.y) * (1 - D * b.x * c.x * b.y * c.y) - D * (b.x * c.y + b.y * c.x) * (b.y * c.y + b.x * c.x) * a.x * a.y) = dw
    generalize ((a.y * b.y + a.x * b.x) * c.y * (1 + D * a.x * b.x * a.y * b.y) + (a.x * b.y + a.y * b.x) * c.x * (1 - D * a.x * b.x * a.y * b.y)) = nu
    generalize ((b.y * c.y + b.x * c.x) * a.y * (1 + D * b.x * c.x * b.y * c.y) + (b.x * c.y + b.y * c.x) * a.x * (1 - D * b.x * c.x * b.y * c.y)) = nw
    intro h1 h2 ky u3 w3
    have k : (p : Int) ∣ (u.y - w.y) * (du * dw) := comb3 u3 w3 ky dw (-du) 1 (ed_cross _ _ _ _ _ _)
    rcases h.prime.dvd_mul_int k with k | k
    · exact k
    · rcases h.prime.dvd_mul_int k with k | k
      · first | exact absurd k h1 | exact absurd k h2
      · first | exact absurd k h1 | exact absurd k h2

/-- A pair taken n times. -/
def nE (p : Nat) (D : Int) : Nat → Pr → Pr
  | 0, _ => oneE
  | n + 1, a => addE p D (nE p D n a) a

theorem nE_on (h : EdC p D) {a : Pr} (ha : OnE p D a) (n : Nat) : OnE p D (nE p D n a) := by
  induction n with
  | zero => exact one_on h
  | succ n ih => exact addE_on h ih ha

theorem nE_add (h : EdC p D) {a : Pr} (ha : OnE p D a) (m n : Nat) : nE p D (m + n) a = addE p D (nE p D m a) (nE p D n a) := by
  induction n with
  | zero => exact (addE_one h (nE_on h ha m)).symm
  | succ n ih =>
    show addE p D (nE p D (m + n) a) a = addE p D (nE p D m a) (addE p D (nE p D n a) a)
    rw [ih, addE_assoc h (nE_on h ha m) (nE_on h ha n) ha]

theorem nE_mul (h : EdC p D) {a : Pr} (ha : OnE p D a) (m n : Nat) : nE p D m (nE p D n a) = nE p D (m * n) a := by
  induction m with
  | zero => rw [Nat.zero_mul]; rfl
  | succ m ih => rw [Nat.succ_mul, nE_add h ha, ← ih]; rfl

theorem nE_one (h : EdC p D) (n : Nat) : nE p D n oneE = oneE := by
  induction n with
  | zero => rfl
  | succ n ih => show addE p D (nE p D n oneE) oneE = oneE; rw [ih]; exact addE_one h (one_on h)

/-- A multiple by doubling, as the model and the program reckon it. -/
def accE (p : Nat) (D : Int) : Nat → Nat → Pr → Pr → Pr
  | 0, _, o, _ => o
  | f + 1, n, o, a => accE p D f (n / 2) (if n % 2 = 1 then addE p D o a else o) (addE p D a a)

def mulE (p : Nat) (D : Int) (n : Nat) (a : Pr) : Pr := accE p D 64 n oneE a

theorem accE_eq (h : EdC p D) : ∀ (f n : Nat) (o a : Pr), OnE p D o → OnE p D a → n < 2 ^ f → accE p D f n o a = addE p D o (nE p D n a) := by
  intro f
  induction f with
  | zero =>
    intro n o a ho ha hn
    obtain rfl : n = 0 := by simpa using hn
    exact (addE_one h ho).symm
  | succ f ih =>
    intro n o a ho ha hn
    have h2 : n / 2 < 2 ^ f := by rw [Nat.pow_succ] at hn; omega
    have haa := addE_on h ha ha
    have e2 : nE p D (n / 2) (addE p D a a) = nE p D (n / 2 * 2) a := by
      have := nE_mul h ha (n / 2) 2
      rwa [show nE p D 2 a = addE p D (addE p D oneE a) a from rfl, one_addE h ha] at this
    rw [accE]
    by_cases hodd : n % 2 = 1
    · rw [if_pos hodd, ih _ _ _ (addE_on h ho ha) haa h2, e2, addE_assoc h ho ha (nE_on h ha _)]
      congr 1
      rw [addE_comm p D a (nE p D _ a)]
      show nE p D (n / 2 * 2 + 1) a = _
      rw [show n / 2 * 2 + 1 = n by omega]
    · rw [if_neg hodd, ih _ _ _ ho haa h2, e2, show n / 2 * 2 = n by omega]

theorem mulE_eq (h : EdC p D) {n : Nat} (hn : n < 2 ^ 64) {a : Pr} (ha : OnE p D a) : mulE p D n a = nE p D n a := by
  unfold mulE
  rw [accE_eq h 64 n oneE a (one_on h) ha hn]
  exact one_addE h (nE_on h ha n)

theorem mulE_on (h : EdC p D) {n : Nat} (hn : n < 2 ^ 64) {a : Pr} (ha : OnE p D a) : OnE p D (mulE p D n a) := by
  rw [mulE_eq h hn ha]; exact nE_on h ha n

end

end Go.Proofs.YtdaneanloknkpacGreatDoor
