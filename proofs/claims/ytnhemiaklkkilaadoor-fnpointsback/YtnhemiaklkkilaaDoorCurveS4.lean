/- Walks: PointRead of the model. -/
import Derived.Test.YtnhemiaklkkilaaDoorCurveS3
namespace Go.Proofs.YtnhemiaklkkilaaDoor
set_option linter.unusedVariables false
set_option linter.unusedSimpArgs false
open Go.RowKit Go.Sort

/-- A call's boxes: a curve and the answer's block. -/
structure Fr1 (w wr : World) (P A B N gx gy : Int) (z : Pt) : Prop where
  cv : CvAt wr w.heap.size P A B N gx gy
  rs : PtAt wr (w.heap.size + 1) z
  below : Below w.heap.size w wr
  big : w.heap.size + 2 ≤ wr.heap.size

theorem Fr1.box (w : World) (P A B N gx gy : Int) (z : Pt) (t1 t2 : TypeId) :
    Fr1 w ((w.alloc (.cells #[.int .i64 P, .int .i64 A, .int .i64 B, .int .i64 N, .int .i64 gx, .int .i64 gy] t1)).alloc (.cells #[.int .i64 z.x, .int .i64 z.y, .bool z.far] t2)) P A B N gx gy z := by
  refine ⟨⟨?_, ?_, ?_, ?_, ?_, ?_⟩, ⟨?_, ?_, ?_, ?_, ?_, ?_⟩, ?_, ?_⟩
  all_goals first | (simp [go_sem]; done) | skip
  repeat (first | exact Below.refl _ _ | refine Below.alloc ?_ (by simp <;> omega) _)

theorem Fr1.call {w wr w1 : World} {P A B N gx gy : Int} {z : Pt} (h : Fr1 w wr P A B N gx gy z) (hb : Below wr.heap.size wr w1) : Fr1 w w1 P A B N gx gy z :=
  ⟨h.cv.below hb (by have := h.big; omega), h.rs.below hb (by have := h.big; omega), h.below.trans (hb.mono (by have := h.big; omega)), Nat.le_trans h.big hb.size⟩

end Go.Proofs.YtnhemiaklkkilaaDoor
