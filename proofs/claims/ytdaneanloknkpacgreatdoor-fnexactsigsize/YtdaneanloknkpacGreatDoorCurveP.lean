/- Walks: PointAdd and PointMul of the model. -/
import Derived.Test.YtdaneanloknkpacGreatDoorCurveK
namespace Go.Proofs.YtdaneanloknkpacGreatDoor
set_option linter.unusedVariables false
open Go.RowKit

/-- A call's boxes: a curve, two points and the answer's block. -/
structure Fr3 (w wr : World) (P A B N gx gy : Int) (a b z : Pt) : Prop where
  cv : CvAt wr w.heap.size P A B N gx gy
  pa : PtAt wr (w.heap.size + 1) a
  pb : PtAt wr (w.heap.size + 1 + 1) b
  rs : PtAt wr (w.heap.size + 1 + 1 + 1) z
  below : Below w.heap.size w wr
  big : w.heap.size + 4 ≤ wr.heap.size

theorem Fr3.box (w : World) (P A B N gx gy : Int) (a b z : Pt) (t1 t2 t3 t4 : TypeId) :
    Fr3 w ((((w.alloc (.cells #[.int .i64 P, .int .i64 A, .int .i64 B, .int .i64 N, .int .i64 gx, .int .i64 gy] t1)).alloc (.cells #[.int .i64 a.x, .int .i64 a.y, .bool a.far] t2)).alloc (.cells #[.int .i64 b.x, .int .i64 b.y, .bool b.far] t3)).alloc (.cells #[.int .i64 z.x, .int .i64 z.y, .bool z.far] t4)) P A B N gx gy a b z := by
  refine ⟨⟨?_, ?_, ?_, ?_, ?_, ?_⟩, ⟨?_, ?_, ?_, ?_, ?_, ?_⟩, ⟨?_, ?_, ?_, ?_, ?_, ?_⟩, ⟨?_, ?_, ?_, ?_, ?_, ?_⟩, ?_, ?_⟩
  all_goals first | (simp [go_sem]; done) | skip
  repeat (first | exact Below.refl _ _ | refine Below.alloc ?_ (by simp <;> omega) _)

theorem Fr3.call {w wr w1 : World} {P A B N gx gy : Int} {a b z : Pt} (h : Fr3 w wr P A B N gx gy a b z) (hb : Below wr.heap.size wr w1) : Fr3 w w1 P A B N gx gy a b z :=
  ⟨h.cv.below hb (by have := h.big; omega), h.pa.below hb (by have := h.big; omega), h.pb.below hb (by have := h.big; omega), h.rs.below hb (by have := h.big; omega), h.below.trans (hb.mono (by have := h.big; omega)), Nat.le_trans h.big hb.size⟩

/-- A call's boxes: a curve, a point and the answer's block. -/
structure Fr2 (w wr : World) (P A B N gx gy : Int) (a z : Pt) : Prop where
  cv : CvAt wr w.heap.size P A B N gx gy
  pa : PtAt wr (w.heap.size + 1) a
  rs : PtAt wr (w.heap.size + 1 + 1) z
  below : Below w.heap.size w wr
  big : w.heap.size + 3 ≤ wr.heap.size

theorem Fr2.box (w : World) (P A B N gx gy : Int) (a z : Pt) (t1 t2 t4 : TypeId) :
    Fr2 w (((w.alloc (.cells #[.int .i64 P, .int .i64 A, .int .i64 B, .int .i64 N, .int .i64 gx, .int .i64 gy] t1)).alloc (.cells #[.int .i64 a.x, .int .i64 a.y, .bool a.far] t2)).alloc (.cells #[.int .i64 z.x, .int .i64 z.y, .bool z.far] t4)) P A B N gx gy a z := by
  refine ⟨⟨?_, ?_, ?_, ?_, ?_, ?_⟩, ⟨?_, ?_, ?_, ?_, ?_, ?_⟩, ⟨?_, ?_, ?_, ?_, ?_, ?_⟩, ?_, ?_⟩
  all_goals first | (simp [go_sem]; done) | skip
  repeat (first | exact Below.refl _ _ | refine Below.alloc ?_ (by simp <;> omega) _)

theorem Fr2.call {w wr w1 : World} {P A B N gx gy : Int} {a z : Pt} (h : Fr2 w wr P A B N gx gy a z) (hb : Below wr.heap.size wr w1) : Fr2 w w1 P A B N gx gy a z :=
  ⟨h.cv.below hb (by have := h.big; omega), h.pa.below hb (by have := h.big; omega), h.rs.below hb (by have := h.big; omega), h.below.trans (hb.mono (by have := h.big; omega)), Nat.le_trans h.big hb.size⟩

/-- The sum's condition. -/
def AddQ (P A B N gx gy : Int) (a b : Pt) : Prop := CvOk P A B N gx gy ∧ On P.toNat A B a ∧ On P.toNat A B b

theorem CvOk.nat {P A B N gx gy : Int} (h : CvOk P A B N gx gy) : ((P.toNat : Nat) : Int) = P := by have := h.p5; omega
theorem CvOk.natN {P A B N gx gy : Int} (h : CvOk P A B N gx gy) : ((N.toNat : Nat) : Int) = N := by have := h.n5; omega

theorem l3Add_ok {P A B N gx gy : Int} (hc : CvOk P A B N gx gy) {a b : Pt} (ha : On P.toNat A B a) (hb : On P.toNat A B b) (w : World) :
    Calls Tryz.prog 145 #[.agg #[.int .i64 P, .int .i64 A, .int .i64 B, .int .i64 N, .int .i64 gx, .int .i64 gy], .agg #[.int .i64 a.x, .int .i64 a.y, .bool a.far], .agg #[.int .i64 b.x, .int .i64 b.y, .bool b.far]] w fun r w' => r = .returned (ptV (addF P.toNat A a b)) ∧ Below w.heap.size w w' := by
  have e := hc.nat
  have h5 := hc.p5; have hM := hc.pM; have h0 := hc.a0; have h1 := hc.a1
  have := l3Add_any P.toNat A B N gx gy a b w hc.pp (by omega) (by omega) (by omega) (by omega) (on_inR (by omega) ha) (on_inR (by omega) hb)
  rwa [e] at this

theorem l3Mul_ok {P A B N gx gy : Int} (hc : CvOk P A B N gx gy) {a : Pt} (ha : On P.toNat A B a) (n : Int) (hn0 : 0 ≤ n) (hn : n ≤ 9223372036854775807) (w : World) :
    Calls Tryz.prog 87 #[.agg #[.int .i64 P, .int .i64 A, .int .i64 B, .int .i64 N, .int .i64 gx, .int .i64 gy], .int .i64 n, .agg #[.int .i64 a.x, .int .i64 a.y, .bool a.far]] w fun r w' => r = .returned (ptV (mulF P.toNat A n.toNat a)) ∧ Below w.heap.size w w' := by
  have e := hc.nat
  have h5 := hc.p5; have hM := hc.pM; have h0 := hc.a0; have h1 := hc.a1
  have := l3Mul_any P.toNat A B N gx gy n.toNat a w hc.pp (by omega) (by omega) (by omega) (by omega) (on_inR (by omega) ha) (by omega)
  rwa [e, show ((n.toNat : Nat) : Int) = n by omega] at this

theorem l3On_ok {P A B N gx gy : Int} (hc : CvOk P A B N gx gy) (a : Pt) (w : World) :
    Calls Tryz.prog 144 #[.agg #[.int .i64 P, .int .i64 A, .int .i64 B, .int .i64 N, .int .i64 gx, .int .i64 gy], .agg #[.int .i64 a.x, .int .i64 a.y, .bool a.far]] w fun r w' => (∃ ok : Bool, r = .returned (.bool ok) ∧ (ok = true ↔ On P.toNat A B a)) ∧ Below w.heap.size w w' := by
  refine (l3On_any P A B N gx gy a.x a.y a.far w (by have := hc.p5; omega) (by have := hc.pM; omega) (by have := hc.a0; omega) (by have := hc.a1; have := hc.pM; omega) hc.b0 (by have := hc.b1; have := hc.pM; omega)).mono ?_
  rintro r w' ⟨⟨ok, rfl, h, -⟩, hw⟩
  exact ⟨⟨ok, rfl, h hc.a0⟩, hw⟩

/-- The multiple's condition. -/
def MulQ (P A B N gx gy n : Int) (a : Pt) : Prop := CvOk P A B N gx gy ∧ On P.toNat A B a ∧ 0 ≤ n ∧ n ≤ 1099511627776

end Go.Proofs.YtdaneanloknkpacGreatDoor
