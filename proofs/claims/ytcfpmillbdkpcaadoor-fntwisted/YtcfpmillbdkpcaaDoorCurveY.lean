/- The laws' own way: a struct answer that is stored into a variable of the law. -/
import Derived.Test.YtcfpmillbdkpcaaDoorCurveK
import Derived.Test.YtcfpmillbdkpcaaDoorCurveX
import Derived.Test.YtcfpmillbdkpcaaDoorHeads
namespace Go.Proofs.YtcfpmillbdkpcaaDoor
set_option linter.unusedVariables false
open Go.RowKit Go.Sort

theorem Fr2b (w : World) (P A B N gx gy : Int) (a : Pt) (t1 t2 : TypeId) : CvAt ((w.alloc (.cells #[.int .i64 P, .int .i64 A, .int .i64 B, .int .i64 N, .int .i64 gx, .int .i64 gy] t1)).alloc (.cells #[.int .i64 a.x, .int .i64 a.y, .bool a.far] t2)) w.heap.size P A B N gx gy ∧ PtAt ((w.alloc (.cells #[.int .i64 P, .int .i64 A, .int .i64 B, .int .i64 N, .int .i64 gx, .int .i64 gy] t1)).alloc (.cells #[.int .i64 a.x, .int .i64 a.y, .bool a.far] t2)) (w.heap.size + 1) a := by
  refine ⟨(CvAt.alloc w P A B N gx gy t1).below ((Below.refl _ _).alloc (Nat.le_refl _) _) (by simp), ?_⟩
  have F := PtAt.alloc (w.alloc (.cells #[.int .i64 P, .int .i64 A, .int .i64 B, .int .i64 N, .int .i64 gx, .int .i64 gy] t1)) a t2
  rwa [World.size_alloc] at F

theorem Fr3b (w : World) (P A B N gx gy : Int) (a b : Pt) (t1 t2 t3 : TypeId) : CvAt (((w.alloc (.cells #[.int .i64 P, .int .i64 A, .int .i64 B, .int .i64 N, .int .i64 gx, .int .i64 gy] t1)).alloc (.cells #[.int .i64 a.x, .int .i64 a.y, .bool a.far] t2)).alloc (.cells #[.int .i64 b.x, .int .i64 b.y, .bool b.far] t3)) w.heap.size P A B N gx gy ∧
    PtAt (((w.alloc (.cells #[.int .i64 P, .int .i64 A, .int .i64 B, .int .i64 N, .int .i64 gx, .int .i64 gy] t1)).alloc (.cells #[.int .i64 a.x, .int .i64 a.y, .bool a.far] t2)).alloc (.cells #[.int .i64 b.x, .int .i64 b.y, .bool b.far] t3)) (w.heap.size + 1) a ∧
    PtAt (((w.alloc (.cells #[.int .i64 P, .int .i64 A, .int .i64 B, .int .i64 N, .int .i64 gx, .int .i64 gy] t1)).alloc (.cells #[.int .i64 a.x, .int .i64 a.y, .bool a.far] t2)).alloc (.cells #[.int .i64 b.x, .int .i64 b.y, .bool b.far] t3)) (w.heap.size + 1 + 1) b := by
  obtain ⟨h1, h2⟩ := Fr2b w P A B N gx gy a t1 t2
  refine ⟨h1.below ((Below.refl _ _).alloc (Nat.le_refl _) _) (by simp <;> omega), h2.below ((Below.refl _ _).alloc (Nat.le_refl _) _) (by simp), ?_⟩
  have F := PtAt.alloc ((w.alloc (.cells #[.int .i64 P, .int .i64 A, .int .i64 B, .int .i64 N, .int .i64 gx, .int .i64 gy] t1)).alloc (.cells #[.int .i64 a.x, .int .i64 a.y, .bool a.far] t2)) b t3
  rwa [World.size_alloc, World.size_alloc] at F

theorem optPt_some (Q : Prop) (v : Pt) : ∃ c ok, OptPt Q v c ok := by
  by_cases h : Q
  · exact ⟨v, true, Or.inl ⟨rfl, h, rfl⟩⟩
  · exact ⟨zeroP, false, Or.inr ⟨rfl, h, rfl⟩⟩

theorem givesPt_at {P : Program} {f : FuncId} {args : Array Value} {w : World} {Q : Prop} {v c : Pt} {ok : Bool} (hA : OptPt Q v c ok) (h : Calls P f args w fun r w' => GivesPt Q v r ∧ Below w.heap.size w w') : Calls P f args w fun r w' => r = .returned (.tuple #[.agg #[.int .i64 c.x, .int .i64 c.y, .bool c.far], .bool ok]) ∧ Below w.heap.size w w' := by
  refine h.mono ?_
  rintro r w' ⟨⟨c', ok', rfl, hA'⟩, hw⟩
  obtain ⟨rfl, rfl⟩ := hA.unique hA'
  exact ⟨rfl, hw⟩

/-- What is known behind the three operations at a region's end: a block is made, the answer stored into it, the flag kept. -/
theorem tail_pt {W w2 w3 w4 w5 : World} {t : TypeId} {c : Pt} (hw2 : Ext W w2) (hw3 : Ext (w2.alloc (.cells #[.int .i64 0, .int .i64 0, .bool false] t)) w3) (hw4 : Ext (putPt w3 w2.heap.size c) w4) (hw5 : Ext w4 w5) :
    Ext W w5 ∧ PtAt w5 w2.heap.size c ∧ W.heap.size ≤ w2.heap.size ∧ w2.heap.size + 1 ≤ w5.heap.size := by
  have s2 : W.heap.size ≤ w2.heap.size := Below.size hw2
  have s3 : w2.heap.size + 1 ≤ w3.heap.size := by have := Below.size hw3; rwa [World.size_alloc] at this
  have s4 : w3.heap.size ≤ w4.heap.size := by have := Below.size hw4; rwa [size_put] at this
  have s5 : w4.heap.size ≤ w5.heap.size := Below.size hw5
  have e3 : Ext W w3 := (Ext.trans hw2 (show Ext w2 (w2.alloc (.cells #[.int .i64 0, .int .i64 0, .bool false] t)) from (Below.refl _ _).alloc (Nat.le_refl _) _)).trans hw3
  have e4 : Ext W (putPt w3 w2.heap.size c) := below_put e3 s2 c
  refine ⟨(e4.trans hw4).trans hw5, ?_, s2, by omega⟩
  have t3 : PtAt w3 w2.heap.size zeroP := PtAt.below (PtAt.alloc w2 zeroP t) hw3 (by simp)
  exact ((t3.put c).below hw4 (by rw [size_put]; omega)).below hw5 (by omega)

end Go.Proofs.YtcfpmillbdkpcaaDoor
