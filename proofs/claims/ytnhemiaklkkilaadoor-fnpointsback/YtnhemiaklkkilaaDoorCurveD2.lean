/- Walks: PointRead of the program. -/
import Derived.Test.YtnhemiaklkkilaaDoorCurveD
namespace Go.Proofs.YtnhemiaklkkilaaDoor
set_option linter.unusedVariables false
set_option linter.unusedSimpArgs false
open Go.RowKit Go.Sort

/-- What known answers. -/
def OptKn (P A B : Int) (a c : Pt) (ok : Bool) : Prop := (ok = true ∧ On P.toNat A B a ∧ c = a) ∨ (ok = false ∧ ¬ On P.toNat A B a ∧ c = zeroP)

theorem optKn_some (P A B : Int) (a : Pt) : ∃ c ok, OptKn P A B a c ok := by
  by_cases h : On P.toNat A B a
  · exact ⟨a, true, Or.inl ⟨rfl, h, rfl⟩⟩
  · exact ⟨zeroP, false, Or.inr ⟨rfl, h, rfl⟩⟩

theorem Gr2.box (w : World) (P A B N gx gy : Int) (a z : Pt) (t1 t2 t3 : TypeId) : GrpAt (((w.alloc (.cells #[.func (.func 54) #[.agg #[.int .i64 P, .int .i64 A, .int .i64 B, .int .i64 N, .int .i64 gx, .int .i64 gy]] #[], .func (.func 55) #[.agg #[.int .i64 P, .int .i64 A, .int .i64 B, .int .i64 N, .int .i64 gx, .int .i64 gy]] #[], .func (.func 56) #[.agg #[.int .i64 P, .int .i64 A, .int .i64 B, .int .i64 N, .int .i64 gx, .int .i64 gy]] #[], .func (.func 57) #[.agg #[.int .i64 P, .int .i64 A, .int .i64 B, .int .i64 N, .int .i64 gx, .int .i64 gy]] #[]] t1)).alloc (.cells #[.int .i64 a.x, .int .i64 a.y, .bool a.far] t2)).alloc (.cells #[.int .i64 z.x, .int .i64 z.y, .bool z.far] t3)) w.heap.size P A B N gx gy ∧ PtAt (((w.alloc (.cells #[.func (.func 54) #[.agg #[.int .i64 P, .int .i64 A, .int .i64 B, .int .i64 N, .int .i64 gx, .int .i64 gy]] #[], .func (.func 55) #[.agg #[.int .i64 P, .int .i64 A, .int .i64 B, .int .i64 N, .int .i64 gx, .int .i64 gy]] #[], .func (.func 56) #[.agg #[.int .i64 P, .int .i64 A, .int .i64 B, .int .i64 N, .int .i64 gx, .int .i64 gy]] #[], .func (.func 57) #[.agg #[.int .i64 P, .int .i64 A, .int .i64 B, .int .i64 N, .int .i64 gx, .int .i64 gy]] #[]] t1)).alloc (.cells #[.int .i64 a.x, .int .i64 a.y, .bool a.far] t2)).alloc (.cells #[.int .i64 z.x, .int .i64 z.y, .bool z.far] t3)) (w.heap.size + 1) a ∧ PtAt (((w.alloc (.cells #[.func (.func 54) #[.agg #[.int .i64 P, .int .i64 A, .int .i64 B, .int .i64 N, .int .i64 gx, .int .i64 gy]] #[], .func (.func 55) #[.agg #[.int .i64 P, .int .i64 A, .int .i64 B, .int .i64 N, .int .i64 gx, .int .i64 gy]] #[], .func (.func 56) #[.agg #[.int .i64 P, .int .i64 A, .int .i64 B, .int .i64 N, .int .i64 gx, .int .i64 gy]] #[], .func (.func 57) #[.agg #[.int .i64 P, .int .i64 A, .int .i64 B, .int .i64 N, .int .i64 gx, .int .i64 gy]] #[]] t1)).alloc (.cells #[.int .i64 a.x, .int .i64 a.y, .bool a.far] t2)).alloc (.cells #[.int .i64 z.x, .int .i64 z.y, .bool z.far] t3)) (w.heap.size + 1 + 1) z ∧ Below w.heap.size w (((w.alloc (.cells #[.func (.func 54) #[.agg #[.int .i64 P, .int .i64 A, .int .i64 B, .int .i64 N, .int .i64 gx, .int .i64 gy]] #[], .func (.func 55) #[.agg #[.int .i64 P, .int .i64 A, .int .i64 B, .int .i64 N, .int .i64 gx, .int .i64 gy]] #[], .func (.func 56) #[.agg #[.int .i64 P, .int .i64 A, .int .i64 B, .int .i64 N, .int .i64 gx, .int .i64 gy]] #[], .func (.func 57) #[.agg #[.int .i64 P, .int .i64 A, .int .i64 B, .int .i64 N, .int .i64 gx, .int .i64 gy]] #[]] t1)).alloc (.cells #[.int .i64 a.x, .int .i64 a.y, .bool a.far] t2)).alloc (.cells #[.int .i64 z.x, .int .i64 z.y, .bool z.far] t3)) := by
  refine ⟨⟨?_, ?_, ?_, ?_⟩, ⟨?_, ?_, ?_, ?_, ?_, ?_⟩, ⟨?_, ?_, ?_, ?_, ?_, ?_⟩, ?_⟩
  all_goals first | (simp [go_sem]; done) | skip
  repeat (first | exact Below.refl _ _ | refine Below.alloc ?_ (by simp <;> omega) _)

set_option maxHeartbeats 800000 in
set_option maxRecDepth 100000 in
theorem known_any (P A B N gx gy : Int) (a c : Pt) (ok : Bool) (w : World) (h : CvNum P A B N) (hk : OptKn P A B a c ok) : Calls Tryd.prog 40 #[.agg #[.func (.func 54) #[.agg #[.int .i64 P, .int .i64 A, .int .i64 B, .int .i64 N, .int .i64 gx, .int .i64 gy]] #[], .func (.func 55) #[.agg #[.int .i64 P, .int .i64 A, .int .i64 B, .int .i64 N, .int .i64 gx, .int .i64 gy]] #[], .func (.func 56) #[.agg #[.int .i64 P, .int .i64 A, .int .i64 B, .int .i64 N, .int .i64 gx, .int .i64 gy]] #[], .func (.func 57) #[.agg #[.int .i64 P, .int .i64 A, .int .i64 B, .int .i64 N, .int .i64 gx, .int .i64 gy]] #[]], .agg #[.int .i64 a.x, .int .i64 a.y, .bool a.far]] w fun r w' => r = .returned (.tuple #[.agg #[.int .i64 c.x, .int .i64 c.y, .bool c.far], .bool ok]) ∧ Below w.heap.size w w' := by
  have F0 := Gr2.box w P A B N gx gy a zeroP 62 27 27
  have HF := hide F0
  obtain ⟨⟨g0, g1, g2, g3⟩, ⟨p0, p1, p2, -, -, -⟩, -, -⟩ := F0
  go_enter Tryd.func40, Tryd.ntmps40
  go_wp2_with fail
  refine (has_at P A B N gx gy a h ok (by rcases hk with ⟨rfl, k, _⟩ | ⟨rfl, k, _⟩ <;> simp [k]) _).mono ?_
  rintro r w1 ⟨rfl, hw1⟩
  have P1 := HF.out.2.1.below hw1 (by simp <;> omega)
  have R1 := HF.out.2.2.1.below hw1 (by simp)
  have B1 : Hid (Below w.heap.size w w1) := HF.out.2.2.2.trans (hw1.mono (by simp <;> omega))
  clear g0 g1 g2 g3 p0 p1 p2 HF hw1
  obtain ⟨p0, p1, p2, -, -, -⟩ := P1
  obtain ⟨a0, a1, a2, b0, b1, b2⟩ := R1
  simp only [zeroP] at a0 a1 a2
  rcases hk with ⟨rfl, k, rfl⟩ | ⟨rfl, k, rfl⟩
  · go_wp2
    refine bodyPost_ret (v := .tuple #[.agg #[.int .i64 c.x, .int .i64 c.y, .bool c.far], .bool true]) (by simp [results, Tryd.results40, go_sem, a0, a1, a2]) rfl ⟨rfl, ?_⟩
    exact below_put B1.out (C := w.heap.size + 1 + 1) (by omega) c
  · go_wp2
    refine bodyPost_ret (v := .tuple #[.agg #[.int .i64 0, .int .i64 0, .bool false], .bool false]) (by simp [results, Tryd.results40, go_sem, a0, a1, a2]) rfl ⟨rfl, ?_⟩
    exact below_put B1.out (C := w.heap.size + 1 + 1) (by omega) zeroP

theorem optAt_some (P A B x t : Int) : ∃ c ok, OptAt P A B x t c ok := by
  by_cases h : ∃ z, z % 2 = t ∧ Aff P.toNat A B x z
  · obtain ⟨z, hz, k⟩ := h
    exact ⟨⟨x, z, false⟩, true, Or.inl ⟨rfl, rfl, rfl, hz, Or.inr ⟨rfl, k⟩⟩⟩
  · exact ⟨zeroP, false, Or.inr ⟨rfl, rfl, fun z hz k => h ⟨z, hz, k⟩⟩⟩

theorem at_at (P A B N gx gy x t : Int) (c : Pt) (ok : Bool) (hA : OptAt P A B x t c ok) (w : World) (hT : Tab w) (h : CvNum P A B N) (ht : t = 0 ∨ t = 1) : Calls Tryd.prog 38 #[.agg #[.func (.func 54) #[.agg #[.int .i64 P, .int .i64 A, .int .i64 B, .int .i64 N, .int .i64 gx, .int .i64 gy]] #[], .func (.func 55) #[.agg #[.int .i64 P, .int .i64 A, .int .i64 B, .int .i64 N, .int .i64 gx, .int .i64 gy]] #[], .func (.func 56) #[.agg #[.int .i64 P, .int .i64 A, .int .i64 B, .int .i64 N, .int .i64 gx, .int .i64 gy]] #[], .func (.func 57) #[.agg #[.int .i64 P, .int .i64 A, .int .i64 B, .int .i64 N, .int .i64 gx, .int .i64 gy]] #[]], .int .i64 x, .int .i64 t] w fun r w' => r = .returned (.tuple #[.agg #[.int .i64 c.x, .int .i64 c.y, .bool c.far], .bool ok]) ∧ Below w.heap.size w w' := by
  refine (gat_any P A B N gx gy x t w hT h ht).mono ?_
  rintro r w' ⟨⟨d, ok', rfl, hA'⟩, hw⟩
  refine ⟨?_, hw⟩
  rcases hA with ⟨rfl, a1, a2, a3, a4⟩ | ⟨rfl, rfl, a2⟩ <;> rcases hA' with ⟨rfl, b1, b2, b3, b4⟩ | ⟨rfl, rfl, b2⟩
  · have k1 := a4.aff a1
    have k2 := b4.aff b1
    rw [a2] at k1
    rw [b2] at k2
    obtain rfl : d = c := Pt.ext' (b2.trans a2.symm) (same_y h.pp h.p4 h.p5 k2 k1 (b3.trans a3.symm)) (b1.trans a1.symm)
    rfl
  · have k1 := a4.aff a1
    rw [a2] at k1
    exact absurd k1 (b2 _ a3)
  · have k1 := b4.aff b1
    rw [b2] at k1
    exact absurd k1 (a2 _ b3)
  · rfl

end Go.Proofs.YtnhemiaklkkilaaDoor
