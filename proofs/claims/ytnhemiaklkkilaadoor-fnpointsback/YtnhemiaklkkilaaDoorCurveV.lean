/- Walks: PointMul of the program. -/
import Derived.Test.YtnhemiaklkkilaaDoorCurveU
namespace Go.Proofs.YtnhemiaklkkilaaDoor
set_option linter.unusedVariables false
open Go.RowKit

theorem Fr2.drew {w wr : World} {P A B N gx gy : Int} {a z : Pt} (h : Fr2 w wr P A B N gx gy a z) : Fr2 w wr.drew P A B N gx gy a z :=
  ⟨⟨h.cv.c0, h.cv.c1, h.cv.c2, h.cv.c3, h.cv.c4, h.cv.c5⟩, ⟨h.pa.c0, h.pa.c1, h.pa.c2, h.pa.f0, h.pa.f1, h.pa.f2⟩, ⟨h.rs.c0, h.rs.c1, h.rs.c2, h.rs.f0, h.rs.f1, h.rs.f2⟩, h.below.drew, h.big⟩

theorem groupOf_at (P A B N gx gy : Int) (w : World) : Calls Tryd.prog 32 #[.agg #[.int .i64 P, .int .i64 A, .int .i64 B, .int .i64 N, .int .i64 gx, .int .i64 gy]] w fun r w' => r = .returned (.agg #[.func (.func 54) #[.agg #[.int .i64 P, .int .i64 A, .int .i64 B, .int .i64 N, .int .i64 gx, .int .i64 gy]] #[], .func (.func 55) #[.agg #[.int .i64 P, .int .i64 A, .int .i64 B, .int .i64 N, .int .i64 gx, .int .i64 gy]] #[], .func (.func 56) #[.agg #[.int .i64 P, .int .i64 A, .int .i64 B, .int .i64 N, .int .i64 gx, .int .i64 gy]] #[], .func (.func 57) #[.agg #[.int .i64 P, .int .i64 A, .int .i64 B, .int .i64 N, .int .i64 gx, .int .i64 gy]] #[]]) ∧ Below w.heap.size w w' := groupOf_any P A B N gx gy w

set_option maxHeartbeats 1600000 in
theorem implPointMul_any (P A B N gx gy n : Int) (a : Pt) (w : World) (hP1 : P ≤ 9223372036854775807) (hN1 : N ≤ 9223372036854775807) :
    Calls Tryd.prog 15 #[.agg #[.int .i64 P, .int .i64 A, .int .i64 B, .int .i64 N, .int .i64 gx, .int .i64 gy], .int .i64 n, .agg #[.int .i64 a.x, .int .i64 a.y, .bool a.far]] w fun r w' => GivesPt (MulQ P A B N gx gy n a) (mulF P.toNat A n.toNat a) r ∧ Below w.heap.size w w' := by
  go_enter Tryd.func15, Tryd.ntmps15
  go_wp2_with fail
  refine (foldOk_any n _).mono ?_
  rintro r w' ⟨rfl, hw⟩
  subst hw
  by_cases c : 0 ≤ n ∧ n ≤ 1099511627776
  rotate_left
  · have Hn : Hid (¬ MulQ P A B N gx gy n a) := fun k => c ⟨k.2.2.1, k.2.2.2⟩
    rw [show (decide (0 ≤ n) && decide (n ≤ 1099511627776)) = false by simp; omega]
    clear c
    go_wp2
    refine bodyPost_ret (v := .tuple #[.agg #[.int .i64 0, .int .i64 0, .bool false], .bool false]) (by simp [results, Tryd.results15, go_sem]) rfl ⟨givesPt_no Hn.out, ?_⟩
    repeat (first | exact Below.refl _ _ | refine Below.setCell ?_ (by simp <;> omega) _ | refine Below.alloc ?_ (by simp <;> omega) _)
  rw [show (decide (0 ≤ n) && decide (n ≤ 1099511627776)) = true by simp; omega]
  obtain ⟨c0, c1⟩ := c
  go_wp2_with fail
  refine (implPointOk_any P A B N gx gy a _ hP1 hN1).mono ?_
  rintro r w1 ⟨⟨ok, rfl, h1⟩, hw1⟩
  have F1 := (Fr2.box w P A B N gx gy a zeroP 25 27 27).call hw1
  have HF1 := hide F1
  clear hw1
  obtain ⟨⟨k0, k1, k2, k3, k4, k5⟩, ⟨a0, a1, a2, -, -, -⟩, ⟨r0, r1, r2, q0, q1, q2⟩, -, -⟩ := F1
  cases ok
  · have Hn : Hid (¬ MulQ P A B N gx gy n a) := fun k => by simpa using h1.2 ⟨k.1, k.2.1⟩
    clear h1
    go_wp2
    refine bodyPost_ret (v := .tuple #[.agg #[.int .i64 0, .int .i64 0, .bool false], .bool false]) (by simp [results, Tryd.results15, go_sem, r0, r1, r2]) rfl ⟨givesPt_no Hn.out, ?_⟩
    exact below_put HF1.out.below (C := w.heap.size + 1 + 1) (by omega) zeroP
  have Hc := hide (h1.1 rfl)
  clear h1
  obtain ⟨G, hG⟩ : ∃ G, mulF P.toNat A n.toNat a = G := ⟨_, rfl⟩
  have HG : Hid (GivesPt (MulQ P A B N gx gy n a) (mulF P.toNat A n.toNat a) (.returned (.tuple #[ptV G, .bool true]))) := by rw [← hG]; exact givesPt_yes ⟨Hc.out.1, Hc.out.2, c0, c1⟩
  have HD : Hid (∀ W : World, Calls Tryd.prog 34 #[.agg #[.func (.func 54) #[.agg #[.int .i64 P, .int .i64 A, .int .i64 B, .int .i64 N, .int .i64 gx, .int .i64 gy]] #[], .func (.func 55) #[.agg #[.int .i64 P, .int .i64 A, .int .i64 B, .int .i64 N, .int .i64 gx, .int .i64 gy]] #[], .func (.func 56) #[.agg #[.int .i64 P, .int .i64 A, .int .i64 B, .int .i64 N, .int .i64 gx, .int .i64 gy]] #[], .func (.func 57) #[.agg #[.int .i64 P, .int .i64 A, .int .i64 B, .int .i64 N, .int .i64 gx, .int .i64 gy]] #[]], .int .i64 n, .agg #[.int .i64 a.x, .int .i64 a.y, .bool a.far]] W fun r w' => r = .returned (.agg #[.int .i64 G.x, .int .i64 G.y, .bool G.far]) ∧ Below W.heap.size W w') := fun W => by
    have := fold_at P A B N gx gy n a Hc.out.1.num Hc.out.2 c0 (by omega) W
    rw [hG] at this
    exact this
  clear hG
  go_wp2
  go_region_with (first
    | (go_at_call 32; refine (groupOf_at P A B N gx gy _).mono ?_; rintro r w5 ⟨rfl, hw5⟩; obtain ⟨⟨k0, k1, k2, k3, k4, k5⟩, ⟨a0, a1, a2, -, -, -⟩, ⟨r0, r1, r2, q0, q1, q2⟩, -, -⟩ := HF1.out.drew.call hw5)
    | (go_at_call 34; refine (HD.out _).mono ?_; rintro r w6 ⟨rfl, hw6⟩; obtain ⟨⟨k0, k1, k2, k3, k4, k5⟩, ⟨a0, a1, a2, -, -, -⟩, ⟨r0, r1, r2, q0, q1, q2⟩, -, -⟩ := (HF1.out.drew.call hw5).call hw6))
  all_goals go_wp2
  all_goals
    refine bodyPost_ret (v := .tuple #[.agg #[.int .i64 G.x, .int .i64 G.y, .bool G.far], .bool true]) (by simp [results, Tryd.results15, go_sem, r0, r1, r2]) rfl ⟨HG.out, ?_⟩
    exact below_put ((HF1.out.drew.call hw5).call hw6).below (C := w.heap.size + 1 + 1) (by omega) G

end Go.Proofs.YtnhemiaklkkilaaDoor
