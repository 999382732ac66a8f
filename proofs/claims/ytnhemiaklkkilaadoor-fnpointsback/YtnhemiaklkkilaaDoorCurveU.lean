/- Walks: PointOk, PointAdd and PointMul of the program. -/
import Derived.Test.YtnhemiaklkkilaaDoorCurveQ
import Derived.Deep.RegionHeld3
namespace Go.Proofs.YtnhemiaklkkilaaDoor
set_option linter.unusedVariables false
open Go.RowKit

theorem exists_bool (Q : Prop) : ∃ ok : Bool, ok = true ↔ Q := by
  by_cases h : Q
  · exact ⟨true, ⟨fun _ => h, fun _ => rfl⟩⟩
  · exact ⟨false, ⟨fun k => by simp at k, fun k => absurd k h⟩⟩

theorem implCurveOk_at (P A B N gx gy : Int) (hP1 : P ≤ 9223372036854775807) (hN1 : N ≤ 9223372036854775807) (ok : Bool) (hk : ok = true ↔ CvOk P A B N gx gy) (w : World) : Calls Tryd.prog 11 #[.agg #[.int .i64 P, .int .i64 A, .int .i64 B, .int .i64 N, .int .i64 gx, .int .i64 gy]] w fun r w' => r = .returned (.bool ok) ∧ Below w.heap.size w w' := by
  refine (implCurveOk_any P A B N gx gy w hP1 hN1).mono ?_
  rintro r w' ⟨⟨k, rfl, hk'⟩, hw⟩
  refine ⟨?_, hw⟩
  have : k = ok := by rw [Bool.eq_iff_iff, hk', hk]
  rw [this]

set_option maxHeartbeats 800000 in
set_option maxRecDepth 100000 in
theorem implPointOk_any (P A B N gx gy : Int) (a : Pt) (w : World) (hP1 : P ≤ 9223372036854775807) (hN1 : N ≤ 9223372036854775807) : Calls Tryd.prog 12 #[.agg #[.int .i64 P, .int .i64 A, .int .i64 B, .int .i64 N, .int .i64 gx, .int .i64 gy], .agg #[.int .i64 a.x, .int .i64 a.y, .bool a.far]] w fun r w' => GivesOk P A B N gx gy a r ∧ Below w.heap.size w w' := by
  have hfd : ∀ w : World, (Instr.field 62 (.agg #[.func (.func 54) #[.agg #[.int .i64 P, .int .i64 A, .int .i64 B, .int .i64 N, .int .i64 gx, .int .i64 gy]] #[], .func (.func 55) #[.agg #[.int .i64 P, .int .i64 A, .int .i64 B, .int .i64 N, .int .i64 gx, .int .i64 gy]] #[], .func (.func 56) #[.agg #[.int .i64 P, .int .i64 A, .int .i64 B, .int .i64 N, .int .i64 gx, .int .i64 gy]] #[], .func (.func 57) #[.agg #[.int .i64 P, .int .i64 A, .int .i64 B, .int .i64 N, .int .i64 gx, .int .i64 gy]] #[]]) 0).run Tryd.prog w = .ok (.func (.func 54) #[.agg #[.int .i64 P, .int .i64 A, .int .i64 B, .int .i64 N, .int .i64 gx, .int .i64 gy]] #[]) w := fun _ => by kernel_rfl
  have K := (CvAt.alloc w P A B N gx gy 25).below (w' := (w.alloc (.cells #[.int .i64 P, .int .i64 A, .int .i64 B, .int .i64 N, .int .i64 gx, .int .i64 gy] 25)).alloc (.cells #[.int .i64 a.x, .int .i64 a.y, .bool a.far] 27)) ((Below.refl _ _).alloc (Nat.le_refl _) _) (by simp)
  have F := PtAt.alloc (w.alloc (.cells #[.int .i64 P, .int .i64 A, .int .i64 B, .int .i64 N, .int .i64 gx, .int .i64 gy] 25)) a 27
  rw [World.size_alloc] at F
  obtain ⟨a0, a1, a2, -, -, -⟩ := F
  obtain ⟨k0, k1, k2, k3, k4, k5⟩ := K
  have e0 := cell_regrown k0
  have e1 := cell_regrown k1
  have e2 := cell_regrown k2
  have e3 := cell_regrown k3
  have e4 := cell_regrown k4
  have e5 := cell_regrown k5
  have f0 := cell_regrown a0
  have f1 := cell_regrown a1
  have f2 := cell_regrown a2
  clear k0 k1 k2 k3 k4 k5 a0 a1 a2
  have HG : Hid (∀ (W : World) d os, Calls Tryd.prog 32 #[.agg #[.int .i64 P, .int .i64 A, .int .i64 B, .int .i64 N, .int .i64 gx, .int .i64 gy]] (Sort.grow (redrawn W d) os) fun e w'' => e = .returned (.agg #[.func (.func 54) #[.agg #[.int .i64 P, .int .i64 A, .int .i64 B, .int .i64 N, .int .i64 gx, .int .i64 gy]] #[], .func (.func 55) #[.agg #[.int .i64 P, .int .i64 A, .int .i64 B, .int .i64 N, .int .i64 gx, .int .i64 gy]] #[], .func (.func 56) #[.agg #[.int .i64 P, .int .i64 A, .int .i64 B, .int .i64 N, .int .i64 gx, .int .i64 gy]] #[], .func (.func 57) #[.agg #[.int .i64 P, .int .i64 A, .int .i64 B, .int .i64 N, .int .i64 gx, .int .i64 gy]] #[]]) ∧ ∃ p : Regrown, w'' = Sort.grow (redrawn W p.d) p.os) := fun W d os => Calls.regrown_of (groupOf_any P A B N gx gy _)
  by_cases hc : CvOk P A B N gx gy
  rotate_left
  · have HF : Hid (GivesOk P A B N gx gy a (.returned (.bool false))) := ⟨false, rfl, ⟨fun h => by simp at h, fun h => absurd h.1 hc⟩⟩
    have HC : Hid (∀ (W : World) d os, Calls Tryd.prog 11 #[.agg #[.int .i64 P, .int .i64 A, .int .i64 B, .int .i64 N, .int .i64 gx, .int .i64 gy]] (Sort.grow (redrawn W d) os) fun e w'' => e = .returned (.bool false) ∧ ∃ p : Regrown, w'' = Sort.grow (redrawn W p.d) p.os) := fun W d os => Calls.regrown_of (implCurveOk_at P A B N gx gy hP1 hN1 false ⟨fun h => by simp at h, fun h => absurd h hc⟩ _)
    clear hc
    go_enter Tryd.func12, Tryd.ntmps12
    go_wp2
    refine wp_region_quiet_below (by kernel_rfl) (by kernel_rfl) ?_
    repeat (first | go_big_quiet_step ((go_at_call 11; exact HC.out _ _ _)) | quiet_step ((go_at_call 11; exact HC.out _ _ _)))
    refine wpQuiet_nil ?_
    intro _ hw'
    obtain ⟨⟨dq, osq⟩, hw''⟩ := hw'
    subst hw''
    go_wp2
    go_ret
    exact ⟨HF.out, below_re (((Below.refl _ _).alloc (Nat.le_refl _) _).alloc (by simp) _) (by simp <;> omega) _ _⟩
  have HC : Hid (∀ (W : World) d os, Calls Tryd.prog 11 #[.agg #[.int .i64 P, .int .i64 A, .int .i64 B, .int .i64 N, .int .i64 gx, .int .i64 gy]] (Sort.grow (redrawn W d) os) fun e w'' => e = .returned (.bool true) ∧ ∃ p : Regrown, w'' = Sort.grow (redrawn W p.d) p.os) := fun W d os => Calls.regrown_of (implCurveOk_at P A B N gx gy hP1 hN1 true ⟨fun _ => hc, fun _ => rfl⟩ _)
  obtain ⟨ok, hok⟩ := exists_bool (On P.toNat A B a)
  have HF : Hid (GivesOk P A B N gx gy a (.returned (.bool ok))) := ⟨ok, rfl, by rw [hok]; exact ⟨fun h => ⟨hc, h⟩, fun h => h.2⟩⟩
  have HH : Hid (∀ (W : World) d os, Calls Tryd.prog 54 #[.agg #[.int .i64 P, .int .i64 A, .int .i64 B, .int .i64 N, .int .i64 gx, .int .i64 gy], .agg #[.int .i64 a.x, .int .i64 a.y, .bool a.far]] (Sort.grow (redrawn W d) os) fun e w'' => e = .returned (.bool ok) ∧ ∃ p : Regrown, w'' = Sort.grow (redrawn W p.d) p.os) := fun W d os => Calls.regrown_of (has_at P A B N gx gy a hc.num ok hok _)
  clear hc hok
  go_enter Tryd.func12, Tryd.ntmps12
  go_wp2
  refine wp_region_quiet_below (by kernel_rfl) (by kernel_rfl) ?_
  repeat (first | go_big_quiet_step (first | (go_at_call 11; exact HC.out _ _ _) | (go_at_call 32; exact HG.out _ _ _) | (go_at_call 54; exact HH.out _ _ _)) | quiet_step (first | (go_at_call 11; exact HC.out _ _ _) | (go_at_call 32; exact HG.out _ _ _) | (go_at_call 54; exact HH.out _ _ _)))
  refine wpQuiet_nil ?_
  intro _ hw'
  obtain ⟨⟨dq, osq⟩, hw''⟩ := hw'
  subst hw''
  go_wp2
  go_ret
  exact ⟨HF.out, below_re (((Below.refl _ _).alloc (Nat.le_refl _) _).alloc (by simp) _) (by simp <;> omega) _ _⟩

set_option maxHeartbeats 1600000 in
theorem implPointAdd_any (P A B N gx gy : Int) (a b : Pt) (w : World) (hP1 : P ≤ 9223372036854775807) (hN1 : N ≤ 9223372036854775807) :
    Calls Tryd.prog 13 #[.agg #[.int .i64 P, .int .i64 A, .int .i64 B, .int .i64 N, .int .i64 gx, .int .i64 gy], .agg #[.int .i64 a.x, .int .i64 a.y, .bool a.far], .agg #[.int .i64 b.x, .int .i64 b.y, .bool b.far]] w fun r w' => GivesPt (AddQ P A B N gx gy a b) (addF P.toNat A a b) r ∧ Below w.heap.size w w' := by
  go_enter Tryd.func13, Tryd.ntmps13
  go_wp2_with fail
  refine (groupOf_any P A B N gx gy _).mono ?_
  rintro r w1 ⟨rfl, hw1⟩
  have F1 := (Fr3.box w P A B N gx gy a b zeroP 25 27 27 27).call hw1
  have hn : Below w1.heap.size w1 (w1.alloc (.cells #[.func (.func 54) #[.agg #[.int .i64 P, .int .i64 A, .int .i64 B, .int .i64 N, .int .i64 gx, .int .i64 gy]] #[], .func (.func 55) #[.agg #[.int .i64 P, .int .i64 A, .int .i64 B, .int .i64 N, .int .i64 gx, .int .i64 gy]] #[], .func (.func 56) #[.agg #[.int .i64 P, .int .i64 A, .int .i64 B, .int .i64 N, .int .i64 gx, .int .i64 gy]] #[], .func (.func 57) #[.agg #[.int .i64 P, .int .i64 A, .int .i64 B, .int .i64 N, .int .i64 gx, .int .i64 gy]] #[]] 62)) := (Below.refl _ _).alloc (Nat.le_refl _) _
  have F2 := F1.call hn
  have G2 := GrpAt.alloc w1 P A B N gx gy 62
  have HF2 := hide F2
  have HG2 := hide G2
  have hbig := F1.big
  clear hw1 hn F1
  obtain ⟨⟨k0, k1, k2, k3, k4, k5⟩, ⟨a0, a1, a2, -, -, -⟩, ⟨b0, b1, b2, -, -, -⟩, ⟨r0, r1, r2, q0, q1, q2⟩, -, -⟩ := F2
  obtain ⟨g0, g1, g2, g3⟩ := G2
  simp only [grpV, cvV]
  go_wp2_with fail
  refine (implCurveOk_any P A B N gx gy _ hP1 hN1).mono ?_
  rintro r w3 ⟨⟨ok, rfl, h1⟩, hw3⟩
  have F3 := HF2.out.call hw3
  have G3 := HG2.out.below hw3 (by simp)
  have HF3 := hide F3
  have HG3 := hide G3
  have hS : w1.heap.size < w3.heap.size := by have := hw3.size; simp at this; omega
  clear hw3 HF2 HG2 k0 k1 k2 k3 k4 k5 a0 a1 a2 b0 b1 b2 r0 r1 r2 q0 q1 q2 g0 g1 g2 g3
  obtain ⟨⟨k0, k1, k2, k3, k4, k5⟩, ⟨a0, a1, a2, -, -, -⟩, ⟨b0, b1, b2, -, -, -⟩, ⟨r0, r1, r2, q0, q1, q2⟩, -, -⟩ := F3
  obtain ⟨g0, g1, g2, g3⟩ := G3
  generalize w1.heap.size = S at *
  cases ok
  · have Hn : Hid (¬ AddQ P A B N gx gy a b) := fun k => by simpa using h1.2 k.1
    clear h1
    go_wp2
    refine bodyPost_ret (v := .tuple #[.agg #[.int .i64 0, .int .i64 0, .bool false], .bool false]) (by simp [results, Tryd.results13, go_sem, r0, r1, r2]) rfl ⟨givesPt_no Hn.out, ?_⟩
    exact below_put HF3.out.below (C := w.heap.size + 1 + 1 + 1) (by omega) zeroP
  have Hc := hide (h1.1 rfl)
  clear h1
  go_wp2_with fail
  refine (has_any P A B N gx gy a _ Hc.out.p5 Hc.out.pM Hc.out.a0 Hc.out.a1 Hc.out.b0 Hc.out.b1).mono ?_
  rintro r w4 ⟨⟨ok, rfl, h2⟩, hw4⟩
  have F4 := HF3.out.call hw4
  have G4 := HG3.out.below hw4 hS
  have HF4 := hide F4
  have HG4 := hide G4
  have hS4 : S < w4.heap.size := by have := hw4.size; omega
  clear hw4 HF3 HG3 hS k0 k1 k2 k3 k4 k5 a0 a1 a2 b0 b1 b2 r0 r1 r2 q0 q1 q2 g0 g1 g2 g3
  obtain ⟨⟨k0, k1, k2, k3, k4, k5⟩, ⟨a0, a1, a2, -, -, -⟩, ⟨b0, b1, b2, -, -, -⟩, ⟨r0, r1, r2, q0, q1, q2⟩, -, -⟩ := F4
  obtain ⟨g0, g1, g2, g3⟩ := G4
  cases ok
  · have Hn : Hid (¬ AddQ P A B N gx gy a b) := fun k => by simpa using h2.2 k.2.1
    clear h2
    go_wp2
    refine bodyPost_ret (v := .tuple #[.agg #[.int .i64 0, .int .i64 0, .bool false], .bool false]) (by simp [results, Tryd.results13, go_sem, r0, r1, r2]) rfl ⟨givesPt_no Hn.out, ?_⟩
    exact below_put HF4.out.below (C := w.heap.size + 1 + 1 + 1) (by omega) zeroP
  have Ha := hide (h2.1 rfl)
  clear h2
  go_wp2_with fail
  refine (has_any P A B N gx gy b _ Hc.out.p5 Hc.out.pM Hc.out.a0 Hc.out.a1 Hc.out.b0 Hc.out.b1).mono ?_
  rintro r w5 ⟨⟨ok, rfl, h3⟩, hw5⟩
  have F5 := HF4.out.call hw5
  have G5 := HG4.out.below hw5 hS4
  have HF5 := hide F5
  clear hw5 HF4 HG4 hS4 k0 k1 k2 k3 k4 k5 a0 a1 a2 b0 b1 b2 r0 r1 r2 q0 q1 q2 g0 g1 g2 g3
  obtain ⟨⟨k0, k1, k2, k3, k4, k5⟩, ⟨a0, a1, a2, -, -, -⟩, ⟨b0, b1, b2, -, -, -⟩, ⟨r0, r1, r2, q0, q1, q2⟩, -, -⟩ := F5
  obtain ⟨g0, g1, g2, g3⟩ := G5
  cases ok
  · have Hn : Hid (¬ AddQ P A B N gx gy a b) := fun k => by simpa using h3.2 k.2.2
    clear h3
    go_wp2
    refine bodyPost_ret (v := .tuple #[.agg #[.int .i64 0, .int .i64 0, .bool false], .bool false]) (by simp [results, Tryd.results13, go_sem, r0, r1, r2]) rfl ⟨givesPt_no Hn.out, ?_⟩
    exact below_put HF5.out.below (C := w.heap.size + 1 + 1 + 1) (by omega) zeroP
  have Hb := hide (h3.1 rfl)
  clear h3
  go_wp2_with fail
  refine (add_at P A B N gx gy a b Hc.out.num Ha.out Hb.out _).mono ?_
  rintro r w6 ⟨rfl, hw6⟩
  have F6 := HF5.out.call hw6
  have HF6 := hide F6
  obtain ⟨G, hG⟩ : ∃ G, addF P.toNat A a b = G := ⟨_, rfl⟩
  have HG : Hid (GivesPt (AddQ P A B N gx gy a b) (addF P.toNat A a b) (.returned (.tuple #[ptV G, .bool true]))) := by rw [← hG]; exact givesPt_yes ⟨Hc.out, Ha.out, Hb.out⟩
  rw [hG]
  clear hG hw6 HF5 k0 k1 k2 k3 k4 k5 a0 a1 a2 b0 b1 b2 r0 r1 r2 q0 q1 q2 g0 g1 g2 g3
  obtain ⟨-, -, -, ⟨r0, r1, r2, q0, q1, q2⟩, -, -⟩ := F6
  simp only [ptV]
  go_wp2
  refine bodyPost_ret (v := .tuple #[.agg #[.int .i64 G.x, .int .i64 G.y, .bool G.far], .bool true]) (by simp [results, Tryd.results13, go_sem, r0, r1, r2]) rfl ⟨HG.out, ?_⟩
  exact below_put HF6.out.below (C := w.heap.size + 1 + 1 + 1) (by omega) G

end Go.Proofs.YtnhemiaklkkilaaDoor
