/- Walks: add of a twisted curve of the program. -/
import Derived.Test.YtejlgcnhfomadabDoorEdH
namespace Go.Proofs.YtejlgcnhfomadabDoor
set_option linter.unusedVariables false
open Go.RowKit

theorem quotient_ext (p : Nat) (a b : Int) (w : World) (hpr : Prime p) (p5 : 5 ≤ p) (pM : p ≤ 1048576) (a0 : -9223372036854775808 ≤ a) (a1 : a ≤ 9223372036854775807) (b0 : -9223372036854775808 ≤ b) (b1 : b ≤ 9223372036854775807) : Calls Tryd.prog 98 #[.int .i64 a, .int .i64 b, .int .i64 p] w fun r w' => r = .returned (.int .i64 (a % p * iv p b % p)) ∧ Ext w w' :=
  quotient_bel p a b w hpr p5 pM a0 a1 b0 b1

set_option maxHeartbeats 1600000 in
set_option maxRecDepth 100000 in
theorem addE_prog (p : Nat) (D L bx cy : Int) (a b : Pr) (w : World) (hpr : Prime p) (p5 : 5 ≤ p) (pM : p ≤ 1048576) (hD0 : 0 ≤ D) (hD : D ≤ 1048576) (ha : InE p a) (hb : InE p b) :
    Calls Tryd.prog 80 #[.agg #[.int .i64 (p : Int), .int .i64 D, .int .i64 L, .int .i64 bx, .int .i64 cy], .agg #[.int .i64 a.x, .int .i64 a.y], .agg #[.int .i64 b.x, .int .i64 b.y]] w fun r w' => r = .returned (.agg #[.int .i64 (addE p D a b).x, .int .i64 (addE p D a b).y]) ∧ Ext w w' := by
  obtain ⟨x1, y1⟩ := a
  obtain ⟨x2, y2⟩ := b
  obtain ⟨a0, a1, a2, a3⟩ := ha
  obtain ⟨b0, b1, b2, b3⟩ := hb
  simp only at a0 a1 a2 a3 b0 b1 b2 b3 ⊢
  have pp : (0 : Int) < p := by omega
  have hM : (p : Int) ≤ 1048576 := by omega
  obtain ⟨m, hm⟩ : ∃ m, m = D * (x1 * x2 % p) % p * (y1 * y2 % p) % p := ⟨_, rfl⟩
  have HV := hide (addE_model p D x1 y1 x2 y2 m hm)
  obtain ⟨q1, q2⟩ := mulBd a0 (show x1 ≤ 1048576 by omega) b0 (show x2 ≤ 1048576 by omega)
  obtain ⟨q3, q4⟩ := mulBd a2 (show y1 ≤ 1048576 by omega) b2 (show y2 ≤ 1048576 by omega)
  obtain ⟨q5, q6⟩ := mulBd a0 (show x1 ≤ 1048576 by omega) b2 (show y2 ≤ 1048576 by omega)
  obtain ⟨q7, q8⟩ := mulBd a2 (show y1 ≤ 1048576 by omega) b0 (show x2 ≤ 1048576 by omega)
  have u0 := Int.emod_nonneg (x1 * x2) (show (p : Int) ≠ 0 by omega)
  have u1 := Int.emod_lt_of_pos (x1 * x2) pp
  have v0 := Int.emod_nonneg (y1 * y2) (show (p : Int) ≠ 0 by omega)
  have v1 := Int.emod_lt_of_pos (y1 * y2) pp
  have m0 : 0 ≤ m := by rw [hm]; exact Int.emod_nonneg _ (by omega)
  have m1 : m < p := by rw [hm]; exact Int.emod_lt_of_pos _ pp
  have HT : Hid (∀ (W : World) d os, Calls Tryd.prog 97 #[.agg #[.int .i64 (p : Int), .int .i64 D, .int .i64 L, .int .i64 bx, .int .i64 cy], .int .i64 (x1 * x2 % p), .int .i64 (y1 * y2 % p)] (Sort.grow (redrawn W d) os) fun e w'' => e = .returned (.int .i64 m) ∧ ∃ p : Regrown, w'' = Sort.grow (redrawn W p.d) p.os) := fun W d os => Calls.regrown_of (by have := twisted_any p D L bx cy (x1 * x2 % p) (y1 * y2 % p) (Sort.grow (redrawn W d) os) (by omega) hM hD0 hD u0 u1 v0 v1; rw [← hm] at this; exact this)
  clear hm
  obtain ⟨A1, hA1⟩ : ∃ A1, 1 + m = A1 := ⟨_, rfl⟩
  obtain ⟨A2, hA2⟩ : ∃ A2, 1 - m = A2 := ⟨_, rfl⟩
  rw [hA1, hA2, ← Int.add_emod] at HV
  obtain ⟨U, hU⟩ : ∃ U, x1 * y2 + y1 * x2 = U := ⟨_, rfl⟩
  obtain ⟨S, hS⟩ : ∃ S, y1 * y2 + x1 * x2 = S := ⟨_, rfl⟩
  rw [hU, hS] at HV
  have HQ1 : Hid (∀ w : World, Calls Tryd.prog 98 #[.int .i64 U, .int .i64 A1, .int .i64 (p : Int)] w fun e w' => e = .returned (.int .i64 (U % p * iv p A1 % p)) ∧ Ext w w') := fun w => quotient_ext p U A1 w hpr p5 pM (by omega) (by omega) (by omega) (by omega)
  have HQ2 : Hid (∀ w : World, Calls Tryd.prog 98 #[.int .i64 S, .int .i64 A2, .int .i64 (p : Int)] w fun e w' => e = .returned (.int .i64 (S % p * iv p A2 % p)) ∧ Ext w w') := fun w => quotient_ext p S A2 w hpr p5 pM (by omega) (by omega) (by omega) (by omega)
  generalize U % (p : Int) * iv p A1 % p = e1 at *
  generalize S % (p : Int) * iv p A2 % p = e2 at *
  have rA : IntKind.i64.wrap (1 + m) = A1 := by rw [IntKind.wrap_i64]; omega
  have rA' : wrap64 (1 + m) = A1 := by unfold wrap64; omega
  have rB : IntKind.i64.wrap (1 - m) = A2 := by rw [IntKind.wrap_i64]; omega
  have rB' : wrap64 (1 - m) = A2 := by unfold wrap64; omega
  have rC : IntKind.i64.wrap (x1 * y2) = x1 * y2 := by rw [IntKind.wrap_i64]; omega
  have rC' : wrap64 (x1 * y2) = x1 * y2 := by unfold wrap64; omega
  have rD : IntKind.i64.wrap (y1 * x2) = y1 * x2 := by rw [IntKind.wrap_i64]; omega
  have rD' : wrap64 (y1 * x2) = y1 * x2 := by unfold wrap64; omega
  have rE : IntKind.i64.wrap (x1 * y2 + y1 * x2) = U := by rw [IntKind.wrap_i64]; omega
  have rE' : wrap64 (x1 * y2 + y1 * x2) = U := by unfold wrap64; omega
  have rF : IntKind.i64.wrap (y1 * y2) = y1 * y2 := by rw [IntKind.wrap_i64]; omega
  have rF' : wrap64 (y1 * y2) = y1 * y2 := by unfold wrap64; omega
  have rG : IntKind.i64.wrap (x1 * x2) = x1 * x2 := by rw [IntKind.wrap_i64]; omega
  have rG' : wrap64 (x1 * x2) = x1 * x2 := by unfold wrap64; omega
  have rH : IntKind.i64.wrap (y1 * y2 + x1 * x2) = S := by rw [IntKind.wrap_i64]; omega
  have rH' : wrap64 (y1 * y2 + x1 * x2) = S := by unfold wrap64; omega
  clear hA1 hA2 hU hS
  have pn : ¬ p = 0 := by omega
  go_enter Tryd.func80, Tryd.ntmps80
  go_wp2
  have B1 := Blk.below (Blk.alloc w [.int .i64 (p : Int), .int .i64 D, .int .i64 L, .int .i64 bx, .int .i64 cy] 48) (w' := ((((w.alloc (.cells #[.int .i64 (p : Int), .int .i64 D, .int .i64 L, .int .i64 bx, .int .i64 cy] 48)).alloc (.cells #[.int .i64 x1, .int .i64 y1] 54)).alloc (.cells #[.int .i64 x2, .int .i64 y2] 54)).alloc (.cells #[.int .i64 0, .int .i64 0] 54))) (S := w.heap.size + 1) (Below.alloc (Below.alloc ((Below.refl _ _).alloc (by simp) _) (by simp) _) (by simp) _) (by omega)
  have B2 := Blk.below (Blk.alloc (w.alloc (.cells #[.int .i64 (p : Int), .int .i64 D, .int .i64 L, .int .i64 bx, .int .i64 cy] 48)) [.int .i64 x1, .int .i64 y1] 54) (w' := ((((w.alloc (.cells #[.int .i64 (p : Int), .int .i64 D, .int .i64 L, .int .i64 bx, .int .i64 cy] 48)).alloc (.cells #[.int .i64 x1, .int .i64 y1] 54)).alloc (.cells #[.int .i64 x2, .int .i64 y2] 54)).alloc (.cells #[.int .i64 0, .int .i64 0] 54))) (S := w.heap.size + 1 + 1) (Below.alloc ((Below.refl _ _).alloc (by simp) _) (by simp) _) (by simp)
  have B3 := Blk.below (Blk.alloc ((w.alloc (.cells #[.int .i64 (p : Int), .int .i64 D, .int .i64 L, .int .i64 bx, .int .i64 cy] 48)).alloc (.cells #[.int .i64 x1, .int .i64 y1] 54)) [.int .i64 x2, .int .i64 y2] 54) (w' := ((((w.alloc (.cells #[.int .i64 (p : Int), .int .i64 D, .int .i64 L, .int .i64 bx, .int .i64 cy] 48)).alloc (.cells #[.int .i64 x1, .int .i64 y1] 54)).alloc (.cells #[.int .i64 x2, .int .i64 y2] 54)).alloc (.cells #[.int .i64 0, .int .i64 0] 54))) (S := w.heap.size + 1 + 1 + 1) ((Below.refl _ _).alloc (by simp) _) (by simp)
  simp only [World.size_alloc] at B2 B3
  have k0 := cell_regrown (B1 0 _ rfl).1
  have k1 := cell_regrown (B1 1 _ rfl).1
  have k2 := cell_regrown (B1 2 _ rfl).1
  have k3 := cell_regrown (B1 3 _ rfl).1
  have k4 := cell_regrown (B1 4 _ rfl).1
  have f0 := cell_regrown (B2 0 _ rfl).1
  have g0 := cell_regrown (B3 0 _ rfl).1
  have f1 := cell_regrown (B2 1 _ rfl).1
  have g1 := cell_regrown (B3 1 _ rfl).1
  clear B1 B2 B3
  refine wp_region_quiet_below (by kernel_rfl) (by kernel_rfl) ?_
  repeat (first | go_big_quiet_step ((go_at_call 97; exact HT.out _ _ _)) | quiet_step ((go_at_call 97; exact HT.out _ _ _)))
  refine wpQuiet_nil ?_
  intro _ hw'
  obtain ⟨⟨dq, osq⟩, hw''⟩ := hw'
  subst hw''
  clear k0 k1 k2 k3 k4 f0 f1 g0 g1
  have hVE := below_regrown ((((w.alloc (.cells #[.int .i64 (p : Int), .int .i64 D, .int .i64 L, .int .i64 bx, .int .i64 cy] 48)).alloc (.cells #[.int .i64 x1, .int .i64 y1] 54)).alloc (.cells #[.int .i64 x2, .int .i64 y2] 54)).alloc (.cells #[.int .i64 0, .int .i64 0] 54)) dq osq
  generalize Sort.grow (redrawn ((((w.alloc (.cells #[.int .i64 (p : Int), .int .i64 D, .int .i64 L, .int .i64 bx, .int .i64 cy] 48)).alloc (.cells #[.int .i64 x1, .int .i64 y1] 54)).alloc (.cells #[.int .i64 x2, .int .i64 y2] 54)).alloc (.cells #[.int .i64 0, .int .i64 0] 54)) dq) osq = w2 at *
  obtain ⟨B1, B2, B3, B4, hE, hz⟩ := box4 w [.int .i64 (p : Int), .int .i64 D, .int .i64 L, .int .i64 bx, .int .i64 cy] [.int .i64 x1, .int .i64 y1] [.int .i64 x2, .int .i64 y2] [.int .i64 0, .int .i64 0] 48 54 54 54 hVE
  clear hVE
  go_wp2
  obtain ⟨X, hX⟩ : ∃ X : Nat → Prop, X = fun k => w.heap.size + 3 ≤ k := ⟨_, rfl⟩
  have x0 : ∀ k, k < w.heap.size + 3 → ¬ X k := fun k h => by rw [hX]; simp; omega
  have xC : X (w.heap.size + 1 + 1 + 1) := by rw [hX]; exact Nat.le_refl _
  clear hX
  have k0 := cell_reC (B1 0 _ rfl).1 (x0 _ (by first | omega | (simp only; omega)))
  have f0 := cell_reC (B2 0 _ rfl).1 (x0 _ (by first | omega | (simp only; omega)))
  have f1 := cell_reC (B2 1 _ rfl).1 (x0 _ (by first | omega | (simp only; omega)))
  have g0 := cell_reC (B3 0 _ rfl).1 (x0 _ (by first | omega | (simp only; omega)))
  have g1 := cell_reC (B3 1 _ rfl).1 (x0 _ (by first | omega | (simp only; omega)))
  clear a0 a1 a2 a3 b0 b1 b2 b3 q1 q2 q3 q4 q5 q6 q7 q8 u0 u1 v0 v1 m0 m1 hpr p5 pM hD0 hD hM B1 B2 B3 HT
  refine anyK_begin X 34 rfl (by kernel_rfl) ?_
  refine anyK_take 0 33 1 rfl (by decide) (by kernel_rfl) (fun _ _ d _ _ h => by cases d <;> exact h) ?_
  repeat (refine headC_step (fun K hK => ?_); go_simp; first | (refine hK _ ?_; clear hK K) | (apply Exists.intro; refine ⟨fun _ => ?_, hK _ ?_⟩; (first | (go_at_call_of 98 (A1); exact Calls.re_of (HQ1.out _)) | (go_at_call_of 98 (A2); exact Calls.re_of (HQ2.out _))); clear hK K))
  refine headC_nil ?_
  clear k0 f0 f1 g0 g1
  refine anyK_one 33 (by kernel_rfl) ?_
  refine stepK_run rfl ?_
  intro w3 h3 K hK
  have BZ := B4.ext h3 (by omega)
  have v0' := (BZ 0 _ rfl).1
  have v1' := (BZ 1 _ rfl).1
  have z0 := (BZ 0 _ rfl).2
  have z1 := (BZ 1 _ rfl).2
  go_simp
  refine hK _ _ (show Grw X w2 (putL (w.heap.size + 1 + 1 + 1) 0 [.int .i64 e1, .int .i64 e2] w3) from Grw.putL xC _ _ _ (.of_ext h3)) ?_
  clear hK K v0' v1' z0 z1
  refine anyK_done (by kernel_rfl) ?_ 0
  intro w4 h4
  replace h4 : Ext (putL (w.heap.size + 1 + 1 + 1) 0 [.int .i64 e1, .int .i64 e2] w3) w4 := h4
  have BW := (BZ.put [.int .i64 e1, .int .i64 e2] rfl).ext h4 (by rw [size_putL]; have := Below.size h3; omega)
  have hF : Ext w w4 := ((hE.trans h3).putL (by omega) [.int .i64 e1, .int .i64 e2]).trans h4
  clear h3 h4 BZ
  have j0 := (BW 0 _ rfl).1
  have j1 := (BW 1 _ rfl).1
  go_wp2
  refine bodyPost_ret (v := .agg #[.int .i64 e1, .int .i64 e2]) (by simp [results, Tryd.results80, go_sem, j0, j1]) rfl ⟨by rw [HV.out], hF⟩

end Go.Proofs.YtejlgcnhfomadabDoor
