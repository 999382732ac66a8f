/- Walks: pairs of a twisted curve as the model reckons them: l4On, l4Add. -/
import Derived.Test.YtdaneanloknkpacGreatDoorEdS
import Derived.Test.YtdaneanloknkpacGreatDoorBlk
import Derived.Deep.RegionHeld3
namespace Go.Proofs.YtdaneanloknkpacGreatDoor
set_option linter.unusedVariables false
open Go.RowKit

set_option maxHeartbeats 1600000 in
set_option maxRecDepth 100000 in
theorem l4On_any (p D L bx b' x y : Int) (w : World) (hp0 : 2 ≤ p) (hp : p ≤ 1048576) (hD0 : 0 ≤ D) (hD : D ≤ 1048576) :
    Calls Tryz.prog 147 #[.agg #[.int .i64 p, .int .i64 D, .int .i64 L, .int .i64 bx, .int .i64 b'], .agg #[.int .i64 x, .int .i64 y]] w fun r w' => GivesOnE p D ⟨x, y⟩ r ∧ Ext w w' := by
  by_cases c1 : 0 ≤ x ∧ x ≤ p - 1
  · have hin : (decide ((0 : Int) ≤ x) && decide (x ≤ p - 1)) = true := by simp; omega
    by_cases c2 : 0 ≤ y ∧ y ≤ p - 1
    · have hin2 : (decide ((0 : Int) ≤ y) && decide (y ≤ p - 1)) = true := by simp; omega
      obtain ⟨x0', x1⟩ := c1
      obtain ⟨y0, y1⟩ := c2
      have Hy : Hid (∀ ok : Bool, ok = ((y * y % p - x * x % p) % p == (1 + D * (x * x % p) % p * (y * y % p)) % p) → GivesOnE p D ⟨x, y⟩ (.returned (.bool ok))) := fun ok h => givesOnE_eq (by omega) x0' x1 y0 y1 h
      obtain ⟨a0, a1⟩ := mulBd y0 (show y ≤ 1048576 by omega) y0 (show y ≤ 1048576 by omega)
      obtain ⟨b0, b1⟩ := mulBd x0' (show x ≤ 1048576 by omega) x0' (show x ≤ 1048576 by omega)
      have m0 := Int.emod_nonneg (x * x) (show p ≠ 0 by omega)
      have m1 := Int.emod_lt_of_pos (x * x) (show 0 < p by omega)
      have n0 := Int.emod_nonneg (y * y) (show p ≠ 0 by omega)
      have n1 := Int.emod_lt_of_pos (y * y) (show 0 < p by omega)
      obtain ⟨d0, d1⟩ := mulBd hD0 hD m0 (show x * x % p ≤ 1048576 by omega)
      have r0 := Int.emod_nonneg (D * (x * x % p)) (show p ≠ 0 by omega)
      have r1 := Int.emod_lt_of_pos (D * (x * x % p)) (show 0 < p by omega)
      obtain ⟨s0, s1⟩ := mulBd r0 (show D * (x * x % p) % p ≤ 1048576 by omega) n0 (show y * y % p ≤ 1048576 by omega)
      have HL : Hid (∀ w : World, Calls Tryz.prog 150 #[.int .i64 (y * y % p - x * x % p), .int .i64 p] w fun r w' => r = .returned (.int .i64 ((y * y % p - x * x % p) % p)) ∧ w' = w) := fun w => l2Left_any _ _ w (by omega) (by omega) (by omega) (by omega)
      have e1 : IntKind.i64.wrap (y * y % p - x * x % p) = y * y % p - x * x % p := by rw [IntKind.wrap_i64]; omega
      have pp : ¬ p = 0 := by omega
      go_enter Tryz.func147, Tryz.ntmps147
      go_wp2_with fail
      refine (l1In_int _ _ _ _).mono ?_
      rintro r w' ⟨rfl, hw⟩
      subst hw
      rw [hin]
      go_wp2_with fail
      refine (l1In_int _ _ _ _).mono ?_
      rintro r w' ⟨rfl, hw⟩
      subst hw
      rw [hin2]
      clear hin hin2
      go_wp2
      go_quiet (fail)
      have hVE : Ext ((w.alloc (.cells #[.int .i64 p, .int .i64 D, .int .i64 L, .int .i64 bx, .int .i64 b'] 37)).alloc (.cells #[.int .i64 x, .int .i64 y] 38)) (((w.alloc (.cells #[.int .i64 p, .int .i64 D, .int .i64 L, .int .i64 bx, .int .i64 b'] 37)).alloc (.cells #[.int .i64 x, .int .i64 y] 38)).drewN nq) := below_drewN (Below.refl _ _) _
      obtain ⟨B1, -, hE, hz⟩ := box2 w [.int .i64 p, .int .i64 D, .int .i64 L, .int .i64 bx, .int .i64 b'] [.int .i64 x, .int .i64 y] 37 38 hVE
      clear hVE
      generalize ((w.alloc (.cells #[.int .i64 p, .int .i64 D, .int .i64 L, .int .i64 bx, .int .i64 b'] 37)).alloc (.cells #[.int .i64 x, .int .i64 y] 38)).drewN nq = V at *
      have k0 := (B1 0 _ rfl).1
      have k1 := (B1 1 _ rfl).1
      clear B1
      go_wp2
      go_quiet ((go_at_call 150; exact Calls.quiet_of_same (HL.out _)))
      go_wp2
      go_ret
      exact ⟨Hy.out _ (by rw [Int.sub_emod (y * y) (x * x) p]), below_drewN hE _⟩
    · have hin2 : (decide ((0 : Int) ≤ y) && decide (y ≤ p - 1)) = false := by simp; omega
      have Hno : Hid (GivesOnE p D ⟨x, y⟩ (.returned (.bool false))) := givesOnE_no (fun h => c2 ⟨h.2.2.1, h.2.2.2⟩) (by omega)
      go_enter Tryz.func147, Tryz.ntmps147
      go_wp2_with fail
      refine (l1In_int _ _ _ _).mono ?_
      rintro r w' ⟨rfl, hw⟩
      subst hw
      rw [hin]
      go_wp2_with fail
      refine (l1In_int _ _ _ _).mono ?_
      rintro r w' ⟨rfl, hw⟩
      subst hw
      rw [hin2]
      clear hin hin2
      go_wp2
      go_ret
      exact ⟨Hno.out, ((Below.refl _ _).alloc (Nat.le_refl _) _).alloc (by simp) _⟩
  · have hin : (decide ((0 : Int) ≤ x) && decide (x ≤ p - 1)) = false := by simp; omega
    have Hno : Hid (GivesOnE p D ⟨x, y⟩ (.returned (.bool false))) := givesOnE_no (fun h => c1 ⟨h.1, h.2.1⟩) (by omega)
    go_enter Tryz.func147, Tryz.ntmps147
    go_wp2_with fail
    refine (l1In_int _ _ _ _).mono ?_
    rintro r w' ⟨rfl, hw⟩
    subst hw
    rw [hin]
    clear hin
    go_wp2
    go_ret
    exact ⟨Hno.out, ((Below.refl _ _).alloc (Nat.le_refl _) _).alloc (by simp) _⟩

theorem l2Inv_ext (a : Int) (p : Nat) (w : World) (h0 : -9223372036854775808 ≤ a) (h1 : a ≤ 9223372036854775807) (hp : Prime p) (h3 : 3 ≤ p) (hm : p ≤ 1073741824) :
    Calls Tryz.prog 94 #[.int .i64 a, .int .i64 (p : Int)] w fun r w' => r = .returned (.int .i64 (iv p a)) ∧ Ext w w' :=
  (l2Inv_iv a p w h0 h1 hp h3 hm).mono fun r w' k => ⟨k.1, by obtain ⟨q, rfl⟩ := k.2; exact below_drewN (Below.refl _ _) _⟩

set_option maxHeartbeats 1600000 in
set_option maxRecDepth 100000 in
theorem l4Add_any (p : Nat) (D L bx b' : Int) (a b : Pr) (w : World) (hpr : Prime p) (h3 : 3 ≤ p) (hp : p ≤ 1048576) (hD0 : 0 ≤ D) (hD : D ≤ 1048576) (ha : InE p a) (hb : InE p b) :
    Calls Tryz.prog 101 #[.agg #[.int .i64 p, .int .i64 D, .int .i64 L, .int .i64 bx, .int .i64 b'], .agg #[.int .i64 a.x, .int .i64 a.y], .agg #[.int .i64 b.x, .int .i64 b.y]] w fun r w' => r = .returned (prV (addE p D a b)) ∧ Ext w w' := by
  obtain ⟨x1, y1⟩ := a
  obtain ⟨x2, y2⟩ := b
  obtain ⟨a0, a1, a2, a3⟩ := ha
  obtain ⟨b0, b1, b2, b3⟩ := hb
  simp only at a0 a1 a2 a3 b0 b1 b2 b3 ⊢
  have pp : (0 : Int) < p := by omega
  have hM : (p : Int) ≤ 1048576 := by omega
  obtain ⟨m, hm⟩ : ∃ m, m = D * (x1 * x2 % p) % p * (y1 * y2 % p) % p := ⟨_, rfl⟩
  have HV := hide (addE_model p D x1 y1 x2 y2 m hm)
  obtain ⟨q1, q2⟩ := mulBd a0 (show x1 ≤ 1048576 by omega) b0 (show x2 ≤ 1048576 by omega)
  obtain ⟨q3, q4⟩ := mulBd a2 (show y1 ≤ 1048576 by omega) b2 (show y2 ≤ 1048576 by omega)
  obtain ⟨q5, q6⟩ := mulBd a0 (show x1 ≤ 1048576 by omega) b2 (show y2 ≤ 1048576 by omega)
  obtain ⟨q7, q8⟩ := mulBd a2 (show y1 ≤ 1048576 by omega) b0 (show x2 ≤ 1048576 by omega)
  have u0 := Int.emod_nonneg (x1 * x2) (show (p : Int) ≠ 0 by omega)
  have u1 := Int.emod_lt_of_pos (x1 * x2) pp
  have v0 := Int.emod_nonneg (y1 * y2) (show (p : Int) ≠ 0 by omega)
  have v1 := Int.emod_lt_of_pos (y1 * y2) pp
  obtain ⟨d0, d1⟩ := mulBd hD0 hD u0 (show x1 * x2 % (p : Int) ≤ 1048576 by omega)
  have r0 := Int.emod_nonneg (D * (x1 * x2 % p)) (show (p : Int) ≠ 0 by omega)
  have r1 := Int.emod_lt_of_pos (D * (x1 * x2 % p)) pp
  obtain ⟨s0, s1⟩ := mulBd r0 (show D * (x1 * x2 % (p : Int)) % p ≤ 1048576 by omega) v0 (show y1 * y2 % (p : Int) ≤ 1048576 by omega)
  have m0 : 0 ≤ m := by rw [hm]; exact Int.emod_nonneg _ (by omega)
  have m1 : m < p := by rw [hm]; exact Int.emod_lt_of_pos _ pp
  have t0 := Int.emod_nonneg (x1 * y2 + y1 * x2) (show (p : Int) ≠ 0 by omega)
  have t1 := Int.emod_lt_of_pos (x1 * y2 + y1 * x2) pp
  have t2 := Int.emod_nonneg (y1 * y2 % p + x1 * x2 % p) (show (p : Int) ≠ 0 by omega)
  have t3 := Int.emod_lt_of_pos (y1 * y2 % p + x1 * x2 % p) pp
  obtain ⟨i0, i1⟩ := iv_range (show 0 < p by omega) (1 + m)
  obtain ⟨i2, i3⟩ := iv_range (show 0 < p by omega) (1 - m)
  obtain ⟨k0, k1⟩ := mulBd t0 (show (x1 * y2 + y1 * x2) % (p : Int) ≤ 1048576 by omega) i0 (show iv p (1 + m) ≤ 1048576 by omega)
  obtain ⟨k2, k3⟩ := mulBd t2 (show (y1 * y2 % (p : Int) + x1 * x2 % (p : Int)) % (p : Int) ≤ 1048576 by omega) i2 (show iv p (1 - m) ≤ 1048576 by omega)
  replace hm := hm.symm
  obtain ⟨A1, hA1⟩ : ∃ A1, 1 + m = A1 := ⟨_, rfl⟩
  obtain ⟨A2, hA2⟩ : ∃ A2, 1 - m = A2 := ⟨_, rfl⟩
  have e1 : IntKind.i64.wrap (1 - m) = A2 := by rw [IntKind.wrap_i64]; omega
  have e2 : IntKind.i64.wrap (1 + m) = A1 := by rw [IntKind.wrap_i64]; omega
  have e1' : wrap64 (1 - m) = A2 := by unfold wrap64; omega
  have e2' : wrap64 (1 + m) = A1 := by unfold wrap64; omega
  have HI1 : Hid (∀ w : World, Calls Tryz.prog 94 #[.int .i64 A1, .int .i64 (p : Int)] w fun e w' => e = .returned (.int .i64 (iv p A1)) ∧ Ext w w') := fun w => l2Inv_ext A1 p w (by omega) (by omega) hpr (by omega) (by omega)
  have HI2 : Hid (∀ w : World, Calls Tryz.prog 94 #[.int .i64 A2, .int .i64 (p : Int)] w fun e w' => e = .returned (.int .i64 (iv p A2)) ∧ Ext w w') := fun w => l2Inv_ext A2 p w (by omega) (by omega) hpr (by omega) (by omega)
  rw [hA1, hA2] at HV
  rw [hA1] at i0 i1 k0 k1
  rw [hA2] at i2 i3 k2 k3
  rw [← Int.add_emod] at HV t2 t3 k2 k3
  have pp' : ¬ (p : Int) = 0 := by omega
  have pn : ¬ p = 0 := by omega
  have pb : (p == 0) = false := by simpa using pn
  have pc : ((p : Int) == 0) = false := by simpa using pn
  go_enter Tryz.func101, Tryz.ntmps101
  go_wp2
  go_quiet (fail)
  have hVE : Ext ((((w.alloc (.cells #[.int .i64 p, .int .i64 D, .int .i64 L, .int .i64 bx, .int .i64 b'] 37)).alloc (.cells #[.int .i64 x1, .int .i64 y1] 38)).alloc (.cells #[.int .i64 x2, .int .i64 y2] 38)).alloc (.cells #[.int .i64 0, .int .i64 0] 38)) (((((w.alloc (.cells #[.int .i64 p, .int .i64 D, .int .i64 L, .int .i64 bx, .int .i64 b'] 37)).alloc (.cells #[.int .i64 x1, .int .i64 y1] 38)).alloc (.cells #[.int .i64 x2, .int .i64 y2] 38)).alloc (.cells #[.int .i64 0, .int .i64 0] 38)).drewN nq) := below_drewN (Below.refl _ _) _
  obtain ⟨B1, B2, B3, B4, hE, hz⟩ := box4 w [.int .i64 p, .int .i64 D, .int .i64 L, .int .i64 bx, .int .i64 b'] [.int .i64 x1, .int .i64 y1] [.int .i64 x2, .int .i64 y2] [.int .i64 0, .int .i64 0] 37 38 38 38 hVE
  clear hVE
  generalize ((((w.alloc (.cells #[.int .i64 p, .int .i64 D, .int .i64 L, .int .i64 bx, .int .i64 b'] 37)).alloc (.cells #[.int .i64 x1, .int .i64 y1] 38)).alloc (.cells #[.int .i64 x2, .int .i64 y2] 38)).alloc (.cells #[.int .i64 0, .int .i64 0] 38)).drewN nq = w1 at *
  have j0 := (B1 0 _ rfl).1
  have j1 := (B1 1 _ rfl).1
  go_wp2
  go_quiet (fail)
  have h2 : Ext w1 (w1.drewN nq) := below_drewN (Below.refl _ _) _
  generalize w1.drewN nq = w2 at *
  clear j0 j1
  replace B1 := B1.ext h2 (by omega)
  replace B2 := B2.ext h2 (by omega)
  replace B3 := B3.ext h2 (by omega)
  replace B4 := B4.ext h2 (by omega)
  replace hE := hE.trans h2
  replace hz : w.heap.size + 4 ≤ w2.heap.size := Nat.le_trans hz (Below.size h2)
  clear h2
  have j0 := (B1 0 _ rfl).1
  have j1 := (B1 1 _ rfl).1
  have f0 := (B2 0 _ rfl).1
  have f1 := (B2 1 _ rfl).1
  have g0 := (B3 0 _ rfl).1
  have g1 := (B3 1 _ rfl).1
  go_wp2
  simp only [hm]
  clear j0 j1 f0 f1 g0 g1 hm
  have rw0 : IntKind.i64.wrap (((x1 * y2 + y1 * x2) % (p : Int)) * iv p A1) = ((x1 * y2 + y1 * x2) % (p : Int)) * iv p A1 := by rw [IntKind.wrap_i64]; omega
  have ru0 : wrap64 (((x1 * y2 + y1 * x2) % (p : Int)) * iv p A1) = ((x1 * y2 + y1 * x2) % (p : Int)) * iv p A1 := by unfold wrap64; omega
  have rt1 : Int.tmod (((x1 * y2 + y1 * x2) % (p : Int)) * iv p A1) (p : Int) = (((x1 * y2 + y1 * x2) % (p : Int)) * iv p A1) % (p : Int) := Int.tmod_eq_emod_of_nonneg k0
  have rq1 := Int.emod_nonneg (((x1 * y2 + y1 * x2) % (p : Int)) * iv p A1) pp'
  have rs1 := Int.emod_lt_of_pos (((x1 * y2 + y1 * x2) % (p : Int)) * iv p A1) pp
  have rw1 : IntKind.i64.wrap ((((x1 * y2 + y1 * x2) % (p : Int)) * iv p A1) % (p : Int)) = (((x1 * y2 + y1 * x2) % (p : Int)) * iv p A1) % (p : Int) := by rw [IntKind.wrap_i64]; omega
  have ru1 : wrap64 ((((x1 * y2 + y1 * x2) % (p : Int)) * iv p A1) % (p : Int)) = (((x1 * y2 + y1 * x2) % (p : Int)) * iv p A1) % (p : Int) := by unfold wrap64; omega
  have rw2 : IntKind.i64.wrap ((y1 * y2 % (p : Int) + x1 * x2 % (p : Int))) = (y1 * y2 % (p : Int) + x1 * x2 % (p : Int)) := by rw [IntKind.wrap_i64]; omega
  have ru2 : wrap64 ((y1 * y2 % (p : Int) + x1 * x2 % (p : Int))) = (y1 * y2 % (p : Int) + x1 * x2 % (p : Int)) := by unfold wrap64; omega
  have rt3 : Int.tmod ((y1 * y2 % (p : Int) + x1 * x2 % (p : Int))) (p : Int) = ((y1 * y2 % (p : Int) + x1 * x2 % (p : Int))) % (p : Int) := Int.tmod_eq_emod_of_nonneg (by omega)
  have rq3 := Int.emod_nonneg ((y1 * y2 % (p : Int) + x1 * x2 % (p : Int))) pp'
  have rs3 := Int.emod_lt_of_pos ((y1 * y2 % (p : Int) + x1 * x2 % (p : Int))) pp
  have rw3 : IntKind.i64.wrap (((y1 * y2 % (p : Int) + x1 * x2 % (p : Int))) % (p : Int)) = ((y1 * y2 % (p : Int) + x1 * x2 % (p : Int))) % (p : Int) := by rw [IntKind.wrap_i64]; omega
  have ru3 : wrap64 (((y1 * y2 % (p : Int) + x1 * x2 % (p : Int))) % (p : Int)) = ((y1 * y2 % (p : Int) + x1 * x2 % (p : Int))) % (p : Int) := by unfold wrap64; omega
  have rw4 : IntKind.i64.wrap ((y1 * y2 + x1 * x2) % (p : Int) * iv p A2) = (y1 * y2 + x1 * x2) % (p : Int) * iv p A2 := by rw [IntKind.wrap_i64]; omega
  have ru4 : wrap64 ((y1 * y2 + x1 * x2) % (p : Int) * iv p A2) = (y1 * y2 + x1 * x2) % (p : Int) * iv p A2 := by unfold wrap64; omega
  have rt5 : Int.tmod ((y1 * y2 + x1 * x2) % (p : Int) * iv p A2) (p : Int) = ((y1 * y2 + x1 * x2) % (p : Int) * iv p A2) % (p : Int) := Int.tmod_eq_emod_of_nonneg k2
  have rq5 := Int.emod_nonneg ((y1 * y2 + x1 * x2) % (p : Int) * iv p A2) pp'
  have rs5 := Int.emod_lt_of_pos ((y1 * y2 + x1 * x2) % (p : Int) * iv p A2) pp
  have rw5 : IntKind.i64.wrap (((y1 * y2 + x1 * x2) % (p : Int) * iv p A2) % (p : Int)) = ((y1 * y2 + x1 * x2) % (p : Int) * iv p A2) % (p : Int) := by rw [IntKind.wrap_i64]; omega
  have ru5 : wrap64 (((y1 * y2 + x1 * x2) % (p : Int) * iv p A2) % (p : Int)) = ((y1 * y2 + x1 * x2) % (p : Int) * iv p A2) % (p : Int) := by unfold wrap64; omega
  obtain ⟨X, hX⟩ : ∃ X : Nat → Prop, X = fun k => w.heap.size + 3 ≤ k := ⟨_, rfl⟩
  have x0 : ∀ k, k < w.heap.size + 3 → ¬ X k := fun k h => by rw [hX]; simp; omega
  have xC : X (w.heap.size + 1 + 1 + 1) := by rw [hX]; exact Nat.le_refl _
  clear hX
  have c0 := cell_reC (B1 0 _ rfl).1 (x0 _ (by first | omega | (simp only; omega)))
  clear a0 a1 a2 a3 b0 b1 b2 b3 q1 q2 q3 q4 q5 q6 q7 q8 u0 u1 v0 v1 d0 d1 r0 r1 s0 s1 m0 m1 t0 t1 t2 t3 i0 i1 i2 i3 k0 k1 k2 k3 hA1 hA2 B1 B2 B3 hpr h3 hp hD0 hD hM rq1 rq3 rq5 rs1 rs3 rs5
  refine anyK_begin X 27 rfl (by kernel_rfl) ?_
  refine anyK_take 0 26 1 rfl (by decide) (by kernel_rfl) (fun _ _ d _ _ h => by cases d <;> exact h) ?_
  repeat (refine headC_step (fun K hK => ?_); go_simp; first | (refine hK _ ?_; clear hK K) | (apply Exists.intro; refine ⟨fun _ => ?_, hK _ ?_⟩; (first | (go_at_call_of 94 (A1); exact Calls.re_of (HI1.out _)) | (go_at_call_of 94 (A2); exact Calls.re_of (HI2.out _))); clear hK K))
  refine headC_nil ?_
  clear c0
  generalize (x1 * y2 + y1 * x2) % (p : Int) * iv p A1 % p = e1 at *
  generalize (y1 * y2 + x1 * x2) % (p : Int) * iv p A2 % p = e2 at *
  refine anyK_one 26 (by kernel_rfl) ?_
  refine stepK_run rfl ?_
  intro w3 h3 K hK
  have BZ := B4.ext h3 (by omega)
  have v0' := (BZ 0 _ rfl).1
  have v1' := (BZ 1 _ rfl).1
  have z0 := (BZ 0 _ rfl).2
  have z1 := (BZ 1 _ rfl).2
  go_simp
  refine hK _ _ (show Grw X w2 (putL (w.heap.size + 1 + 1 + 1) 0 [.int .i64 e1, .int .i64 e2] w3) from Grw.putL xC _ _ _ (.of_ext h3)) ?_
  clear hK K v0' v1' z0 z1
  refine anyK_done (by kernel_rfl) ?_ 0
  intro w4 h4
  replace h4 : Ext (putL (w.heap.size + 1 + 1 + 1) 0 [.int .i64 e1, .int .i64 e2] w3) w4 := h4
  have BW := (BZ.put [.int .i64 e1, .int .i64 e2] rfl).ext h4 (by rw [size_putL]; have := Below.size h3; omega)
  have hF : Ext w w4 := ((hE.trans h3).putL (by omega) [.int .i64 e1, .int .i64 e2]).trans h4
  clear h3 h4 BZ
  have j0 := (BW 0 _ rfl).1
  have j1 := (BW 1 _ rfl).1
  go_wp2
  refine bodyPost_ret (v := .agg #[.int .i64 e1, .int .i64 e2]) (by simp [results, Tryz.results101, go_sem, j0, j1]) rfl ⟨by rw [HV.out]; rfl, hF⟩

end Go.Proofs.YtdaneanloknkpacGreatDoor
