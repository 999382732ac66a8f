/- Walks: CurveOk and PointOk of the program. -/
import Derived.Test.YtnhemiaklkkilaaDoorCurveF
namespace Go.Proofs.YtnhemiaklkkilaaDoor
set_option linter.unusedVariables false
open Go.RowKit

/-- A curve's numbers are as the document wants them. -/
structure CvNum (P A B N : Int) : Prop where
  p5 : 5 ≤ P
  pM : P ≤ 1048576
  p4 : P % 4 = 3
  pp : Prime P.toNat
  a0 : 0 ≤ A
  a1 : A < P
  b0 : 0 ≤ B
  b1 : B < P
  n5 : 5 ≤ N
  nM : N ≤ 2097152
  np : Prime N.toNat
  disc : ¬ P ∣ 4 * (A * A * A) + 27 * (B * B)

theorem CvOk.num {P A B N gx gy : Int} (h : CvOk P A B N gx gy) : CvNum P A B N := ⟨h.p5, h.pM, h.p4, h.pp, h.a0, h.a1, h.b0, h.b1, h.n5, h.nM, h.np, h.disc⟩

theorem CvNum.cv {P A B N : Int} (h : CvNum P A B N) : Cv P.toNat A B :=
  ⟨h.pp, by have := h.p5; omega, by rw [show ((P.toNat : Nat) : Int) = P by have := h.p5; omega]; exact h.disc⟩

def GivesNum (P A B N : Int) (r : Ending) : Prop := ∃ ok : Bool, r = .returned (.bool ok) ∧ (ok = true ↔ CvNum P A B N)

theorem givesNum_no {P A B N : Int} (h : ¬ CvNum P A B N) : GivesNum P A B N (.returned (.bool false)) := ⟨false, rfl, ⟨fun k => by simp at k, fun k => absurd k h⟩⟩

theorem inField_at (P A B N gx gy n : Int) (ok : Bool) (h : (decide (0 ≤ n) && decide (n < P)) = ok) (w : World) : Calls Tryd.prog 51 #[.agg #[.int .i64 P, .int .i64 A, .int .i64 B, .int .i64 N, .int .i64 gx, .int .i64 gy], .int .i64 n] w fun r w' => r = .returned (.bool ok) ∧ Below w.heap.size w w' :=
  (inField_any P A B N gx gy n w).mono fun _ _ k => ⟨by rw [k.1, h], k.2⟩

set_option maxHeartbeats 1600000 in
theorem numbersOk_any (P A B N gx gy : Int) (w : World) (hP1 : P ≤ 9223372036854775807) (hN1 : N ≤ 9223372036854775807) : Calls Tryd.prog 31 #[.agg #[.int .i64 P, .int .i64 A, .int .i64 B, .int .i64 N, .int .i64 gx, .int .i64 gy]] w fun r w' => GivesNum P A B N r ∧ Below w.heap.size w w' := by
  have Hno : Hid (¬ CvNum P A B N → GivesNum P A B N (.returned (.bool false))) := givesNum_no
  by_cases c1 : P < 5
  · go_enter Tryd.func31, Tryd.ntmps31
    go_wp2
    go_ret
    exact ⟨Hno.out fun k => by have := k.p5; omega, (Below.refl _ _).alloc (Nat.le_refl _) _⟩
  by_cases c2 : 1048576 < P
  · go_enter Tryd.func31, Tryd.ntmps31
    go_wp2
    go_ret
    exact ⟨Hno.out fun k => by have := k.pM; omega, (Below.refl _ _).alloc (Nat.le_refl _) _⟩
  by_cases c3 : P % 4 = 3
  rotate_left
  · have hb : (P % 4 != 3) = true := by simpa using c3
    have Hc := hide c3
    clear c3
    go_enter Tryd.func31, Tryd.ntmps31
    go_wp2
    go_ret
    exact ⟨Hno.out fun k => Hc.out k.p4, (Below.refl _ _).alloc (Nat.le_refl _) _⟩
  have hb : (P % 4 != 3) = false := by simpa using c3
  have Hc3 := hide c3
  clear c3
  by_cases c4 : N < 5
  · go_enter Tryd.func31, Tryd.ntmps31
    go_wp2
    go_ret
    exact ⟨Hno.out fun k => by have := k.n5; omega, (Below.refl _ _).alloc (Nat.le_refl _) _⟩
  by_cases c5 : 2097152 < N
  · go_enter Tryd.func31, Tryd.ntmps31
    go_wp2
    go_ret
    exact ⟨Hno.out fun k => by have := k.nM; omega, (Below.refl _ _).alloc (Nat.le_refl _) _⟩
  go_enter Tryd.func31, Tryd.ntmps31
  go_wp2_with fail
  clear hb
  by_cases c6 : 0 ≤ A ∧ A < P
  rotate_left
  · refine (inField_at P A B N gx gy A false (by simp; omega) _).mono ?_
    rintro r w1 ⟨rfl, hw1⟩
    have Hw : Hid (Below w.heap.size w w1) := ((Below.refl _ _).alloc (Nat.le_refl _) _).trans (hw1.mono (by simp))
    have Hc := hide c6
    clear c6 hw1
    go_wp2
    go_ret
    exact ⟨Hno.out fun k => Hc.out ⟨k.a0, k.a1⟩, Hw.out⟩
  refine (inField_at P A B N gx gy A true (by simp; omega) _).mono ?_
  rintro r w1 ⟨rfl, hw1⟩
  obtain ⟨a0, a1⟩ := c6
  have K1 := (CvAt.alloc w P A B N gx gy 25).below hw1 (by simp)
  have Hw1 : Hid (Below w.heap.size w w1) := ((Below.refl _ _).alloc (Nat.le_refl _) _).trans (hw1.mono (by simp))
  have hz1 : w.heap.size + 1 ≤ w1.heap.size := by have := hw1.size; simp at this; omega
  have HK1 := hide K1
  clear hw1
  obtain ⟨k0, k1, k2, k3, k4, k5⟩ := K1
  go_wp2_with fail
  by_cases c7 : 0 ≤ B ∧ B < P
  rotate_left
  · refine (inField_at P A B N gx gy B false (by simp; omega) _).mono ?_
    rintro r w2 ⟨rfl, hw2⟩
    have Hw : Hid (Below w.heap.size w w2) := Hw1.out.trans (hw2.mono (by omega))
    have Hc := hide c7
    clear c7 hw2
    go_wp2
    go_ret
    exact ⟨Hno.out fun k => Hc.out ⟨k.b0, k.b1⟩, Hw.out⟩
  refine (inField_at P A B N gx gy B true (by simp; omega) _).mono ?_
  rintro r w2 ⟨rfl, hw2⟩
  obtain ⟨b0, b1⟩ := c7
  have K2 := HK1.out.below hw2 (by omega)
  have Hw2 : Hid (Below w.heap.size w w2) := Hw1.out.trans (hw2.mono (by omega))
  have hz2 : w.heap.size + 1 ≤ w2.heap.size := by have := hw2.size; omega
  have HK2 := hide K2
  clear hw2 HK1 Hw1 hz1 k0 k1 k2 k3 k4 k5
  obtain ⟨k0, k1, k2, k3, k4, k5⟩ := K2
  go_wp2_with fail
  refine (flat_any P A B N gx gy _ (by omega) (by omega) a0 a1 b0 b1).mono ?_
  rintro r w3 ⟨⟨ok, rfl, h8⟩, hw3⟩
  have K3 := HK2.out.below hw3 (by omega)
  have Hw3 : Hid (Below w.heap.size w w3) := Hw2.out.trans (hw3.mono (by omega))
  have hz3 : w.heap.size + 1 ≤ w3.heap.size := by have := hw3.size; omega
  have HK3 := hide K3
  clear hw3 HK2 Hw2 hz2 k0 k1 k2 k3 k4 k5
  obtain ⟨k0, k1, k2, k3, k4, k5⟩ := K3
  cases ok
  rotate_left
  · have Hc := hide (h8.1 rfl)
    clear h8
    go_wp2
    go_ret
    exact ⟨Hno.out fun k => k.disc Hc.out, Hw3.out⟩
  have Hc8 : Hid (¬ P ∣ 4 * (A * A * A) + 27 * (B * B)) := fun k => by simpa using h8.2 k
  clear h8
  go_wp2_with fail
  refine (implPrimeInt_any P _ hP1).mono ?_
  rintro r w' ⟨⟨ok, rfl, h9⟩, hw⟩
  subst hw
  cases ok
  · have Hc : Hid (¬ Prime P.toNat) := fun k => by simpa using h9.2 ⟨by omega, by omega, k⟩
    clear h9
    go_wp2
    go_ret
    exact ⟨Hno.out fun k => Hc.out k.pp, Hw3.out⟩
  have Hc9 := hide (h9.1 rfl).2.2
  clear h9
  go_wp2_with fail
  refine (implPrimeInt_any N _ hN1).mono ?_
  rintro r w' ⟨⟨ok, rfl, h10⟩, hw⟩
  subst hw
  have HF : Hid (GivesNum P A B N (.returned (.bool ok))) := ⟨ok, rfl, by
    rw [h10]
    exact ⟨fun h => ⟨by omega, by omega, Hc3.out, Hc9.out, a0, a1, b0, b1, by omega, by omega, h.2.2, Hc8.out⟩, fun k => ⟨by omega, by omega, k.np⟩⟩⟩
  clear h10
  go_wp2
  go_ret
  exact ⟨HF.out, Hw3.out⟩

theorem has_at (P A B N gx gy : Int) (a : Pt) (h : CvNum P A B N) (ok : Bool) (hk : ok = true ↔ On P.toNat A B a) (w : World) : Calls Tryd.prog 54 #[.agg #[.int .i64 P, .int .i64 A, .int .i64 B, .int .i64 N, .int .i64 gx, .int .i64 gy], .agg #[.int .i64 a.x, .int .i64 a.y, .bool a.far]] w fun r w' => r = .returned (.bool ok) ∧ Below w.heap.size w w' := by
  refine (has_any P A B N gx gy a w h.p5 h.pM h.a0 h.a1 h.b0 h.b1).mono ?_
  rintro r w' ⟨⟨k, rfl, hk'⟩, hw⟩
  refine ⟨?_, hw⟩
  have : k = ok := by rw [Bool.eq_iff_iff, hk', hk]
  rw [this]

theorem fold_at (P A B N gx gy n : Int) (a : Pt) (h : CvNum P A B N) (ha : On P.toNat A B a) (n0 : 0 ≤ n) (n1 : n ≤ 9223372036854775807) (w : World) : Calls Tryd.prog 34 #[.agg #[.func (.func 54) #[.agg #[.int .i64 P, .int .i64 A, .int .i64 B, .int .i64 N, .int .i64 gx, .int .i64 gy]] #[], .func (.func 55) #[.agg #[.int .i64 P, .int .i64 A, .int .i64 B, .int .i64 N, .int .i64 gx, .int .i64 gy]] #[], .func (.func 56) #[.agg #[.int .i64 P, .int .i64 A, .int .i64 B, .int .i64 N, .int .i64 gx, .int .i64 gy]] #[], .func (.func 57) #[.agg #[.int .i64 P, .int .i64 A, .int .i64 B, .int .i64 N, .int .i64 gx, .int .i64 gy]] #[]], .int .i64 n, .agg #[.int .i64 a.x, .int .i64 a.y, .bool a.far]] w fun r w' => r = .returned (ptV (mulF P.toNat A n.toNat a)) ∧ Below w.heap.size w w' := by
  have e : ((P.toNat : Nat) : Int) = P := by have := h.p5; omega
  have h5 := h.p5; have hM := h.pM; have h0 := h.a0; have h1 := h.a1
  have := fold_any P.toNat A B N gx gy n.toNat a w h.cv (by omega) h0 (by omega) ha (by omega)
  rwa [e, show ((n.toNat : Nat) : Int) = n by omega] at this

theorem add_at (P A B N gx gy : Int) (a b : Pt) (h : CvNum P A B N) (ha : On P.toNat A B a) (hb : On P.toNat A B b) (w : World) : Calls Tryd.prog 55 #[.agg #[.int .i64 P, .int .i64 A, .int .i64 B, .int .i64 N, .int .i64 gx, .int .i64 gy], .agg #[.int .i64 a.x, .int .i64 a.y, .bool a.far], .agg #[.int .i64 b.x, .int .i64 b.y, .bool b.far]] w fun r w' => r = .returned (ptV (addF P.toNat A a b)) ∧ Below w.heap.size w w' := by
  have e : ((P.toNat : Nat) : Int) = P := by have := h.p5; omega
  have h5 := h.p5; have hM := h.pM; have h0 := h.a0; have h1 := h.a1
  have := add_any P.toNat A B N gx gy a b w h.cv (by omega) h0 (by omega) ha hb
  rwa [e] at this

theorem mulF_ok {P A B N : Int} (h : CvNum P A B N) {a : Pt} (ha : On P.toNat A B a) {n : Int} (n0 : 0 ≤ n) (n1 : n ≤ 9223372036854775807) : On P.toNat A B (mulF P.toNat A n.toNat a) := mulF_on h.cv (by omega) ha

set_option maxHeartbeats 1600000 in
set_option maxRecDepth 100000 in
theorem implCurveOk_any (P A B N gx gy : Int) (w : World) (hP1 : P ≤ 9223372036854775807) (hN1 : N ≤ 9223372036854775807) : Calls Tryd.prog 11 #[.agg #[.int .i64 P, .int .i64 A, .int .i64 B, .int .i64 N, .int .i64 gx, .int .i64 gy]] w fun r w' => GivesCv P A B N gx gy r ∧ Below w.heap.size w w' := by
  have Hno : Hid (¬ CvOk P A B N gx gy → GivesCv P A B N gx gy (.returned (.bool false))) := givesCv_no
  have hEq := run_eqPt
  have u3 := ptGuard
  go_enter Tryd.func11, Tryd.ntmps11
  go_wp2_with fail
  refine (numbersOk_any P A B N gx gy _ hP1 hN1).mono ?_
  rintro r w1 ⟨⟨ok, rfl, h1⟩, hw1⟩
  have K1 := (CvAt.alloc w P A B N gx gy 25).below hw1 (by simp)
  have Hw1 : Hid (Below w.heap.size w w1) := ((Below.refl _ _).alloc (Nat.le_refl _) _).trans (hw1.mono (by simp))
  have hz1 : w.heap.size + 1 ≤ w1.heap.size := by have := hw1.size; simp at this; omega
  have HK1 := hide K1
  clear hw1
  obtain ⟨k0, k1, k2, k3, k4, k5⟩ := K1
  cases ok
  · have Hc : Hid (¬ CvNum P A B N) := fun k => by simpa using h1.2 k
    clear h1
    go_wp2
    go_ret
    exact ⟨Hno.out fun k => Hc.out k.num, Hw1.out⟩
  have Hn := hide (h1.1 rfl)
  clear h1
  go_wp2_with fail
  refine (groupOf_any P A B N gx gy _).mono ?_
  rintro r w2 ⟨rfl, hw2⟩
  have hz2 : w.heap.size + 1 ≤ w2.heap.size := by have := hw2.size; omega
  have hn : Below w2.heap.size w2 (w2.alloc (.cells #[.func (.func 54) #[.agg #[.int .i64 P, .int .i64 A, .int .i64 B, .int .i64 N, .int .i64 gx, .int .i64 gy]] #[], .func (.func 55) #[.agg #[.int .i64 P, .int .i64 A, .int .i64 B, .int .i64 N, .int .i64 gx, .int .i64 gy]] #[], .func (.func 56) #[.agg #[.int .i64 P, .int .i64 A, .int .i64 B, .int .i64 N, .int .i64 gx, .int .i64 gy]] #[], .func (.func 57) #[.agg #[.int .i64 P, .int .i64 A, .int .i64 B, .int .i64 N, .int .i64 gx, .int .i64 gy]] #[]] 62)) := (Below.refl _ _).alloc (Nat.le_refl _) _
  have K2 := (HK1.out.below hw2 (by omega)).below hn (by omega)
  have G2 := GrpAt.alloc w2 P A B N gx gy 62
  have Hw2 : Hid (Below w.heap.size w (w2.alloc (.cells #[.func (.func 54) #[.agg #[.int .i64 P, .int .i64 A, .int .i64 B, .int .i64 N, .int .i64 gx, .int .i64 gy]] #[], .func (.func 55) #[.agg #[.int .i64 P, .int .i64 A, .int .i64 B, .int .i64 N, .int .i64 gx, .int .i64 gy]] #[], .func (.func 56) #[.agg #[.int .i64 P, .int .i64 A, .int .i64 B, .int .i64 N, .int .i64 gx, .int .i64 gy]] #[], .func (.func 57) #[.agg #[.int .i64 P, .int .i64 A, .int .i64 B, .int .i64 N, .int .i64 gx, .int .i64 gy]] #[]] 62))) := (Hw1.out.trans (hw2.mono (by omega))).trans (hn.mono (by omega))
  clear hw2 hn HK1 Hw1 hz1 k0 k1 k2 k3 k4 k5
  obtain ⟨k0, k1, k2, k3, k4, k5⟩ := K2
  obtain ⟨g0, g1, g2, g3⟩ := G2
  have e0 := cell_regrown k0
  have e1 := cell_regrown k1
  have e2 := cell_regrown k2
  have e3 := cell_regrown k3
  have e4 := cell_regrown k4
  have e5 := cell_regrown k5
  have f0 := cell_regrown g0
  have f1 := cell_regrown g1
  have f2 := cell_regrown g2
  have f3 := cell_regrown g3
  clear k0 k1 k2 k3 k4 k5 g0 g1 g2 g3
  have HB : Hid (∀ (W : World) d os, Calls Tryd.prog 33 #[.agg #[.int .i64 P, .int .i64 A, .int .i64 B, .int .i64 N, .int .i64 gx, .int .i64 gy]] (Sort.grow (redrawn W d) os) fun e w'' => e = .returned (.agg #[.int .i64 gx, .int .i64 gy, .bool false]) ∧ ∃ p : Regrown, w'' = Sort.grow (redrawn W p.d) p.os) := fun W d os => Calls.regrown_of (base_any P A B N gx gy _)
  have HR : Hid (∀ (W : World) d os, Calls Tryd.prog 35 #[] (Sort.grow (redrawn W d) os) fun e w'' => e = .returned (.agg #[.int .i64 0, .int .i64 0, .bool true]) ∧ ∃ p : Regrown, w'' = Sort.grow (redrawn W p.d) p.os) := fun W d os => Calls.regrown_of (farPoint_any _)
  simp only [grpV, cvV]
  by_cases hg : On P.toNat A B ⟨gx, gy, false⟩
  rotate_left
  · have HH : Hid (∀ (W : World) d os, Calls Tryd.prog 54 #[.agg #[.int .i64 P, .int .i64 A, .int .i64 B, .int .i64 N, .int .i64 gx, .int .i64 gy], .agg #[.int .i64 gx, .int .i64 gy, .bool false]] (Sort.grow (redrawn W d) os) fun e w'' => e = .returned (.bool false) ∧ ∃ p : Regrown, w'' = Sort.grow (redrawn W p.d) p.os) := fun W d os => Calls.regrown_of (has_at P A B N gx gy ⟨gx, gy, false⟩ Hn.out false ⟨fun h => by simp at h, fun h => absurd h hg⟩ _)
    have Hc := hide hg
    clear hg
    go_wp2
    refine wp_region_quiet_below (by kernel_rfl) (by kernel_rfl) ?_
    repeat (first | go_big_quiet_step (first | (go_at_call 33; exact HB.out _ _ _) | (go_at_call 54; exact HH.out _ _ _)) | quiet_step (first | (go_at_call 33; exact HB.out _ _ _) | (go_at_call 54; exact HH.out _ _ _)))
    refine wpQuiet_nil ?_
    intro _ hw'
    obtain ⟨⟨dq, osq⟩, hw''⟩ := hw'
    subst hw''
    go_wp2
    go_ret
    exact ⟨Hno.out fun k => Hc.out k.g, below_re Hw2.out (by simp <;> omega) _ _⟩
  have HH : Hid (∀ (W : World) d os, Calls Tryd.prog 54 #[.agg #[.int .i64 P, .int .i64 A, .int .i64 B, .int .i64 N, .int .i64 gx, .int .i64 gy], .agg #[.int .i64 gx, .int .i64 gy, .bool false]] (Sort.grow (redrawn W d) os) fun e w'' => e = .returned (.bool true) ∧ ∃ p : Regrown, w'' = Sort.grow (redrawn W p.d) p.os) := fun W d os => Calls.regrown_of (has_at P A B N gx gy ⟨gx, gy, false⟩ Hn.out true ⟨fun _ => hg, fun _ => rfl⟩ _)
  obtain ⟨R, hR⟩ : ∃ R, mulF P.toNat A N.toNat ⟨gx, gy, false⟩ = R := ⟨_, rfl⟩
  have HD : Hid (∀ (W : World) d os, Calls Tryd.prog 34 #[.agg #[.func (.func 54) #[.agg #[.int .i64 P, .int .i64 A, .int .i64 B, .int .i64 N, .int .i64 gx, .int .i64 gy]] #[], .func (.func 55) #[.agg #[.int .i64 P, .int .i64 A, .int .i64 B, .int .i64 N, .int .i64 gx, .int .i64 gy]] #[], .func (.func 56) #[.agg #[.int .i64 P, .int .i64 A, .int .i64 B, .int .i64 N, .int .i64 gx, .int .i64 gy]] #[], .func (.func 57) #[.agg #[.int .i64 P, .int .i64 A, .int .i64 B, .int .i64 N, .int .i64 gx, .int .i64 gy]] #[]], .int .i64 N, .agg #[.int .i64 gx, .int .i64 gy, .bool false]] (Sort.grow (redrawn W d) os) fun e w'' => e = .returned (.agg #[.int .i64 R.x, .int .i64 R.y, .bool R.far]) ∧ ∃ p : Regrown, w'' = Sort.grow (redrawn W p.d) p.os) := fun W d os => by
    have := fold_at P A B N gx gy N ⟨gx, gy, false⟩ Hn.out hg (by have := Hn.out.n5; omega) hN1 (Sort.grow (redrawn W d) os)
    rw [hR] at this
    exact Calls.regrown_of this
  have HF : Hid (GivesCv P A B N gx gy (.returned (.bool (R.x == 0 && (R.y == 0 && R.far))))) := by
    have hn := Hn.out
    have ho := mulF_ok hn hg (n := N) (by have := hn.n5; omega) hN1
    rw [hR] at ho
    have e : (R.x == 0 && (R.y == 0 && R.far)) = R.far := by
      cases hf : R.far
      · simp
      · rw [ho.far_eq hf]; rfl
    refine ⟨_, rfl, ?_⟩
    rw [e]
    exact ⟨fun h => ⟨hn.p5, hn.pM, hn.p4, hn.pp, hn.a0, hn.a1, hn.b0, hn.b1, hn.n5, hn.nM, hn.np, hn.disc, hg, by rw [hR]; exact h⟩, fun k => by have := k.far; rwa [hR] at this⟩
  clear hR hg
  go_wp2
  refine wp_region_quiet_below (by kernel_rfl) (by kernel_rfl) ?_
  repeat (first | go_big_quiet_step (first | (go_at_call 33; exact HB.out _ _ _) | (go_at_call 54; exact HH.out _ _ _) | (go_at_call 34; exact HD.out _ _ _) | (go_at_call 35; exact HR.out _ _ _)) | quiet_step (first | (go_at_call 33; exact HB.out _ _ _) | (go_at_call 54; exact HH.out _ _ _) | (go_at_call 34; exact HD.out _ _ _) | (go_at_call 35; exact HR.out _ _ _)))
  refine wpQuiet_nil ?_
  intro _ hw'
  obtain ⟨⟨dq, osq⟩, hw''⟩ := hw'
  subst hw''
  go_wp2
  go_ret
  exact ⟨HF.out, below_re Hw2.out (by simp <;> omega) _ _⟩

end Go.Proofs.YtnhemiaklkkilaaDoor
