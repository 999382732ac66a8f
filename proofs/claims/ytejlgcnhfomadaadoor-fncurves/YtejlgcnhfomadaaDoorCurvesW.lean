/- Walk: the law of curves. -/
import Derived.Test.YtejlgcnhfomadaaDoorCurvesM
namespace Go.Proofs.YtejlgcnhfomadaaDoor
set_option linter.unusedVariables false
open Go.RowKit Go.Sort

set_option maxHeartbeats 16000000 in
set_option maxRecDepth 100000 in
theorem curves_law (a : Option Addr) (b off n cap : Nat) (f : Nat → Int) (w : World) (hs : BSeg w a b off n f) (hB : ∀ i, i < n → 0 ≤ f i ∧ f i ≤ 255) (hn : n ≤ 1048576) :
    Calls Tryd.prog 3 #[.slice a n cap] w fun e w' => e = .returned (.bool true) ∧ Below w.heap.size w w' := by
  go_enter Tryd.func3, Tryd.ntmps3
  go_wp2_with fail
  refine (big_any a n cap _ hn).mono ?_
  rintro e w' ⟨rfl, hw⟩
  replace hw := hw.symm
  subst hw
  go_wp2_with fail
  refine (drawCurve_any a b off n cap f _ hs hB hn).mono ?_
  rintro e w1 ⟨j, ma, mb, hj, hma, hmb, rfl, hw1⟩
  have hc := hide (crv_ok hj)
  generalize kP j = P at *
  generalize kA j = A at *
  generalize kB j = B at *
  generalize kN j = N at *
  generalize kX j = gx at *
  generalize kY j = gy at *
  clear hj
  simp only [ptV]
  obtain ⟨⟨ax, ay, af⟩, ha⟩ : ∃ p, mulF P.toNat A ma ⟨gx, gy, false⟩ = p := ⟨_, rfl⟩
  obtain ⟨⟨bx, by', bf⟩, hb⟩ : ∃ p, mulF P.toNat A mb ⟨gx, gy, false⟩ = p := ⟨_, rfl⟩
  rw [ha, hb]
  have oa : Hid (On P.toNat A B ⟨ax, ay, af⟩) := by rw [← ha]; exact hc.out.mul_on hc.out.g (by omega)
  have ob : Hid (On P.toNat A B ⟨bx, by', bf⟩) := by rw [← hb]; exact hc.out.mul_on hc.out.g (by omega)
  have ofar : Hid (mulF P.toNat A N.toNat ⟨ax, ay, af⟩ = farP) := by rw [← ha]; exact hc.out.all_far hma
  clear ha hb hma hmb
  have cv := hide hc.out.cv
  have og := hide hc.out.g
  obtain ⟨S, hS⟩ : ∃ p, addF P.toNat A ⟨ax, ay, af⟩ ⟨bx, by', bf⟩ = p := ⟨_, rfl⟩
  obtain ⟨U, hU⟩ : ∃ p, addF P.toNat A S ⟨gx, gy, false⟩ = p := ⟨_, rfl⟩
  obtain ⟨V, hV⟩ : ∃ p, addF P.toNat A ⟨bx, by', bf⟩ ⟨gx, gy, false⟩ = p := ⟨_, rfl⟩
  have oS : Hid (On P.toNat A B S) := by rw [← hS]; exact addF_on cv.out oa.out ob.out
  have oV : Hid (On P.toNat A B V) := by rw [← hV]; exact addF_on cv.out ob.out og.out
  have c1 := hide (add_yes hc.out oa.out ob.out hS)
  have c2 := hide (add_yes (s := S) hc.out ob.out oa.out (by rw [addF_comm cv.out ob.out oa.out]; exact hS))
  have c3 := hide (add_yes hc.out oS.out og.out hU)
  have c4 := hide (add_yes hc.out ob.out og.out hV)
  have c5 := hide (add_yes (s := U) hc.out oa.out oV.out (by rw [← hV, ← addF_assoc cv.out oa.out ob.out og.out, hS]; exact hU))
  have HB : Hid (Ext w w1) := hw1
  clear hS hU hV hw1
  go_wp2_with fail
  replace HB := hide (HB.out.trans (Ext.alloc w1 (.cells #[.int .i64 P, .int .i64 A, .int .i64 B, .int .i64 N, .int .i64 gx, .int .i64 gy] 25)))
  have H_k : Hid (CvAt (w1.alloc (.cells #[.int .i64 P, .int .i64 A, .int .i64 B, .int .i64 N, .int .i64 gx, .int .i64 gy] 25)) w1.heap.size P A B N gx gy) := CvAt.alloc w1 P A B N gx gy 25
  replace H_k := hide (H_k.out.ext (Ext.alloc (w1.alloc (.cells #[.int .i64 P, .int .i64 A, .int .i64 B, .int .i64 N, .int .i64 gx, .int .i64 gy] 25)) (.cells #[.int .i64 ax, .int .i64 ay, .bool af] 27)))
  replace HB := hide (HB.out.trans (Ext.alloc (w1.alloc (.cells #[.int .i64 P, .int .i64 A, .int .i64 B, .int .i64 N, .int .i64 gx, .int .i64 gy] 25)) (.cells #[.int .i64 ax, .int .i64 ay, .bool af] 27)))
  have H_a : Hid (PtAt ((w1.alloc (.cells #[.int .i64 P, .int .i64 A, .int .i64 B, .int .i64 N, .int .i64 gx, .int .i64 gy] 25)).alloc (.cells #[.int .i64 ax, .int .i64 ay, .bool af] 27)) (w1.alloc (.cells #[.int .i64 P, .int .i64 A, .int .i64 B, .int .i64 N, .int .i64 gx, .int .i64 gy] 25)).heap.size ⟨ax, ay, af⟩) := PtAt.alloc (w1.alloc (.cells #[.int .i64 P, .int .i64 A, .int .i64 B, .int .i64 N, .int .i64 gx, .int .i64 gy] 25)) ⟨ax, ay, af⟩ 27
  simp only [World.size_alloc] at H_a
  replace H_k := hide (H_k.out.ext (Ext.alloc ((w1.alloc (.cells #[.int .i64 P, .int .i64 A, .int .i64 B, .int .i64 N, .int .i64 gx, .int .i64 gy] 25)).alloc (.cells #[.int .i64 ax, .int .i64 ay, .bool af] 27)) (.cells #[.int .i64 bx, .int .i64 by', .bool bf] 27)))
  replace H_a := hide (H_a.out.ext (Ext.alloc ((w1.alloc (.cells #[.int .i64 P, .int .i64 A, .int .i64 B, .int .i64 N, .int .i64 gx, .int .i64 gy] 25)).alloc (.cells #[.int .i64 ax, .int .i64 ay, .bool af] 27)) (.cells #[.int .i64 bx, .int .i64 by', .bool bf] 27)))
  replace HB := hide (HB.out.trans (Ext.alloc ((w1.alloc (.cells #[.int .i64 P, .int .i64 A, .int .i64 B, .int .i64 N, .int .i64 gx, .int .i64 gy] 25)).alloc (.cells #[.int .i64 ax, .int .i64 ay, .bool af] 27)) (.cells #[.int .i64 bx, .int .i64 by', .bool bf] 27)))
  have H_b : Hid (PtAt (((w1.alloc (.cells #[.int .i64 P, .int .i64 A, .int .i64 B, .int .i64 N, .int .i64 gx, .int .i64 gy] 25)).alloc (.cells #[.int .i64 ax, .int .i64 ay, .bool af] 27)).alloc (.cells #[.int .i64 bx, .int .i64 by', .bool bf] 27)) ((w1.alloc (.cells #[.int .i64 P, .int .i64 A, .int .i64 B, .int .i64 N, .int .i64 gx, .int .i64 gy] 25)).alloc (.cells #[.int .i64 ax, .int .i64 ay, .bool af] 27)).heap.size ⟨bx, by', bf⟩) := PtAt.alloc ((w1.alloc (.cells #[.int .i64 P, .int .i64 A, .int .i64 B, .int .i64 N, .int .i64 gx, .int .i64 gy] 25)).alloc (.cells #[.int .i64 ax, .int .i64 ay, .bool af] 27)) ⟨bx, by', bf⟩ 27
  simp only [World.size_alloc] at H_b
  generalize (((w1.alloc (.cells #[.int .i64 P, .int .i64 A, .int .i64 B, .int .i64 N, .int .i64 gx, .int .i64 gy] 25)).alloc (.cells #[.int .i64 ax, .int .i64 ay, .bool af] 27)).alloc (.cells #[.int .i64 bx, .int .i64 by', .bool bf] 27)) = W2 at *
  generalize w1.heap.size = S2 at *
  clear w1
  refine (curve_yes hc.out _).mono ?_
  rintro r w3 ⟨rfl, hw3⟩
  replace H_k := hide (H_k.out.ext (hw3))
  replace H_a := hide (H_a.out.ext (hw3))
  replace H_b := hide (H_b.out.ext (hw3))
  replace HB := hide (HB.out.trans (hw3))
  clear hw3 W2
  obtain ⟨k0, k1, k2, k3, k4, k5⟩ := H_k.out
  have l_k := H_k.out.lt
  obtain ⟨a_0, a_1, a_2, -, -, -⟩ := H_a.out
  try dsimp only at a_0 a_1 a_2
  have l_a := H_a.out.lt
  go_wp2_with fail
  clear k0 k1 k2 k3 k4 k5 l_k a_0 a_1 a_2 l_a
  refine (ok_yes hc.out oa.out _).mono ?_
  rintro r w4 ⟨rfl, hw4⟩
  replace H_k := hide (H_k.out.ext (hw4))
  replace H_a := hide (H_a.out.ext (hw4))
  replace H_b := hide (H_b.out.ext (hw4))
  replace HB := hide (HB.out.trans (hw4))
  clear hw4 w3
  obtain ⟨k0, k1, k2, k3, k4, k5⟩ := H_k.out
  have l_k := H_k.out.lt
  obtain ⟨b_0, b_1, b_2, -, -, -⟩ := H_b.out
  try dsimp only at b_0 b_1 b_2
  have l_b := H_b.out.lt
  go_wp2_with fail
  clear k0 k1 k2 k3 k4 k5 l_k b_0 b_1 b_2 l_b
  refine (ok_yes hc.out ob.out _).mono ?_
  rintro r w5 ⟨rfl, hw5⟩
  replace H_k := hide (H_k.out.ext (hw5))
  replace H_a := hide (H_a.out.ext (hw5))
  replace H_b := hide (H_b.out.ext (hw5))
  replace HB := hide (HB.out.trans (hw5))
  clear hw5 w4
  obtain ⟨k0, k1, k2, k3, k4, k5⟩ := H_k.out
  have l_k := H_k.out.lt
  obtain ⟨a_0, a_1, a_2, -, -, -⟩ := H_a.out
  try dsimp only at a_0 a_1 a_2
  have l_a := H_a.out.lt
  obtain ⟨b_0, b_1, b_2, -, -, -⟩ := H_b.out
  try dsimp only at b_0 b_1 b_2
  have l_b := H_b.out.lt
  go_wp2_with fail
  clear k0 k1 k2 k3 k4 k5 l_k a_0 a_1 a_2 l_a b_0 b_1 b_2 l_b
  replace H_k := hide (H_k.out.ext (Ext.alloc w5 (.cells #[.int .i64 gx, .int .i64 gy, .bool false] 27)))
  replace H_a := hide (H_a.out.ext (Ext.alloc w5 (.cells #[.int .i64 gx, .int .i64 gy, .bool false] 27)))
  replace H_b := hide (H_b.out.ext (Ext.alloc w5 (.cells #[.int .i64 gx, .int .i64 gy, .bool false] 27)))
  replace HB := hide (HB.out.trans (Ext.alloc w5 (.cells #[.int .i64 gx, .int .i64 gy, .bool false] 27)))
  have H_g : Hid (PtAt (w5.alloc (.cells #[.int .i64 gx, .int .i64 gy, .bool false] 27)) w5.heap.size ⟨gx, gy, false⟩) := PtAt.alloc w5 ⟨gx, gy, false⟩ 27
  generalize (w5.alloc (.cells #[.int .i64 gx, .int .i64 gy, .bool false] 27)) = W6 at *
  generalize w5.heap.size = S6 at *
  clear w5
  refine (c1.out _).mono ?_
  rintro r w7 ⟨rfl, hw7⟩
  replace H_k := hide (H_k.out.ext (hw7))
  replace H_a := hide (H_a.out.ext (hw7))
  replace H_b := hide (H_b.out.ext (hw7))
  replace H_g := hide (H_g.out.ext (hw7))
  replace HB := hide (HB.out.trans (hw7))
  clear hw7 W6
  obtain ⟨k0, k1, k2, k3, k4, k5⟩ := H_k.out
  have l_k := H_k.out.lt
  obtain ⟨a_0, a_1, a_2, -, -, -⟩ := H_a.out
  try dsimp only at a_0 a_1 a_2
  have l_a := H_a.out.lt
  obtain ⟨b_0, b_1, b_2, -, -, -⟩ := H_b.out
  try dsimp only at b_0 b_1 b_2
  have l_b := H_b.out.lt
  go_wp2_with fail
  clear k0 k1 k2 k3 k4 k5 l_k a_0 a_1 a_2 l_a b_0 b_1 b_2 l_b
  replace H_k := hide (H_k.out.ext (Ext.alloc w7 (.cells #[.int .i64 S.x, .int .i64 S.y, .bool S.far] 27)))
  replace H_a := hide (H_a.out.ext (Ext.alloc w7 (.cells #[.int .i64 S.x, .int .i64 S.y, .bool S.far] 27)))
  replace H_b := hide (H_b.out.ext (Ext.alloc w7 (.cells #[.int .i64 S.x, .int .i64 S.y, .bool S.far] 27)))
  replace H_g := hide (H_g.out.ext (Ext.alloc w7 (.cells #[.int .i64 S.x, .int .i64 S.y, .bool S.far] 27)))
  replace HB := hide (HB.out.trans (Ext.alloc w7 (.cells #[.int .i64 S.x, .int .i64 S.y, .bool S.far] 27)))
  have H_s : Hid (PtAt (w7.alloc (.cells #[.int .i64 S.x, .int .i64 S.y, .bool S.far] 27)) w7.heap.size ⟨S.x, S.y, S.far⟩) := PtAt.alloc w7 ⟨S.x, S.y, S.far⟩ 27
  generalize (w7.alloc (.cells #[.int .i64 S.x, .int .i64 S.y, .bool S.far] 27)) = W8 at *
  generalize w7.heap.size = S8 at *
  clear w7
  refine (c2.out _).mono ?_
  rintro r w9 ⟨rfl, hw9⟩
  replace H_k := hide (H_k.out.ext (hw9))
  replace H_a := hide (H_a.out.ext (hw9))
  replace H_b := hide (H_b.out.ext (hw9))
  replace H_g := hide (H_g.out.ext (hw9))
  replace H_s := hide (H_s.out.ext (hw9))
  replace HB := hide (HB.out.trans (hw9))
  clear hw9 W8
  obtain ⟨k0, k1, k2, k3, k4, k5⟩ := H_k.out
  have l_k := H_k.out.lt
  obtain ⟨s_0, s_1, s_2, -, -, -⟩ := H_s.out
  try dsimp only at s_0 s_1 s_2
  have l_s := H_s.out.lt
  obtain ⟨g_0, g_1, g_2, -, -, -⟩ := H_g.out
  try dsimp only at g_0 g_1 g_2
  have l_g := H_g.out.lt
  go_wp2_with fail
  clear k0 k1 k2 k3 k4 k5 l_k s_0 s_1 s_2 l_s g_0 g_1 g_2 l_g
  replace H_k := hide (H_k.out.ext (Ext.alloc w9 (.cells #[.int .i64 S.x, .int .i64 S.y, .bool S.far] 27)))
  replace H_a := hide (H_a.out.ext (Ext.alloc w9 (.cells #[.int .i64 S.x, .int .i64 S.y, .bool S.far] 27)))
  replace H_b := hide (H_b.out.ext (Ext.alloc w9 (.cells #[.int .i64 S.x, .int .i64 S.y, .bool S.far] 27)))
  replace H_g := hide (H_g.out.ext (Ext.alloc w9 (.cells #[.int .i64 S.x, .int .i64 S.y, .bool S.far] 27)))
  replace H_s := hide (H_s.out.ext (Ext.alloc w9 (.cells #[.int .i64 S.x, .int .i64 S.y, .bool S.far] 27)))
  replace HB := hide (HB.out.trans (Ext.alloc w9 (.cells #[.int .i64 S.x, .int .i64 S.y, .bool S.far] 27)))
  have H_t : Hid (PtAt (w9.alloc (.cells #[.int .i64 S.x, .int .i64 S.y, .bool S.far] 27)) w9.heap.size ⟨S.x, S.y, S.far⟩) := PtAt.alloc w9 ⟨S.x, S.y, S.far⟩ 27
  generalize (w9.alloc (.cells #[.int .i64 S.x, .int .i64 S.y, .bool S.far] 27)) = W10 at *
  generalize w9.heap.size = S10 at *
  clear w9
  refine (c3.out _).mono ?_
  rintro r w11 ⟨rfl, hw11⟩
  replace H_k := hide (H_k.out.ext (hw11))
  replace H_a := hide (H_a.out.ext (hw11))
  replace H_b := hide (H_b.out.ext (hw11))
  replace H_g := hide (H_g.out.ext (hw11))
  replace H_s := hide (H_s.out.ext (hw11))
  replace H_t := hide (H_t.out.ext (hw11))
  replace HB := hide (HB.out.trans (hw11))
  clear hw11 W10
  obtain ⟨k0, k1, k2, k3, k4, k5⟩ := H_k.out
  have l_k := H_k.out.lt
  obtain ⟨b_0, b_1, b_2, -, -, -⟩ := H_b.out
  try dsimp only at b_0 b_1 b_2
  have l_b := H_b.out.lt
  obtain ⟨g_0, g_1, g_2, -, -, -⟩ := H_g.out
  try dsimp only at g_0 g_1 g_2
  have l_g := H_g.out.lt
  go_wp2_with fail
  clear k0 k1 k2 k3 k4 k5 l_k b_0 b_1 b_2 l_b g_0 g_1 g_2 l_g
  replace H_k := hide (H_k.out.ext (Ext.alloc w11 (.cells #[.int .i64 U.x, .int .i64 U.y, .bool U.far] 27)))
  replace H_a := hide (H_a.out.ext (Ext.alloc w11 (.cells #[.int .i64 U.x, .int .i64 U.y, .bool U.far] 27)))
  replace H_b := hide (H_b.out.ext (Ext.alloc w11 (.cells #[.int .i64 U.x, .int .i64 U.y, .bool U.far] 27)))
  replace H_g := hide (H_g.out.ext (Ext.alloc w11 (.cells #[.int .i64 U.x, .int .i64 U.y, .bool U.far] 27)))
  replace H_s := hide (H_s.out.ext (Ext.alloc w11 (.cells #[.int .i64 U.x, .int .i64 U.y, .bool U.far] 27)))
  replace H_t := hide (H_t.out.ext (Ext.alloc w11 (.cells #[.int .i64 U.x, .int .i64 U.y, .bool U.far] 27)))
  replace HB := hide (HB.out.trans (Ext.alloc w11 (.cells #[.int .i64 U.x, .int .i64 U.y, .bool U.far] 27)))
  have H_u : Hid (PtAt (w11.alloc (.cells #[.int .i64 U.x, .int .i64 U.y, .bool U.far] 27)) w11.heap.size ⟨U.x, U.y, U.far⟩) := PtAt.alloc w11 ⟨U.x, U.y, U.far⟩ 27
  generalize (w11.alloc (.cells #[.int .i64 U.x, .int .i64 U.y, .bool U.far] 27)) = W12 at *
  generalize w11.heap.size = S12 at *
  clear w11
  refine (c4.out _).mono ?_
  rintro r w13 ⟨rfl, hw13⟩
  replace H_k := hide (H_k.out.ext (hw13))
  replace H_a := hide (H_a.out.ext (hw13))
  replace H_b := hide (H_b.out.ext (hw13))
  replace H_g := hide (H_g.out.ext (hw13))
  replace H_s := hide (H_s.out.ext (hw13))
  replace H_t := hide (H_t.out.ext (hw13))
  replace H_u := hide (H_u.out.ext (hw13))
  replace HB := hide (HB.out.trans (hw13))
  clear hw13 W12
  obtain ⟨k0, k1, k2, k3, k4, k5⟩ := H_k.out
  have l_k := H_k.out.lt
  obtain ⟨a_0, a_1, a_2, -, -, -⟩ := H_a.out
  try dsimp only at a_0 a_1 a_2
  have l_a := H_a.out.lt
  go_wp2_with fail
  clear k0 k1 k2 k3 k4 k5 l_k a_0 a_1 a_2 l_a
  replace H_k := hide (H_k.out.ext (Ext.alloc w13 (.cells #[.int .i64 V.x, .int .i64 V.y, .bool V.far] 27)))
  replace H_a := hide (H_a.out.ext (Ext.alloc w13 (.cells #[.int .i64 V.x, .int .i64 V.y, .bool V.far] 27)))
  replace H_b := hide (H_b.out.ext (Ext.alloc w13 (.cells #[.int .i64 V.x, .int .i64 V.y, .bool V.far] 27)))
  replace H_g := hide (H_g.out.ext (Ext.alloc w13 (.cells #[.int .i64 V.x, .int .i64 V.y, .bool V.far] 27)))
  replace H_s := hide (H_s.out.ext (Ext.alloc w13 (.cells #[.int .i64 V.x, .int .i64 V.y, .bool V.far] 27)))
  replace H_t := hide (H_t.out.ext (Ext.alloc w13 (.cells #[.int .i64 V.x, .int .i64 V.y, .bool V.far] 27)))
  replace H_u := hide (H_u.out.ext (Ext.alloc w13 (.cells #[.int .i64 V.x, .int .i64 V.y, .bool V.far] 27)))
  replace HB := hide (HB.out.trans (Ext.alloc w13 (.cells #[.int .i64 V.x, .int .i64 V.y, .bool V.far] 27)))
  have H_v : Hid (PtAt (w13.alloc (.cells #[.int .i64 V.x, .int .i64 V.y, .bool V.far] 27)) w13.heap.size ⟨V.x, V.y, V.far⟩) := PtAt.alloc w13 ⟨V.x, V.y, V.far⟩ 27
  generalize (w13.alloc (.cells #[.int .i64 V.x, .int .i64 V.y, .bool V.far] 27)) = W14 at *
  generalize w13.heap.size = S14 at *
  clear w13
  refine (c5.out _).mono ?_
  rintro r w15 ⟨rfl, hw15⟩
  replace H_k := hide (H_k.out.ext (hw15))
  replace H_a := hide (H_a.out.ext (hw15))
  replace H_b := hide (H_b.out.ext (hw15))
  replace H_g := hide (H_g.out.ext (hw15))
  replace H_s := hide (H_s.out.ext (hw15))
  replace H_t := hide (H_t.out.ext (hw15))
  replace H_u := hide (H_u.out.ext (hw15))
  replace H_v := hide (H_v.out.ext (hw15))
  replace HB := hide (HB.out.trans (hw15))
  clear hw15 W14
  clear c1 c2 c3 c4 c5
  have hNe := run_nePt_same
  obtain ⟨k0, k1, k2, k3, k4, k5⟩ := H_k.out
  have l_k := H_k.out.lt
  obtain ⟨s_0, s_1, s_2, -, -, -⟩ := H_s.out
  try dsimp only at s_0 s_1 s_2
  have l_s := H_s.out.lt
  obtain ⟨t_0, t_1, t_2, -, -, -⟩ := H_t.out
  try dsimp only at t_0 t_1 t_2
  have l_t := H_t.out.lt
  obtain ⟨u_0, u_1, u_2, -, -, -⟩ := H_u.out
  try dsimp only at u_0 u_1 u_2
  have l_u := H_u.out.lt
  go_wp2_with fail
  clear k0 k1 k2 k3 k4 k5 l_k s_0 s_1 s_2 l_s t_0 t_1 t_2 l_t u_0 u_1 u_2 l_u
  replace H_k := hide (H_k.out.ext (Ext.alloc w15 (.cells #[.int .i64 U.x, .int .i64 U.y, .bool U.far] 27)))
  replace H_a := hide (H_a.out.ext (Ext.alloc w15 (.cells #[.int .i64 U.x, .int .i64 U.y, .bool U.far] 27)))
  replace H_b := hide (H_b.out.ext (Ext.alloc w15 (.cells #[.int .i64 U.x, .int .i64 U.y, .bool U.far] 27)))
  replace H_g := hide (H_g.out.ext (Ext.alloc w15 (.cells #[.int .i64 U.x, .int .i64 U.y, .bool U.far] 27)))
  replace H_s := hide (H_s.out.ext (Ext.alloc w15 (.cells #[.int .i64 U.x, .int .i64 U.y, .bool U.far] 27)))
  replace H_t := hide (H_t.out.ext (Ext.alloc w15 (.cells #[.int .i64 U.x, .int .i64 U.y, .bool U.far] 27)))
  replace H_u := hide (H_u.out.ext (Ext.alloc w15 (.cells #[.int .i64 U.x, .int .i64 U.y, .bool U.far] 27)))
  replace H_v := hide (H_v.out.ext (Ext.alloc w15 (.cells #[.int .i64 U.x, .int .i64 U.y, .bool U.far] 27)))
  replace HB := hide (HB.out.trans (Ext.alloc w15 (.cells #[.int .i64 U.x, .int .i64 U.y, .bool U.far] 27)))
  have H_w : Hid (PtAt (w15.alloc (.cells #[.int .i64 U.x, .int .i64 U.y, .bool U.far] 27)) w15.heap.size ⟨U.x, U.y, U.far⟩) := PtAt.alloc w15 ⟨U.x, U.y, U.far⟩ 27
  generalize (w15.alloc (.cells #[.int .i64 U.x, .int .i64 U.y, .bool U.far] 27)) = W16 at *
  generalize w15.heap.size = S16 at *
  clear w15
  refine (ok_yes hc.out oS.out _).mono ?_
  rintro r w17 ⟨rfl, hw17⟩
  replace H_k := hide (H_k.out.ext (hw17))
  replace H_a := hide (H_a.out.ext (hw17))
  replace H_b := hide (H_b.out.ext (hw17))
  replace H_g := hide (H_g.out.ext (hw17))
  replace H_s := hide (H_s.out.ext (hw17))
  replace H_t := hide (H_t.out.ext (hw17))
  replace H_u := hide (H_u.out.ext (hw17))
  replace H_v := hide (H_v.out.ext (hw17))
  replace H_w := hide (H_w.out.ext (hw17))
  replace HB := hide (HB.out.trans (hw17))
  clear hw17 W16
  clear hNe
  clear H_s
  clear H_t
  clear H_u
  clear H_w
  clear H_v
  clear H_b
  cases af
  · have hp5 := hc.out.p5
    have hpM := hc.out.pM
    have ay0 : 0 ≤ ay := (oa.out.aff rfl).y0
    have ay1 : ay < P := by have := (oa.out.aff rfl).y1; rw [hc.out.nat] at this; exact this
    obtain ⟨y', hy'⟩ : ∃ y', Int.tmod (P - ay) P = y' := ⟨_, rfl⟩
    obtain ⟨F0, hF0⟩ : ∃ p, p = farP := ⟨_, rfl⟩
    have oy : On P.toNat A B ⟨ax, y', false⟩ := by have := (hc.out.other oa.out).1; rw [hy'] at this; exact this
    have HA := hide (add_yes (s := F0) hc.out oa.out oy (by rw [hF0, ← hy']; exact (hc.out.other oa.out).2))
    clear oy
    have fF0 : Hid (F0.far = true) := by rw [hF0]; rfl
    clear hF0
    have hw1 : IntKind.i64.wrap (P - ay) = P - ay := by rw [IntKind.wrap_i64]; omega
    have hw2 : wrap64 (P - ay) = P - ay := by unfold wrap64; omega
    have hz : ¬ P = 0 := by omega
    obtain ⟨k0, k1, k2, k3, k4, k5⟩ := H_k.out
    have l_k := H_k.out.lt
    obtain ⟨a_0, a_1, a_2, -, -, -⟩ := H_a.out
    try dsimp only at a_0 a_1 a_2
    have l_a := H_a.out.lt
    go_wp2
    have ek0 := cell_regrown k0
    have ek1 := cell_regrown k1
    have ek2 := cell_regrown k2
    have ek3 := cell_regrown k3
    have ek4 := cell_regrown k4
    have ek5 := cell_regrown k5
    have ea_0 := cell_regrown a_0
    have ea_1 := cell_regrown a_1
    have ea_2 := cell_regrown a_2
    clear k0 k1 k2 k3 k4 k5 l_k a_0 a_1 a_2 l_a
    refine region_heads 17 (by kernel_rfl) (by decide) (by kernel_rfl) (fun _ _ d _ _ h => by cases d <;> exact h) ?_
    repeat (refine headS_step (fun K hK => ?_); go_simp; first | (refine hK _ ?_; clear hK K) | (apply Exists.intro; refine ⟨fun _ => ?_, hK _ ?_⟩; ((go_at_call 13; exact calls_head (HA.out _))); clear hK K))
    refine headS_nil ?_
    intro w90a hw90a
    refine tailS_step (fun K hK => ?_)
    go_simp
    refine hK _ _ (Below.alloc hw90a (Below.size hw90a) _) ?_
    clear hK K
    intro w90b hw90b
    have T90 := PtAt.below (PtAt.alloc w90a zeroP 27) hw90b (by simp)
    obtain ⟨t0, t1, t2, v0, v1, v2⟩ := T90
    simp only [zeroP] at t0 t1 t2
    refine tailS_step (fun K hK => ?_)
    go_simp
    refine hK _ _ (below_put (C := w90a.heap.size) (Ext.trans (Below.alloc hw90a (Below.size hw90a) _) hw90b) (Below.size hw90a) F0) ?_
    clear hK K t0 t1 t2 v0 v1 v2
    intro w90c hw90c
    refine tailS_step (fun K hK => ?_)
    go_simp
    refine hK _ _ (Ext.trans (below_put (C := w90a.heap.size) (Ext.trans (Below.alloc hw90a (Below.size hw90a) _) hw90b) (Below.size hw90a) F0) hw90c) ?_
    clear hK K
    intro w90 hw90
    refine tailS_nil ?_
    have E90 := tail_pt (c := F0) hw90a hw90b hw90c hw90
    clear hw90a hw90b hw90c hw90
    generalize w90a.heap.size = S90 at *
    clear w90a w90b w90c
    clear ek0 ek1 ek2 ek3 ek4 ek5 ea_0 ea_1 ea_2
    clear HA hw1 hw2 hz hy' ay0 ay1 hp5 hpM
    obtain ⟨X90, T90, -, -⟩ := E90
    replace H_k := hide (H_k.out.ext (X90))
    replace H_a := hide (H_a.out.ext (X90))
    replace H_g := hide (H_g.out.ext (X90))
    replace HB := hide (HB.out.trans (X90))
    clear X90
    clear w17
    obtain ⟨t0, t1, t2, -, -, -⟩ := T90
    clear t0 t1
    replace fF0 := fF0.out
    go_wp2_with fail
    refine (at_any a b off n cap f 0 _ (hs.of_all HB.out) hB hn (by omega)).mono ?_
    rintro e w' ⟨m0, rfl, m00, m01, hw⟩
    replace hw := hw.symm
    subst hw
    clear t2 fF0
    go_wp2_with fail
    refine (at_any a b off n cap f 1 _ (hs.of_all HB.out) hB hn (by omega)).mono ?_
    rintro e w' ⟨m1, rfl, m10, m11, hw⟩
    replace hw := hw.symm
    subst hw
    obtain ⟨M, hM⟩ : ∃ M, m0 * m1 = M := ⟨_, rfl⟩
    have M0 : 0 ≤ M := by rw [← hM]; exact Int.mul_nonneg m00 m10
    have M1 : M ≤ 65025 := by rw [← hM]; exact (mulBd m00 m01 m10 m11).2
    have hM2 : IntKind.i64.wrap (m0 * m1) = M := by rw [hM, IntKind.wrap_i64]; omega
    replace hM : wrap64 (m0 * m1) = M := by rw [hM]; unfold wrap64; omega
    go_wp2_with fail
    refine (at_any a b off n cap f 2 _ (hs.of_all HB.out) hB hn (by omega)).mono ?_
    rintro e w' ⟨m2, rfl, m20, m21, hw⟩
    replace hw := hw.symm
    subst hw
    try rw [hM]
    obtain ⟨X, hX⟩ : ∃ p, mulF P.toNat A M.toNat ⟨ax, ay, false⟩ = p := ⟨_, rfl⟩
    obtain ⟨Y, hY⟩ : ∃ p, mulF P.toNat A m2.toNat ⟨ax, ay, false⟩ = p := ⟨_, rfl⟩
    obtain ⟨Z, hZ⟩ : ∃ p, mulF P.toNat A (M + m2).toNat ⟨ax, ay, false⟩ = p := ⟨_, rfl⟩
    obtain ⟨G, hG⟩ : ∃ p, mulF P.toNat A M.toNat ⟨gx, gy, false⟩ = p := ⟨_, rfl⟩
    obtain ⟨D, hD⟩ : ∃ p, addF P.toNat A G Y = p := ⟨_, rfl⟩
    obtain ⟨F, hF⟩ : ∃ p, p = farP := ⟨_, rfl⟩
    have oX : Hid (On P.toNat A B X) := by rw [← hX]; exact hc.out.mul_on oa.out (by omega)
    have oY : Hid (On P.toNat A B Y) := by rw [← hY]; exact hc.out.mul_on oa.out (by omega)
    have oG : Hid (On P.toNat A B G) := by rw [← hG]; exact hc.out.mul_on og.out (by omega)
    have c1 := hide (mul_yes hc.out oa.out M0 (by omega) hX)
    have c2 := hide (mul_yes hc.out oa.out m20 (by omega) hY)
    have c3 := hide (mul_yes hc.out oa.out (show 0 ≤ M + m2 by omega) (by omega) hZ)
    have c4 := hide (add_yes (s := Z) hc.out oX.out oY.out (by rw [← hX, ← hY, ← hZ, hc.out.mul_add oa.out (by omega) (by omega), show M.toNat + m2.toNat = (M + m2).toNat by omega]))
    have c5 := hide (two_yes (s := D) hc.out oa.out M0 (by omega) m20 (by omega) (by rw [hG, hY, hD]))
    have c6 := hide (mul_yes hc.out og.out M0 (by omega) hG)
    have c7 := hide (add_yes hc.out oG.out oY.out hD)
    have c8 := hide (mul_yes (s := F) hc.out oa.out (show 0 ≤ N by have := hc.out.n5; omega) (by have := hc.out.nM; omega) (ofar.out.trans hF.symm))
    have fF : F.far = true := by rw [hF]; rfl
    clear hX hY hZ hG hD hF
    clear hM hM2 m00 m01 m10 m11
    obtain ⟨k0, k1, k2, k3, k4, k5⟩ := H_k.out
    have l_k := H_k.out.lt
    obtain ⟨a_0, a_1, a_2, -, -, -⟩ := H_a.out
    try dsimp only at a_0 a_1 a_2
    have l_a := H_a.out.lt
    go_wp2_with fail
    clear k0 k1 k2 k3 k4 k5 l_k a_0 a_1 a_2 l_a
    refine (c1.out _).mono ?_
    rintro r w18 ⟨rfl, hw18⟩
    replace H_k := hide (H_k.out.ext (hw18))
    replace H_a := hide (H_a.out.ext (hw18))
    replace H_g := hide (H_g.out.ext (hw18))
    replace HB := hide (HB.out.trans (hw18))
    clear hw18 w90
    obtain ⟨k0, k1, k2, k3, k4, k5⟩ := H_k.out
    have l_k := H_k.out.lt
    obtain ⟨a_0, a_1, a_2, -, -, -⟩ := H_a.out
    try dsimp only at a_0 a_1 a_2
    have l_a := H_a.out.lt
    go_wp2_with fail
    clear k0 k1 k2 k3 k4 k5 l_k a_0 a_1 a_2 l_a
    replace H_k := hide (H_k.out.ext (Ext.alloc w18 (.cells #[.int .i64 X.x, .int .i64 X.y, .bool X.far] 27)))
    replace H_a := hide (H_a.out.ext (Ext.alloc w18 (.cells #[.int .i64 X.x, .int .i64 X.y, .bool X.far] 27)))
    replace H_g := hide (H_g.out.ext (Ext.alloc w18 (.cells #[.int .i64 X.x, .int .i64 X.y, .bool X.far] 27)))
    replace HB := hide (HB.out.trans (Ext.alloc w18 (.cells #[.int .i64 X.x, .int .i64 X.y, .bool X.far] 27)))
    have H_x : Hid (PtAt (w18.alloc (.cells #[.int .i64 X.x, .int .i64 X.y, .bool X.far] 27)) w18.heap.size ⟨X.x, X.y, X.far⟩) := PtAt.alloc w18 ⟨X.x, X.y, X.far⟩ 27
    generalize (w18.alloc (.cells #[.int .i64 X.x, .int .i64 X.y, .bool X.far] 27)) = W19 at *
    generalize w18.heap.size = S19 at *
    clear w18
    refine (c2.out _).mono ?_
    rintro r w20 ⟨rfl, hw20⟩
    replace H_k := hide (H_k.out.ext (hw20))
    replace H_a := hide (H_a.out.ext (hw20))
    replace H_g := hide (H_g.out.ext (hw20))
    replace H_x := hide (H_x.out.ext (hw20))
    replace HB := hide (HB.out.trans (hw20))
    clear hw20 W19
    obtain ⟨k0, k1, k2, k3, k4, k5⟩ := H_k.out
    have l_k := H_k.out.lt
    obtain ⟨a_0, a_1, a_2, -, -, -⟩ := H_a.out
    try dsimp only at a_0 a_1 a_2
    have l_a := H_a.out.lt
    go_wp2_with fail
    clear k0 k1 k2 k3 k4 k5 l_k a_0 a_1 a_2 l_a
    replace H_k := hide (H_k.out.ext (Ext.alloc w20 (.cells #[.int .i64 Y.x, .int .i64 Y.y, .bool Y.far] 27)))
    replace H_a := hide (H_a.out.ext (Ext.alloc w20 (.cells #[.int .i64 Y.x, .int .i64 Y.y, .bool Y.far] 27)))
    replace H_g := hide (H_g.out.ext (Ext.alloc w20 (.cells #[.int .i64 Y.x, .int .i64 Y.y, .bool Y.far] 27)))
    replace H_x := hide (H_x.out.ext (Ext.alloc w20 (.cells #[.int .i64 Y.x, .int .i64 Y.y, .bool Y.far] 27)))
    replace HB := hide (HB.out.trans (Ext.alloc w20 (.cells #[.int .i64 Y.x, .int .i64 Y.y, .bool Y.far] 27)))
    have H_y : Hid (PtAt (w20.alloc (.cells #[.int .i64 Y.x, .int .i64 Y.y, .bool Y.far] 27)) w20.heap.size ⟨Y.x, Y.y, Y.far⟩) := PtAt.alloc w20 ⟨Y.x, Y.y, Y.far⟩ 27
    generalize (w20.alloc (.cells #[.int .i64 Y.x, .int .i64 Y.y, .bool Y.far] 27)) = W21 at *
    generalize w20.heap.size = S21 at *
    clear w20
    refine (c3.out _).mono ?_
    rintro r w22 ⟨rfl, hw22⟩
    replace H_k := hide (H_k.out.ext (hw22))
    replace H_a := hide (H_a.out.ext (hw22))
    replace H_g := hide (H_g.out.ext (hw22))
    replace H_x := hide (H_x.out.ext (hw22))
    replace H_y := hide (H_y.out.ext (hw22))
    replace HB := hide (HB.out.trans (hw22))
    clear hw22 W21
    obtain ⟨k0, k1, k2, k3, k4, k5⟩ := H_k.out
    have l_k := H_k.out.lt
    obtain ⟨x_0, x_1, x_2, -, -, -⟩ := H_x.out
    try dsimp only at x_0 x_1 x_2
    have l_x := H_x.out.lt
    obtain ⟨y_0, y_1, y_2, -, -, -⟩ := H_y.out
    try dsimp only at y_0 y_1 y_2
    have l_y := H_y.out.lt
    go_wp2_with fail
    clear k0 k1 k2 k3 k4 k5 l_k x_0 x_1 x_2 l_x y_0 y_1 y_2 l_y
    replace H_k := hide (H_k.out.ext (Ext.alloc w22 (.cells #[.int .i64 Z.x, .int .i64 Z.y, .bool Z.far] 27)))
    replace H_a := hide (H_a.out.ext (Ext.alloc w22 (.cells #[.int .i64 Z.x, .int .i64 Z.y, .bool Z.far] 27)))
    replace H_g := hide (H_g.out.ext (Ext.alloc w22 (.cells #[.int .i64 Z.x, .int .i64 Z.y, .bool Z.far] 27)))
    replace H_x := hide (H_x.out.ext (Ext.alloc w22 (.cells #[.int .i64 Z.x, .int .i64 Z.y, .bool Z.far] 27)))
    replace H_y := hide (H_y.out.ext (Ext.alloc w22 (.cells #[.int .i64 Z.x, .int .i64 Z.y, .bool Z.far] 27)))
    replace HB := hide (HB.out.trans (Ext.alloc w22 (.cells #[.int .i64 Z.x, .int .i64 Z.y, .bool Z.far] 27)))
    have H_z : Hid (PtAt (w22.alloc (.cells #[.int .i64 Z.x, .int .i64 Z.y, .bool Z.far] 27)) w22.heap.size ⟨Z.x, Z.y, Z.far⟩) := PtAt.alloc w22 ⟨Z.x, Z.y, Z.far⟩ 27
    generalize (w22.alloc (.cells #[.int .i64 Z.x, .int .i64 Z.y, .bool Z.far] 27)) = W23 at *
    generalize w22.heap.size = S23 at *
    clear w22
    refine (c4.out _).mono ?_
    rintro r w24 ⟨rfl, hw24⟩
    replace H_k := hide (H_k.out.ext (hw24))
    replace H_a := hide (H_a.out.ext (hw24))
    replace H_g := hide (H_g.out.ext (hw24))
    replace H_x := hide (H_x.out.ext (hw24))
    replace H_y := hide (H_y.out.ext (hw24))
    replace H_z := hide (H_z.out.ext (hw24))
    replace HB := hide (HB.out.trans (hw24))
    clear hw24 W23
    obtain ⟨k0, k1, k2, k3, k4, k5⟩ := H_k.out
    have l_k := H_k.out.lt
    obtain ⟨a_0, a_1, a_2, -, -, -⟩ := H_a.out
    try dsimp only at a_0 a_1 a_2
    have l_a := H_a.out.lt
    go_wp2_with fail
    clear k0 k1 k2 k3 k4 k5 l_k a_0 a_1 a_2 l_a
    replace H_k := hide (H_k.out.ext (Ext.alloc w24 (.cells #[.int .i64 Z.x, .int .i64 Z.y, .bool Z.far] 27)))
    replace H_a := hide (H_a.out.ext (Ext.alloc w24 (.cells #[.int .i64 Z.x, .int .i64 Z.y, .bool Z.far] 27)))
    replace H_g := hide (H_g.out.ext (Ext.alloc w24 (.cells #[.int .i64 Z.x, .int .i64 Z.y, .bool Z.far] 27)))
    replace H_x := hide (H_x.out.ext (Ext.alloc w24 (.cells #[.int .i64 Z.x, .int .i64 Z.y, .bool Z.far] 27)))
    replace H_y := hide (H_y.out.ext (Ext.alloc w24 (.cells #[.int .i64 Z.x, .int .i64 Z.y, .bool Z.far] 27)))
    replace H_z := hide (H_z.out.ext (Ext.alloc w24 (.cells #[.int .i64 Z.x, .int .i64 Z.y, .bool Z.far] 27)))
    replace HB := hide (HB.out.trans (Ext.alloc w24 (.cells #[.int .i64 Z.x, .int .i64 Z.y, .bool Z.far] 27)))
    have H_both : Hid (PtAt (w24.alloc (.cells #[.int .i64 Z.x, .int .i64 Z.y, .bool Z.far] 27)) w24.heap.size ⟨Z.x, Z.y, Z.far⟩) := PtAt.alloc w24 ⟨Z.x, Z.y, Z.far⟩ 27
    generalize (w24.alloc (.cells #[.int .i64 Z.x, .int .i64 Z.y, .bool Z.far] 27)) = W25 at *
    generalize w24.heap.size = S25 at *
    clear w24
    refine (c5.out _).mono ?_
    rintro r w26 ⟨rfl, hw26⟩
    replace H_k := hide (H_k.out.ext (hw26))
    replace H_a := hide (H_a.out.ext (hw26))
    replace H_g := hide (H_g.out.ext (hw26))
    replace H_x := hide (H_x.out.ext (hw26))
    replace H_y := hide (H_y.out.ext (hw26))
    replace H_z := hide (H_z.out.ext (hw26))
    replace H_both := hide (H_both.out.ext (hw26))
    replace HB := hide (HB.out.trans (hw26))
    clear hw26 W25
    obtain ⟨k0, k1, k2, k3, k4, k5⟩ := H_k.out
    have l_k := H_k.out.lt
    obtain ⟨g_0, g_1, g_2, -, -, -⟩ := H_g.out
    try dsimp only at g_0 g_1 g_2
    have l_g := H_g.out.lt
    go_wp2_with fail
    clear k0 k1 k2 k3 k4 k5 l_k g_0 g_1 g_2 l_g
    replace H_k := hide (H_k.out.ext (Ext.alloc w26 (.cells #[.int .i64 D.x, .int .i64 D.y, .bool D.far] 27)))
    replace H_a := hide (H_a.out.ext (Ext.alloc w26 (.cells #[.int .i64 D.x, .int .i64 D.y, .bool D.far] 27)))
    replace H_g := hide (H_g.out.ext (Ext.alloc w26 (.cells #[.int .i64 D.x, .int .i64 D.y, .bool D.far] 27)))
    replace H_x := hide (H_x.out.ext (Ext.alloc w26 (.cells #[.int .i64 D.x, .int .i64 D.y, .bool D.far] 27)))
    replace H_y := hide (H_y.out.ext (Ext.alloc w26 (.cells #[.int .i64 D.x, .int .i64 D.y, .bool D.far] 27)))
    replace H_z := hide (H_z.out.ext (Ext.alloc w26 (.cells #[.int .i64 D.x, .int .i64 D.y, .bool D.far] 27)))
    replace H_both := hide (H_both.out.ext (Ext.alloc w26 (.cells #[.int .i64 D.x, .int .i64 D.y, .bool D.far] 27)))
    replace HB := hide (HB.out.trans (Ext.alloc w26 (.cells #[.int .i64 D.x, .int .i64 D.y, .bool D.far] 27)))
    have H_two : Hid (PtAt (w26.alloc (.cells #[.int .i64 D.x, .int .i64 D.y, .bool D.far] 27)) w26.heap.size ⟨D.x, D.y, D.far⟩) := PtAt.alloc w26 ⟨D.x, D.y, D.far⟩ 27
    generalize (w26.alloc (.cells #[.int .i64 D.x, .int .i64 D.y, .bool D.far] 27)) = W27 at *
    generalize w26.heap.size = S27 at *
    clear w26
    refine (c6.out _).mono ?_
    rintro r w28 ⟨rfl, hw28⟩
    replace H_k := hide (H_k.out.ext (hw28))
    replace H_a := hide (H_a.out.ext (hw28))
    replace H_g := hide (H_g.out.ext (hw28))
    replace H_x := hide (H_x.out.ext (hw28))
    replace H_y := hide (H_y.out.ext (hw28))
    replace H_z := hide (H_z.out.ext (hw28))
    replace H_both := hide (H_both.out.ext (hw28))
    replace H_two := hide (H_two.out.ext (hw28))
    replace HB := hide (HB.out.trans (hw28))
    clear hw28 W27
    obtain ⟨k0, k1, k2, k3, k4, k5⟩ := H_k.out
    have l_k := H_k.out.lt
    obtain ⟨y_0, y_1, y_2, -, -, -⟩ := H_y.out
    try dsimp only at y_0 y_1 y_2
    have l_y := H_y.out.lt
    go_wp2_with fail
    clear k0 k1 k2 k3 k4 k5 l_k y_0 y_1 y_2 l_y
    replace H_k := hide (H_k.out.ext (Ext.alloc w28 (.cells #[.int .i64 G.x, .int .i64 G.y, .bool G.far] 27)))
    replace H_a := hide (H_a.out.ext (Ext.alloc w28 (.cells #[.int .i64 G.x, .int .i64 G.y, .bool G.far] 27)))
    replace H_g := hide (H_g.out.ext (Ext.alloc w28 (.cells #[.int .i64 G.x, .int .i64 G.y, .bool G.far] 27)))
    replace H_x := hide (H_x.out.ext (Ext.alloc w28 (.cells #[.int .i64 G.x, .int .i64 G.y, .bool G.far] 27)))
    replace H_y := hide (H_y.out.ext (Ext.alloc w28 (.cells #[.int .i64 G.x, .int .i64 G.y, .bool G.far] 27)))
    replace H_z := hide (H_z.out.ext (Ext.alloc w28 (.cells #[.int .i64 G.x, .int .i64 G.y, .bool G.far] 27)))
    replace H_both := hide (H_both.out.ext (Ext.alloc w28 (.cells #[.int .i64 G.x, .int .i64 G.y, .bool G.far] 27)))
    replace H_two := hide (H_two.out.ext (Ext.alloc w28 (.cells #[.int .i64 G.x, .int .i64 G.y, .bool G.far] 27)))
    replace HB := hide (HB.out.trans (Ext.alloc w28 (.cells #[.int .i64 G.x, .int .i64 G.y, .bool G.far] 27)))
    have H_mg : Hid (PtAt (w28.alloc (.cells #[.int .i64 G.x, .int .i64 G.y, .bool G.far] 27)) w28.heap.size ⟨G.x, G.y, G.far⟩) := PtAt.alloc w28 ⟨G.x, G.y, G.far⟩ 27
    generalize (w28.alloc (.cells #[.int .i64 G.x, .int .i64 G.y, .bool G.far] 27)) = W29 at *
    generalize w28.heap.size = S29 at *
    clear w28
    refine (c7.out _).mono ?_
    rintro r w30 ⟨rfl, hw30⟩
    replace H_k := hide (H_k.out.ext (hw30))
    replace H_a := hide (H_a.out.ext (hw30))
    replace H_g := hide (H_g.out.ext (hw30))
    replace H_x := hide (H_x.out.ext (hw30))
    replace H_y := hide (H_y.out.ext (hw30))
    replace H_z := hide (H_z.out.ext (hw30))
    replace H_both := hide (H_both.out.ext (hw30))
    replace H_two := hide (H_two.out.ext (hw30))
    replace H_mg := hide (H_mg.out.ext (hw30))
    replace HB := hide (HB.out.trans (hw30))
    clear hw30 W29
    obtain ⟨k0, k1, k2, k3, k4, k5⟩ := H_k.out
    have l_k := H_k.out.lt
    obtain ⟨a_0, a_1, a_2, -, -, -⟩ := H_a.out
    try dsimp only at a_0 a_1 a_2
    have l_a := H_a.out.lt
    go_wp2_with fail
    clear k0 k1 k2 k3 k4 k5 l_k a_0 a_1 a_2 l_a
    replace H_k := hide (H_k.out.ext (Ext.alloc w30 (.cells #[.int .i64 D.x, .int .i64 D.y, .bool D.far] 27)))
    replace H_a := hide (H_a.out.ext (Ext.alloc w30 (.cells #[.int .i64 D.x, .int .i64 D.y, .bool D.far] 27)))
    replace H_g := hide (H_g.out.ext (Ext.alloc w30 (.cells #[.int .i64 D.x, .int .i64 D.y, .bool D.far] 27)))
    replace H_x := hide (H_x.out.ext (Ext.alloc w30 (.cells #[.int .i64 D.x, .int .i64 D.y, .bool D.far] 27)))
    replace H_y := hide (H_y.out.ext (Ext.alloc w30 (.cells #[.int .i64 D.x, .int .i64 D.y, .bool D.far] 27)))
    replace H_z := hide (H_z.out.ext (Ext.alloc w30 (.cells #[.int .i64 D.x, .int .i64 D.y, .bool D.far] 27)))
    replace H_both := hide (H_both.out.ext (Ext.alloc w30 (.cells #[.int .i64 D.x, .int .i64 D.y, .bool D.far] 27)))
    replace H_two := hide (H_two.out.ext (Ext.alloc w30 (.cells #[.int .i64 D.x, .int .i64 D.y, .bool D.far] 27)))
    replace H_mg := hide (H_mg.out.ext (Ext.alloc w30 (.cells #[.int .i64 D.x, .int .i64 D.y, .bool D.far] 27)))
    replace HB := hide (HB.out.trans (Ext.alloc w30 (.cells #[.int .i64 D.x, .int .i64 D.y, .bool D.far] 27)))
    have H_sum : Hid (PtAt (w30.alloc (.cells #[.int .i64 D.x, .int .i64 D.y, .bool D.far] 27)) w30.heap.size ⟨D.x, D.y, D.far⟩) := PtAt.alloc w30 ⟨D.x, D.y, D.far⟩ 27
    generalize (w30.alloc (.cells #[.int .i64 D.x, .int .i64 D.y, .bool D.far] 27)) = W31 at *
    generalize w30.heap.size = S31 at *
    clear w30
    refine (c8.out _).mono ?_
    rintro r w32 ⟨rfl, hw32⟩
    replace H_k := hide (H_k.out.ext (hw32))
    replace H_a := hide (H_a.out.ext (hw32))
    replace H_g := hide (H_g.out.ext (hw32))
    replace H_x := hide (H_x.out.ext (hw32))
    replace H_y := hide (H_y.out.ext (hw32))
    replace H_z := hide (H_z.out.ext (hw32))
    replace H_both := hide (H_both.out.ext (hw32))
    replace H_two := hide (H_two.out.ext (hw32))
    replace H_mg := hide (H_mg.out.ext (hw32))
    replace H_sum := hide (H_sum.out.ext (hw32))
    replace HB := hide (HB.out.trans (hw32))
    clear hw32 W31
    clear c1 c2 c3 c4 c5 c6 c7 c8
    have hEq := run_eqPt_same
    obtain ⟨both_0, both_1, both_2, -, -, -⟩ := H_both.out
    try dsimp only at both_0 both_1 both_2
    have l_both := H_both.out.lt
    obtain ⟨z_0, z_1, z_2, -, -, -⟩ := H_z.out
    try dsimp only at z_0 z_1 z_2
    have l_z := H_z.out.lt
    obtain ⟨two_0, two_1, two_2, -, -, -⟩ := H_two.out
    try dsimp only at two_0 two_1 two_2
    have l_two := H_two.out.lt
    obtain ⟨sum_0, sum_1, sum_2, -, -, -⟩ := H_sum.out
    try dsimp only at sum_0 sum_1 sum_2
    have l_sum := H_sum.out.lt
    go_wp2
    go_ret
    exact ⟨rfl, Below.alloc HB.out (Below.size HB.out) _⟩
  · obtain ⟨k0, k1, k2, k3, k4, k5⟩ := H_k.out
    have l_k := H_k.out.lt
    obtain ⟨a_0, a_1, a_2, -, -, -⟩ := H_a.out
    try dsimp only at a_0 a_1 a_2
    have l_a := H_a.out.lt
    go_wp2_with fail
    refine (at_any a b off n cap f 0 _ (hs.of_all HB.out) hB hn (by omega)).mono ?_
    rintro e w' ⟨m0, rfl, m00, m01, hw⟩
    replace hw := hw.symm
    subst hw
    clear k0 k1 k2 k3 k4 k5 l_k a_0 a_1 a_2 l_a
    go_wp2_with fail
    refine (at_any a b off n cap f 1 _ (hs.of_all HB.out) hB hn (by omega)).mono ?_
    rintro e w' ⟨m1, rfl, m10, m11, hw⟩
    replace hw := hw.symm
    subst hw
    obtain ⟨M, hM⟩ : ∃ M, m0 * m1 = M := ⟨_, rfl⟩
    have M0 : 0 ≤ M := by rw [← hM]; exact Int.mul_nonneg m00 m10
    have M1 : M ≤ 65025 := by rw [← hM]; exact (mulBd m00 m01 m10 m11).2
    have hM2 : IntKind.i64.wrap (m0 * m1) = M := by rw [hM, IntKind.wrap_i64]; omega
    replace hM : wrap64 (m0 * m1) = M := by rw [hM]; unfold wrap64; omega
    go_wp2_with fail
    refine (at_any a b off n cap f 2 _ (hs.of_all HB.out) hB hn (by omega)).mono ?_
    rintro e w' ⟨m2, rfl, m20, m21, hw⟩
    replace hw := hw.symm
    subst hw
    try rw [hM]
    obtain ⟨X, hX⟩ : ∃ p, mulF P.toNat A M.toNat ⟨ax, ay, true⟩ = p := ⟨_, rfl⟩
    obtain ⟨Y, hY⟩ : ∃ p, mulF P.toNat A m2.toNat ⟨ax, ay, true⟩ = p := ⟨_, rfl⟩
    obtain ⟨Z, hZ⟩ : ∃ p, mulF P.toNat A (M + m2).toNat ⟨ax, ay, true⟩ = p := ⟨_, rfl⟩
    obtain ⟨G, hG⟩ : ∃ p, mulF P.toNat A M.toNat ⟨gx, gy, false⟩ = p := ⟨_, rfl⟩
    obtain ⟨D, hD⟩ : ∃ p, addF P.toNat A G Y = p := ⟨_, rfl⟩
    obtain ⟨F, hF⟩ : ∃ p, p = farP := ⟨_, rfl⟩
    have oX : Hid (On P.toNat A B X) := by rw [← hX]; exact hc.out.mul_on oa.out (by omega)
    have oY : Hid (On P.toNat A B Y) := by rw [← hY]; exact hc.out.mul_on oa.out (by omega)
    have oG : Hid (On P.toNat A B G) := by rw [← hG]; exact hc.out.mul_on og.out (by omega)
    have c1 := hide (mul_yes hc.out oa.out M0 (by omega) hX)
    have c2 := hide (mul_yes hc.out oa.out m20 (by omega) hY)
    have c3 := hide (mul_yes hc.out oa.out (show 0 ≤ M + m2 by omega) (by omega) hZ)
    have c4 := hide (add_yes (s := Z) hc.out oX.out oY.out (by rw [← hX, ← hY, ← hZ, hc.out.mul_add oa.out (by omega) (by omega), show M.toNat + m2.toNat = (M + m2).toNat by omega]))
    have c5 := hide (two_yes (s := D) hc.out oa.out M0 (by omega) m20 (by omega) (by rw [hG, hY, hD]))
    have c6 := hide (mul_yes hc.out og.out M0 (by omega) hG)
    have c7 := hide (add_yes hc.out oG.out oY.out hD)
    have c8 := hide (mul_yes (s := F) hc.out oa.out (show 0 ≤ N by have := hc.out.n5; omega) (by have := hc.out.nM; omega) (ofar.out.trans hF.symm))
    have fF : F.far = true := by rw [hF]; rfl
    clear hX hY hZ hG hD hF
    clear hM hM2 m00 m01 m10 m11
    obtain ⟨k0, k1, k2, k3, k4, k5⟩ := H_k.out
    have l_k := H_k.out.lt
    obtain ⟨a_0, a_1, a_2, -, -, -⟩ := H_a.out
    try dsimp only at a_0 a_1 a_2
    have l_a := H_a.out.lt
    go_wp2_with fail
    clear k0 k1 k2 k3 k4 k5 l_k a_0 a_1 a_2 l_a
    refine (c1.out _).mono ?_
    rintro r w18 ⟨rfl, hw18⟩
    replace H_k := hide (H_k.out.ext (hw18))
    replace H_a := hide (H_a.out.ext (hw18))
    replace H_g := hide (H_g.out.ext (hw18))
    replace HB := hide (HB.out.trans (hw18))
    clear hw18 w17
    obtain ⟨k0, k1, k2, k3, k4, k5⟩ := H_k.out
    have l_k := H_k.out.lt
    obtain ⟨a_0, a_1, a_2, -, -, -⟩ := H_a.out
    try dsimp only at a_0 a_1 a_2
    have l_a := H_a.out.lt
    go_wp2_with fail
    clear k0 k1 k2 k3 k4 k5 l_k a_0 a_1 a_2 l_a
    replace H_k := hide (H_k.out.ext (Ext.alloc w18 (.cells #[.int .i64 X.x, .int .i64 X.y, .bool X.far] 27)))
    replace H_a := hide (H_a.out.ext (Ext.alloc w18 (.cells #[.int .i64 X.x, .int .i64 X.y, .bool X.far] 27)))
    replace H_g := hide (H_g.out.ext (Ext.alloc w18 (.cells #[.int .i64 X.x, .int .i64 X.y, .bool X.far] 27)))
    replace HB := hide (HB.out.trans (Ext.alloc w18 (.cells #[.int .i64 X.x, .int .i64 X.y, .bool X.far] 27)))
    have H_x : Hid (PtAt (w18.alloc (.cells #[.int .i64 X.x, .int .i64 X.y, .bool X.far] 27)) w18.heap.size ⟨X.x, X.y, X.far⟩) := PtAt.alloc w18 ⟨X.x, X.y, X.far⟩ 27
    generalize (w18.alloc (.cells #[.int .i64 X.x, .int .i64 X.y, .bool X.far] 27)) = W19 at *
    generalize w18.heap.size = S19 at *
    clear w18
    refine (c2.out _).mono ?_
    rintro r w20 ⟨rfl, hw20⟩
    replace H_k := hide (H_k.out.ext (hw20))
    replace H_a := hide (H_a.out.ext (hw20))
    replace H_g := hide (H_g.out.ext (hw20))
    replace H_x := hide (H_x.out.ext (hw20))
    replace HB := hide (HB.out.trans (hw20))
    clear hw20 W19
    obtain ⟨k0, k1, k2, k3, k4, k5⟩ := H_k.out
    have l_k := H_k.out.lt
    obtain ⟨a_0, a_1, a_2, -, -, -⟩ := H_a.out
    try dsimp only at a_0 a_1 a_2
    have l_a := H_a.out.lt
    go_wp2_with fail
    clear k0 k1 k2 k3 k4 k5 l_k a_0 a_1 a_2 l_a
    replace H_k := hide (H_k.out.ext (Ext.alloc w20 (.cells #[.int .i64 Y.x, .int .i64 Y.y, .bool Y.far] 27)))
    replace H_a := hide (H_a.out.ext (Ext.alloc w20 (.cells #[.int .i64 Y.x, .int .i64 Y.y, .bool Y.far] 27)))
    replace H_g := hide (H_g.out.ext (Ext.alloc w20 (.cells #[.int .i64 Y.x, .int .i64 Y.y, .bool Y.far] 27)))
    replace H_x := hide (H_x.out.ext (Ext.alloc w20 (.cells #[.int .i64 Y.x, .int .i64 Y.y, .bool Y.far] 27)))
    replace HB := hide (HB.out.trans (Ext.alloc w20 (.cells #[.int .i64 Y.x, .int .i64 Y.y, .bool Y.far] 27)))
    have H_y : Hid (PtAt (w20.alloc (.cells #[.int .i64 Y.x, .int .i64 Y.y, .bool Y.far] 27)) w20.heap.size ⟨Y.x, Y.y, Y.far⟩) := PtAt.alloc w20 ⟨Y.x, Y.y, Y.far⟩ 27
    generalize (w20.alloc (.cells #[.int .i64 Y.x, .int .i64 Y.y, .bool Y.far] 27)) = W21 at *
    generalize w20.heap.size = S21 at *
    clear w20
    refine (c3.out _).mono ?_
    rintro r w22 ⟨rfl, hw22⟩
    replace H_k := hide (H_k.out.ext (hw22))
    replace H_a := hide (H_a.out.ext (hw22))
    replace H_g := hide (H_g.out.ext (hw22))
    replace H_x := hide (H_x.out.ext (hw22))
    replace H_y := hide (H_y.out.ext (hw22))
    replace HB := hide (HB.out.trans (hw22))
    clear hw22 W21
    obtain ⟨k0, k1, k2, k3, k4, k5⟩ := H_k.out
    have l_k := H_k.out.lt
    obtain ⟨x_0, x_1, x_2, -, -, -⟩ := H_x.out
    try dsimp only at x_0 x_1 x_2
    have l_x := H_x.out.lt
    obtain ⟨y_0, y_1, y_2, -, -, -⟩ := H_y.out
    try dsimp only at y_0 y_1 y_2
    have l_y := H_y.out.lt
    go_wp2_with fail
    clear k0 k1 k2 k3 k4 k5 l_k x_0 x_1 x_2 l_x y_0 y_1 y_2 l_y
    replace H_k := hide (H_k.out.ext (Ext.alloc w22 (.cells #[.int .i64 Z.x, .int .i64 Z.y, .bool Z.far] 27)))
    replace H_a := hide (H_a.out.ext (Ext.alloc w22 (.cells #[.int .i64 Z.x, .int .i64 Z.y, .bool Z.far] 27)))
    replace H_g := hide (H_g.out.ext (Ext.alloc w22 (.cells #[.int .i64 Z.x, .int .i64 Z.y, .bool Z.far] 27)))
    replace H_x := hide (H_x.out.ext (Ext.alloc w22 (.cells #[.int .i64 Z.x, .int .i64 Z.y, .bool Z.far] 27)))
    replace H_y := hide (H_y.out.ext (Ext.alloc w22 (.cells #[.int .i64 Z.x, .int .i64 Z.y, .bool Z.far] 27)))
    replace HB := hide (HB.out.trans (Ext.alloc w22 (.cells #[.int .i64 Z.x, .int .i64 Z.y, .bool Z.far] 27)))
    have H_z : Hid (PtAt (w22.alloc (.cells #[.int .i64 Z.x, .int .i64 Z.y, .bool Z.far] 27)) w22.heap.size ⟨Z.x, Z.y, Z.far⟩) := PtAt.alloc w22 ⟨Z.x, Z.y, Z.far⟩ 27
    generalize (w22.alloc (.cells #[.int .i64 Z.x, .int .i64 Z.y, .bool Z.far] 27)) = W23 at *
    generalize w22.heap.size = S23 at *
    clear w22
    refine (c4.out _).mono ?_
    rintro r w24 ⟨rfl, hw24⟩
    replace H_k := hide (H_k.out.ext (hw24))
    replace H_a := hide (H_a.out.ext (hw24))
    replace H_g := hide (H_g.out.ext (hw24))
    replace H_x := hide (H_x.out.ext (hw24))
    replace H_y := hide (H_y.out.ext (hw24))
    replace H_z := hide (H_z.out.ext (hw24))
    replace HB := hide (HB.out.trans (hw24))
    clear hw24 W23
    obtain ⟨k0, k1, k2, k3, k4, k5⟩ := H_k.out
    have l_k := H_k.out.lt
    obtain ⟨a_0, a_1, a_2, -, -, -⟩ := H_a.out
    try dsimp only at a_0 a_1 a_2
    have l_a := H_a.out.lt
    go_wp2_with fail
    clear k0 k1 k2 k3 k4 k5 l_k a_0 a_1 a_2 l_a
    replace H_k := hide (H_k.out.ext (Ext.alloc w24 (.cells #[.int .i64 Z.x, .int .i64 Z.y, .bool Z.far] 27)))
    replace H_a := hide (H_a.out.ext (Ext.alloc w24 (.cells #[.int .i64 Z.x, .int .i64 Z.y, .bool Z.far] 27)))
    replace H_g := hide (H_g.out.ext (Ext.alloc w24 (.cells #[.int .i64 Z.x, .int .i64 Z.y, .bool Z.far] 27)))
    replace H_x := hide (H_x.out.ext (Ext.alloc w24 (.cells #[.int .i64 Z.x, .int .i64 Z.y, .bool Z.far] 27)))
    replace H_y := hide (H_y.out.ext (Ext.alloc w24 (.cells #[.int .i64 Z.x, .int .i64 Z.y, .bool Z.far] 27)))
    replace H_z := hide (H_z.out.ext (Ext.alloc w24 (.cells #[.int .i64 Z.x, .int .i64 Z.y, .bool Z.far] 27)))
    replace HB := hide (HB.out.trans (Ext.alloc w24 (.cells #[.int .i64 Z.x, .int .i64 Z.y, .bool Z.far] 27)))
    have H_both : Hid (PtAt (w24.alloc (.cells #[.int .i64 Z.x, .int .i64 Z.y, .bool Z.far] 27)) w24.heap.size ⟨Z.x, Z.y, Z.far⟩) := PtAt.alloc w24 ⟨Z.x, Z.y, Z.far⟩ 27
    generalize (w24.alloc (.cells #[.int .i64 Z.x, .int .i64 Z.y, .bool Z.far] 27)) = W25 at *
    generalize w24.heap.size = S25 at *
    clear w24
    refine (c5.out _).mono ?_
    rintro r w26 ⟨rfl, hw26⟩
    replace H_k := hide (H_k.out.ext (hw26))
    replace H_a := hide (H_a.out.ext (hw26))
    replace H_g := hide (H_g.out.ext (hw26))
    replace H_x := hide (H_x.out.ext (hw26))
    replace H_y := hide (H_y.out.ext (hw26))
    replace H_z := hide (H_z.out.ext (hw26))
    replace H_both := hide (H_both.out.ext (hw26))
    replace HB := hide (HB.out.trans (hw26))
    clear hw26 W25
    obtain ⟨k0, k1, k2, k3, k4, k5⟩ := H_k.out
    have l_k := H_k.out.lt
    obtain ⟨g_0, g_1, g_2, -, -, -⟩ := H_g.out
    try dsimp only at g_0 g_1 g_2
    have l_g := H_g.out.lt
    go_wp2_with fail
    clear k0 k1 k2 k3 k4 k5 l_k g_0 g_1 g_2 l_g
    replace H_k := hide (H_k.out.ext (Ext.alloc w26 (.cells #[.int .i64 D.x, .int .i64 D.y, .bool D.far] 27)))
    replace H_a := hide (H_a.out.ext (Ext.alloc w26 (.cells #[.int .i64 D.x, .int .i64 D.y, .bool D.far] 27)))
    replace H_g := hide (H_g.out.ext (Ext.alloc w26 (.cells #[.int .i64 D.x, .int .i64 D.y, .bool D.far] 27)))
    replace H_x := hide (H_x.out.ext (Ext.alloc w26 (.cells #[.int .i64 D.x, .int .i64 D.y, .bool D.far] 27)))
    replace H_y := hide (H_y.out.ext (Ext.alloc w26 (.cells #[.int .i64 D.x, .int .i64 D.y, .bool D.far] 27)))
    replace H_z := hide (H_z.out.ext (Ext.alloc w26 (.cells #[.int .i64 D.x, .int .i64 D.y, .bool D.far] 27)))
    replace H_both := hide (H_both.out.ext (Ext.alloc w26 (.cells #[.int .i64 D.x, .int .i64 D.y, .bool D.far] 27)))
    replace HB := hide (HB.out.trans (Ext.alloc w26 (.cells #[.int .i64 D.x, .int .i64 D.y, .bool D.far] 27)))
    have H_two : Hid (PtAt (w26.alloc (.cells #[.int .i64 D.x, .int .i64 D.y, .bool D.far] 27)) w26.heap.size ⟨D.x, D.y, D.far⟩) := PtAt.alloc w26 ⟨D.x, D.y, D.far⟩ 27
    generalize (w26.alloc (.cells #[.int .i64 D.x, .int .i64 D.y, .bool D.far] 27)) = W27 at *
    generalize w26.heap.size = S27 at *
    clear w26
    refine (c6.out _).mono ?_
    rintro r w28 ⟨rfl, hw28⟩
    replace H_k := hide (H_k.out.ext (hw28))
    replace H_a := hide (H_a.out.ext (hw28))
    replace H_g := hide (H_g.out.ext (hw28))
    replace H_x := hide (H_x.out.ext (hw28))
    replace H_y := hide (H_y.out.ext (hw28))
    replace H_z := hide (H_z.out.ext (hw28))
    replace H_both := hide (H_both.out.ext (hw28))
    replace H_two := hide (H_two.out.ext (hw28))
    replace HB := hide (HB.out.trans (hw28))
    clear hw28 W27
    obtain ⟨k0, k1, k2, k3, k4, k5⟩ := H_k.out
    have l_k := H_k.out.lt
    obtain ⟨y_0, y_1, y_2, -, -, -⟩ := H_y.out
    try dsimp only at y_0 y_1 y_2
    have l_y := H_y.out.lt
    go_wp2_with fail
    clear k0 k1 k2 k3 k4 k5 l_k y_0 y_1 y_2 l_y
    replace H_k := hide (H_k.out.ext (Ext.alloc w28 (.cells #[.int .i64 G.x, .int .i64 G.y, .bool G.far] 27)))
    replace H_a := hide (H_a.out.ext (Ext.alloc w28 (.cells #[.int .i64 G.x, .int .i64 G.y, .bool G.far] 27)))
    replace H_g := hide (H_g.out.ext (Ext.alloc w28 (.cells #[.int .i64 G.x, .int .i64 G.y, .bool G.far] 27)))
    replace H_x := hide (H_x.out.ext (Ext.alloc w28 (.cells #[.int .i64 G.x, .int .i64 G.y, .bool G.far] 27)))
    replace H_y := hide (H_y.out.ext (Ext.alloc w28 (.cells #[.int .i64 G.x, .int .i64 G.y, .bool G.far] 27)))
    replace H_z := hide (H_z.out.ext (Ext.alloc w28 (.cells #[.int .i64 G.x, .int .i64 G.y, .bool G.far] 27)))
    replace H_both := hide (H_both.out.ext (Ext.alloc w28 (.cells #[.int .i64 G.x, .int .i64 G.y, .bool G.far] 27)))
    replace H_two := hide (H_two.out.ext (Ext.alloc w28 (.cells #[.int .i64 G.x, .int .i64 G.y, .bool G.far] 27)))
    replace HB := hide (HB.out.trans (Ext.alloc w28 (.cells #[.int .i64 G.x, .int .i64 G.y, .bool G.far] 27)))
    have H_mg : Hid (PtAt (w28.alloc (.cells #[.int .i64 G.x, .int .i64 G.y, .bool G.far] 27)) w28.heap.size ⟨G.x, G.y, G.far⟩) := PtAt.alloc w28 ⟨G.x, G.y, G.far⟩ 27
    generalize (w28.alloc (.cells #[.int .i64 G.x, .int .i64 G.y, .bool G.far] 27)) = W29 at *
    generalize w28.heap.size = S29 at *
    clear w28
    refine (c7.out _).mono ?_
    rintro r w30 ⟨rfl, hw30⟩
    replace H_k := hide (H_k.out.ext (hw30))
    replace H_a := hide (H_a.out.ext (hw30))
    replace H_g := hide (H_g.out.ext (hw30))
    replace H_x := hide (H_x.out.ext (hw30))
    replace H_y := hide (H_y.out.ext (hw30))
    replace H_z := hide (H_z.out.ext (hw30))
    replace H_both := hide (H_both.out.ext (hw30))
    replace H_two := hide (H_two.out.ext (hw30))
    replace H_mg := hide (H_mg.out.ext (hw30))
    replace HB := hide (HB.out.trans (hw30))
    clear hw30 W29
    obtain ⟨k0, k1, k2, k3, k4, k5⟩ := H_k.out
    have l_k := H_k.out.lt
    obtain ⟨a_0, a_1, a_2, -, -, -⟩ := H_a.out
    try dsimp only at a_0 a_1 a_2
    have l_a := H_a.out.lt
    go_wp2_with fail
    clear k0 k1 k2 k3 k4 k5 l_k a_0 a_1 a_2 l_a
    replace H_k := hide (H_k.out.ext (Ext.alloc w30 (.cells #[.int .i64 D.x, .int .i64 D.y, .bool D.far] 27)))
    replace H_a := hide (H_a.out.ext (Ext.alloc w30 (.cells #[.int .i64 D.x, .int .i64 D.y, .bool D.far] 27)))
    replace H_g := hide (H_g.out.ext (Ext.alloc w30 (.cells #[.int .i64 D.x, .int .i64 D.y, .bool D.far] 27)))
    replace H_x := hide (H_x.out.ext (Ext.alloc w30 (.cells #[.int .i64 D.x, .int .i64 D.y, .bool D.far] 27)))
    replace H_y := hide (H_y.out.ext (Ext.alloc w30 (.cells #[.int .i64 D.x, .int .i64 D.y, .bool D.far] 27)))
    replace H_z := hide (H_z.out.ext (Ext.alloc w30 (.cells #[.int .i64 D.x, .int .i64 D.y, .bool D.far] 27)))
    replace H_both := hide (H_both.out.ext (Ext.alloc w30 (.cells #[.int .i64 D.x, .int .i64 D.y, .bool D.far] 27)))
    replace H_two := hide (H_two.out.ext (Ext.alloc w30 (.cells #[.int .i64 D.x, .int .i64 D.y, .bool D.far] 27)))
    replace H_mg := hide (H_mg.out.ext (Ext.alloc w30 (.cells #[.int .i64 D.x, .int .i64 D.y, .bool D.far] 27)))
    replace HB := hide (HB.out.trans (Ext.alloc w30 (.cells #[.int .i64 D.x, .int .i64 D.y, .bool D.far] 27)))
    have H_sum : Hid (PtAt (w30.alloc (.cells #[.int .i64 D.x, .int .i64 D.y, .bool D.far] 27)) w30.heap.size ⟨D.x, D.y, D.far⟩) := PtAt.alloc w30 ⟨D.x, D.y, D.far⟩ 27
    generalize (w30.alloc (.cells #[.int .i64 D.x, .int .i64 D.y, .bool D.far] 27)) = W31 at *
    generalize w30.heap.size = S31 at *
    clear w30
    refine (c8.out _).mono ?_
    rintro r w32 ⟨rfl, hw32⟩
    replace H_k := hide (H_k.out.ext (hw32))
    replace H_a := hide (H_a.out.ext (hw32))
    replace H_g := hide (H_g.out.ext (hw32))
    replace H_x := hide (H_x.out.ext (hw32))
    replace H_y := hide (H_y.out.ext (hw32))
    replace H_z := hide (H_z.out.ext (hw32))
    replace H_both := hide (H_both.out.ext (hw32))
    replace H_two := hide (H_two.out.ext (hw32))
    replace H_mg := hide (H_mg.out.ext (hw32))
    replace H_sum := hide (H_sum.out.ext (hw32))
    replace HB := hide (HB.out.trans (hw32))
    clear hw32 W31
    clear c1 c2 c3 c4 c5 c6 c7 c8
    have hEq := run_eqPt_same
    obtain ⟨both_0, both_1, both_2, -, -, -⟩ := H_both.out
    try dsimp only at both_0 both_1 both_2
    have l_both := H_both.out.lt
    obtain ⟨z_0, z_1, z_2, -, -, -⟩ := H_z.out
    try dsimp only at z_0 z_1 z_2
    have l_z := H_z.out.lt
    obtain ⟨two_0, two_1, two_2, -, -, -⟩ := H_two.out
    try dsimp only at two_0 two_1 two_2
    have l_two := H_two.out.lt
    obtain ⟨sum_0, sum_1, sum_2, -, -, -⟩ := H_sum.out
    try dsimp only at sum_0 sum_1 sum_2
    have l_sum := H_sum.out.lt
    go_wp2
    go_ret
    exact ⟨rfl, Below.alloc HB.out (Below.size HB.out) _⟩

end Go.Proofs.YtejlgcnhfomadaaDoor
