/- Proved: at every curve, two numbers and a point the law FnExactTwoMul answers true: the program's TwoMul answers as the model's; a tied card: the two tables of math/bits lie as the program's text lays them. No other condition. -/
import Derived.Test.YtejlgcnhfomadabDoorRows
import Derived.WalkKit
import Derived.ProofKit
import Derived.OpenShut
import Derived.ShutString
import Derived.Test.YtejlgcnhfomadabDoorCards
import Derived.Test.YtejlgcnhfomadabDoorTie
import Derived.Test.YtejlgcnhfomadabDoorAggs
import Derived.Test.YtejlgcnhfomadabDoorCurW
import Derived.Test.YtejlgcnhfomadabDoorCurveX
import Derived.Test.YtejlgcnhfomadabDoorCurveY
import Derived.Test.YtejlgcnhfomadabDoorTz
import Derived.Below
import Derived.ChangeOld
import Derived.LaidMore
import Derived.Stop.Joined
import Derived.SevenTiedAt
namespace Go.Proofs.YtejlgcnhfomadabDoor.fnExactTwoMul
open Go.ChangeShapes Go.WideShapes Go.ChangeAt Go.RowKit
open Go.ChangeMaps (open_string shut_string)
set_option linter.unusedVariables false

theorem own : ownKnob Tryd.prog.godebug = none := by kernel_rfl

open Go.Sort in
set_option maxHeartbeats 4000000 in
set_option maxRecDepth 100000 in
theorem law (P A B N gx gy u v : Int) (a : Pt) (hP1 : P ≤ 9223372036854775807) (hN1 : N ≤ 9223372036854775807) (w : World) :
    Calls Tryd.prog 4 #[.agg #[.int .i64 P, .int .i64 A, .int .i64 B, .int .i64 N, .int .i64 gx, .int .i64 gy], .int .i64 u, .int .i64 v, .agg #[.int .i64 a.x, .int .i64 a.y, .bool a.far]] w fun e w' => e = .returned (.bool true) ∧ Below w.heap.size w w' := by
  obtain ⟨c, ok, hA⟩ := optPt_some (TwoQ P A B N gx gy u v a) (addF P.toNat A (mulF P.toNat A u.toNat ⟨gx, gy, false⟩) (mulF P.toNat A v.toNat a))
  have HS := hide (fun w => givesPt_at hA (specTwoMul_any P A B N gx gy u v a w hP1 hN1))
  have HI := hide (fun w => givesPt_at hA (implTwoMul_any P A B N gx gy u v a w hP1 hN1))
  clear hA
  have F := Fr2b w P A B N gx gy a 23 25
  have HF := hide F
  have hz0 : ((w.alloc (.cells #[.int .i64 P, .int .i64 A, .int .i64 B, .int .i64 N, .int .i64 gx, .int .i64 gy] 23)).alloc (.cells #[.int .i64 a.x, .int .i64 a.y, .bool a.far] 25)).heap.size = w.heap.size + 2 := by simp
  have HZ := hide hz0
  have HB : Hid (Below w.heap.size w ((w.alloc (.cells #[.int .i64 P, .int .i64 A, .int .i64 B, .int .i64 N, .int .i64 gx, .int .i64 gy] 23)).alloc (.cells #[.int .i64 a.x, .int .i64 a.y, .bool a.far] 25))) := ((Below.refl _ _).alloc (Nat.le_refl _) _).alloc (by simp) _
  clear hz0
  obtain ⟨⟨k0, k1, k2, k3, k4, k5⟩, ⟨a0, a1, a2, -, -, -⟩⟩ := F
  have e0 := cell_regrown k0
  have e1 := cell_regrown k1
  have e2 := cell_regrown k2
  have e3 := cell_regrown k3
  have e4 := cell_regrown k4
  have e5 := cell_regrown k5
  have f0 := cell_regrown a0
  have f1 := cell_regrown a1
  have f2 := cell_regrown a2
  clear k0 k1 k2 k3 k4 k5 a0 a1 a2
  go_enter Tryd.func4, Tryd.ntmps4
  go_wp2
  refine region_heads 10 (by kernel_rfl) (by decide) (by kernel_rfl) (fun _ _ d _ _ h => by cases d <;> exact h) ?_
  repeat (refine headS_step (fun K hK => ?_); go_simp; first | (refine hK _ ?_; clear hK K) | (apply Exists.intro; refine ⟨fun _ => ?_, hK _ ?_⟩; (first | (go_at_call 10; exact calls_head (toCurve_any _ _ _ _ _ _ _)) | (go_at_call 11; exact calls_head (toPoint_any _ _ _ _)) | (go_at_call 14; exact calls_head (HS.out _))); clear hK K))
  refine headS_nil ?_
  intro w1a hw1a
  refine tailS_step (fun K hK => ?_)
  go_simp
  refine hK _ _ (Below.alloc hw1a (Below.size hw1a) _) ?_
  clear hK K
  intro w1b hw1b
  have T1 := PtAt.below (PtAt.alloc w1a zeroP 26) hw1b (by simp)
  obtain ⟨t0, t1, t2, v0, v1, v2⟩ := T1
  simp only [zeroP] at t0 t1 t2
  refine tailS_step (fun K hK => ?_)
  go_simp
  refine hK _ _ (below_put (C := w1a.heap.size) (Ext.trans (Below.alloc hw1a (Below.size hw1a) _) hw1b) (Below.size hw1a) c) ?_
  clear hK K t0 t1 t2 v0 v1 v2
  intro w1c hw1c
  refine tailS_step (fun K hK => ?_)
  go_simp
  refine hK _ _ (Ext.trans (below_put (C := w1a.heap.size) (Ext.trans (Below.alloc hw1a (Below.size hw1a) _) hw1b) (Below.size hw1a) c) hw1c) ?_
  clear hK K
  intro w1 hw1
  refine tailS_nil ?_
  have E1 := tail_pt (c := c) hw1a hw1b hw1c hw1
  clear hw1a hw1b hw1c hw1
  generalize w1a.heap.size = S1 at *
  clear w1a w1b w1c
  clear e0 e1 e2 e3 e4 e5 f0 f1 f2
  obtain ⟨X1, T1, s1, s2⟩ := E1
  rw [HZ.out] at s1
  have K1 := HF.out.1.below X1 (by rw [HZ.out]; omega)
  have P1 := HF.out.2.below X1 (by rw [HZ.out]; omega)
  have B1 : Hid (Below w.heap.size w w1) := HB.out.trans (Below.mono X1 (by rw [HZ.out]; omega))
  have HT := hide T1
  clear X1 T1 HF HB HZ
  obtain ⟨k0, k1, k2, k3, k4, k5⟩ := K1
  obtain ⟨a0, a1, a2, -, -, -⟩ := P1
  have e0 := cell_regrown k0
  have e1 := cell_regrown k1
  have e2 := cell_regrown k2
  have e3 := cell_regrown k3
  have e4 := cell_regrown k4
  have e5 := cell_regrown k5
  have f0 := cell_regrown a0
  have f1 := cell_regrown a1
  have f2 := cell_regrown a2
  clear k0 k1 k2 k3 k4 k5 a0 a1 a2
  go_wp2
  refine region_heads 10 (by kernel_rfl) (by decide) (by kernel_rfl) (fun _ _ d _ _ h => by cases d <;> exact h) ?_
  repeat (refine headS_step (fun K hK => ?_); go_simp; first | (refine hK _ ?_; clear hK K) | (apply Exists.intro; refine ⟨fun _ => ?_, hK _ ?_⟩; (first | (go_at_call 10; exact calls_head (toCurve_any _ _ _ _ _ _ _)) | (go_at_call 11; exact calls_head (toPoint_any _ _ _ _)) | (go_at_call 15; exact calls_head (HI.out _))); clear hK K))
  refine headS_nil ?_
  intro w2a hw2a
  refine tailS_step (fun K hK => ?_)
  go_simp
  refine hK _ _ (Below.alloc hw2a (Below.size hw2a) _) ?_
  clear hK K
  intro w2b hw2b
  have T2 := PtAt.below (PtAt.alloc w2a zeroP 26) hw2b (by simp)
  obtain ⟨t0, t1, t2, v0, v1, v2⟩ := T2
  simp only [zeroP] at t0 t1 t2
  refine tailS_step (fun K hK => ?_)
  go_simp
  refine hK _ _ (below_put (C := w2a.heap.size) (Ext.trans (Below.alloc hw2a (Below.size hw2a) _) hw2b) (Below.size hw2a) c) ?_
  clear hK K t0 t1 t2 v0 v1 v2
  intro w2c hw2c
  refine tailS_step (fun K hK => ?_)
  go_simp
  refine hK _ _ (Ext.trans (below_put (C := w2a.heap.size) (Ext.trans (Below.alloc hw2a (Below.size hw2a) _) hw2b) (Below.size hw2a) c) hw2c) ?_
  clear hK K
  intro w2 hw2
  refine tailS_nil ?_
  have E2 := tail_pt (c := c) hw2a hw2b hw2c hw2
  clear hw2a hw2b hw2c hw2
  generalize w2a.heap.size = S2 at *
  clear w2a w2b w2c
  clear e0 e1 e2 e3 e4 e5 f0 f1 f2
  obtain ⟨X2, T2, s3, s4⟩ := E2
  have T1 := HT.out.below X2 (by omega)
  have B2 : Hid (Below w.heap.size w w2) := B1.out.trans (Below.mono X2 (by omega))
  clear X2 B1 HT
  obtain ⟨t0, t1, t2, -, -, -⟩ := T1
  obtain ⟨u0, u1, u2, -, -, -⟩ := T2
  have hb : (ok != ok) = false := by simp
  go_wp2_with fail
  refine (eqPoint_same c.x c.y c.far _).mono ?_
  rintro e w3 ⟨rfl, hw3⟩
  have B3 : Hid (Below w.heap.size w w3) := B2.out.trans (hw3.mono (by omega))
  clear hw3 B2 t0 t1 t2 u0 u1 u2
  go_wp2
  go_ret
  exact ⟨rfl, B3.out⟩

theorem walk (a0_0 a0_1 a0_2 a0_3 a0_4 a0_5 : Int) (a1 : Int) (a2 : Int) (a3_0 a3_1 : Int) (a3_2 : Bool) (w : World) (w0_0 : (Lit.int .i64 a0_0).wf = true) (w0_1 : (Lit.int .i64 a0_1).wf = true) (w0_2 : (Lit.int .i64 a0_2).wf = true) (w0_3 : (Lit.int .i64 a0_3).wf = true) (w0_4 : (Lit.int .i64 a0_4).wf = true) (w0_5 : (Lit.int .i64 a0_5).wf = true) (w1 : (Lit.int .i64 a1).wf = true) (w2 : (Lit.int .i64 a2).wf = true) (w3_0 : (Lit.int .i64 a3_0).wf = true) (w3_1 : (Lit.int .i64 a3_1).wf = true) (hT : Tab w) :
    Calls Tryd.prog 4 #[.agg #[.int .i64 a0_0, .int .i64 a0_1, .int .i64 a0_2, .int .i64 a0_3, .int .i64 a0_4, .int .i64 a0_5], .int .i64 a1, .int .i64 a2, .agg #[.int .i64 a3_0, .int .i64 a3_1, .bool a3_2]] w fun e w' => e = .returned (.bool true) ∧ Below w.heap.size w w' := by
  exact law a0_0 a0_1 a0_2 a0_3 a0_4 a0_5 a1 a2 ⟨a3_0, a3_1, a3_2⟩ (by have := bounds_i64 w0_0; omega) (by have := bounds_i64 w0_3; omega) w

theorem laidL : Rows.fnExactTwoMulRow.laid = [("math/bits.deBruijn32tab", Rows.laid_math_bits_deBruijn32tab), ("math/bits.deBruijn64tab", Rows.laid_math_bits_deBruijn64tab)] := rfl

theorem g_math_bits_deBruijn32tab : Tryd.prog.globalNamed "math/bits.deBruijn32tab" = some 0 := by kernel_rfl
theorem t_math_bits_deBruijn32tab : (Tryd.prog.globals[0]?).map (·.type) = some 119 := by kernel_rfl
theorem g_math_bits_deBruijn64tab : Tryd.prog.globalNamed "math/bits.deBruijn64tab" = some 1 := by kernel_rfl
theorem t_math_bits_deBruijn64tab : (Tryd.prog.globals[1]?).map (·.type) = some 120 := by kernel_rfl

/-- The door's own heap meets the condition. -/
theorem door_met (os : Os) (args : Array Value) : laidMetH Tryd.prog [("math/bits.deBruijn32tab", Rows.laid_math_bits_deBruijn32tab), ("math/bits.deBruijn64tab", Rows.laid_math_bits_deBruijn64tab)] ((World.doorLaid Tryd.prog 400 os).forCall (fun _ _ => 0) ⟨#[], args, []⟩).memory :=
  laidMetH_of_parts3 (fuel := 8) (laidMet_of_run' 8 (by kernel_rfl) (by kernel_rfl)) (by kernel_rfl) (by kernel_rfl)

set_option maxRecDepth 100000 in
/-- What the condition gives the walks: the table's cells. -/
theorem of_laid {W : World} (h : laidMetH Tryd.prog [("math/bits.deBruijn32tab", Rows.laid_math_bits_deBruijn32tab), ("math/bits.deBruijn64tab", Rows.laid_math_bits_deBruijn64tab)] W) : Tab W := by
  rw [MakeChecks.laidMetH_plain _ _ _ (by kernel_rfl)] at h
  obtain ⟨ps, ⟨g0, t0, cs0, f0, p0, q0, hg0, ht0, hv0, hd0, ⟨g1, t1, cs1, f1, p1, q1, hg1, ht1, hv1, hd1, _, _⟩, _⟩, _, _⟩ := h
  obtain rfl := Option.some.inj (g_math_bits_deBruijn64tab.symm.trans hg1)
  obtain rfl := Option.some.inj (t_math_bits_deBruijn64tab.symm.trans ht1)
  obtain ⟨xs, m1, rfl, hx1, hlen, hn3, hel⟩ := DataW.trod_array Tryd.underlying120 hd1
  have c5 : Tryd.prog.cellsOf 5 = 1 := by kernel_rfl
  simp only [Prod.mk.injEq] at hx1
  have hxs : xs.map (·.1) = (Lib.deBruijn64tab.map fun (z : Nat) => (.lit (.int .u8 (z : Int)) : DataW Unit)) := by
    have e : (Rows.laid_math_bits_deBruijn64tab : DataW Unit) = .agg (Lib.deBruijn64tab.map fun (z : Nat) => (.lit (.int .u8 (z : Int)) : DataW Unit)) := rfl
    have h2 := hx1.1
    rw [e] at h2
    injection h2 with h3
    exact h3.symm
  intro j hj
  have h0 := hel j hj
  obtain ⟨y, hy⟩ : ∃ y, xs[j]? = some y := ⟨xs[j]'(by omega), List.getElem?_eq_getElem _⟩
  rw [hy] at h0
  obtain ⟨k, e1, e2, _⟩ := DataW.trod_int Tryd.underlying5 h0
  rw [c5, Nat.mul_one] at e1
  have hcell := World.var?_cell hg1 hv1 j
  have e3 : cs1[j]? = some (.int .u8 k) := by
    have : (cs1.toList.drop j)[0]? = some (.int .u8 k) := by
      have h4 := congrArg (fun l => l[0]?) e1
      simpa [List.getElem?_take] using h4
    simpa using this
  rw [hcell, e3]
  have e4 : (xs.map (·.1))[j]? = some y.1 := by simp [hy]
  rw [hxs, e2] at e4
  have hl : Lib.deBruijn64tab.length = 64 := by decide
  simp only [List.getElem?_map] at e4
  cases h6 : Lib.deBruijn64tab[j]? with
  | none => rw [h6] at e4; simp at e4
  | some z =>
    rw [h6] at e4
    simp only [Option.map_some, Option.some.injEq, DataW.lit.injEq, Lit.int.injEq, true_and] at e4
    rw [← e4, List.getD_eq_getElem?_getD, h6]
    rfl

/-! ### THE ROW's STEP -/
set_option maxRecDepth 100000 in
theorem lifted (os : Os) (started : os.Started) (H : Type) (enc : TypeId × Value → H) :
    ReturnsInHanded {} Tryd.checked os 4 .any (fun w args => (Rows.fnExactTwoMulSpec.pre enc Tryd.prog Tryd.f4 [] false w args ∧ laidMetH Tryd.prog [("math/bits.deBruijn32tab", Rows.laid_math_bits_deBruijn32tab), ("math/bits.deBruijn64tab", Rows.laid_math_bits_deBruijn64tab)] w) ∧ sizedMet enc Tryd.prog Tryd.f4 (OpenSpec.ofChange Rows.fnExactTwoMulSpec) false w args)
      (Rows.fnExactTwoMulSpec.post enc Tryd.prog Tryd.f4 false true false false) := by
  refine returnsInHanded_of_change_and (C := Tryd.checked) (X := fun w _ => laidMetH Tryd.prog [("math/bits.deBruijn32tab", Rows.laid_math_bits_deBruijn32tab), ("math/bits.deBruijn64tab", Rows.laid_math_bits_deBruijn64tab)] w) (fun _ _ _ hh h => h.of_heap hh) own started (by kernel_rfl) Tryd.func4
    (ChangeSpec.witness_shaped (enc := enc) (C := Tryd.checked) (os := os) (X := fun w _ => laidMetH Tryd.prog [("math/bits.deBruijn32tab", Rows.laid_math_bits_deBruijn32tab), ("math/bits.deBruijn64tab", Rows.laid_math_bits_deBruijn64tab)] w) false (World.doorLaid Tryd.prog 400 os) #[.agg #[.int .i64 0, .int .i64 0, .int .i64 0, .int .i64 0, .int .i64 0, .int .i64 0], .int .i64 0, .int .i64 0, .agg #[.int .i64 0, .int .i64 0, .bool false]] 8 rfl (World.shaped_of_RefB (by kernel_rfl) (by kernel_rfl)) (by kernel_rfl) (by kernel_rfl) (by kernel_rfl) (door_met os _)) ?_
  intro W base args ds gs before hval0 hW _ _ hL _
  have hval : ∀ (j : Nat) t v, Tryd.f4.params[j]? = some t → args[j]? = some v → Value.okWide Tryd.prog W .any base t v := hval0
  have hW' := hW
  obtain ⟨p, q, hA0, hV, rfl, hfz, hnd⟩ := hW
  have hA : DataW.TrodAll enc Tryd.prog W 0 (fun _ => true) true Tryd.f4.params.toList args.toList ds p := hA0
  rw [Tryd.params4] at hA hval
  obtain ⟨v0, vs0, d0, ds0, p0, q0, hargs, rfl, rfl, h0, r0⟩ := trodAll_cons hA
  obtain ⟨v1, vs1, d1, ds1, p1, q1, rfl, rfl, rfl, h1, r1⟩ := trodAll_cons r0
  obtain ⟨v2, vs2, d2, ds2, p2, q2, rfl, rfl, rfl, h2, r2⟩ := trodAll_cons r1
  obtain ⟨v3, vs3, d3, ds3, p3, q3, rfl, rfl, rfl, h3, r3⟩ := trodAll_cons r2
  obtain ⟨rfl, rfl, rfl⟩ := trodAll_nil r3
  obtain rfl : args = #[v0, v1, v2, v3] := by cases args; simp_all
  obtain ⟨rfl, rfl⟩ := trodVars_none hV
  obtain ⟨a0_0, a0_1, a0_2, a0_3, a0_4, a0_5, rfl, rfl, rfl, w0_0, w0_1, w0_2, w0_3, w0_4, w0_5⟩ := open_curve (hval 0 23 v0 rfl rfl) h0
  obtain ⟨a1, rfl, rfl, rfl, w1⟩ := open_int Tryd.underlying3 (hval 1 3 v1 rfl rfl) h1
  obtain ⟨a2, rfl, rfl, rfl, w2⟩ := open_int Tryd.underlying3 (hval 2 3 v2 rfl rfl) h2
  obtain ⟨a3_0, a3_1, a3_2, rfl, rfl, rfl, w3_0, w3_1⟩ := open_point (hval 3 25 v3 rfl rfl) h3
  clear hA0 hval0
  have hTab := of_laid hL
  refine (walk a0_0 a0_1 a0_2 a0_3 a0_4 a0_5 a1 a2 a3_0 a3_1 a3_2 W w0_0 w0_1 w0_2 w0_3 w0_4 w0_5 w1 w2 w3_0 w3_1 hTab).mono fun e W' ⟨he, hg⟩ => ?_
  subst he
  exact ⟨_, rfl, _, _, _, [], _, [], hW', (trodAll_cons_mk (shut_bool Tryd.underlying4 _) trodAll_mk0), (trodAll_cons_mk (shut_curve w0_0 w0_1 w0_2 w0_3 w0_4 w0_5) (trodAll_cons_mk (shut_int Tryd.underlying3 w1) (trodAll_cons_mk (shut_int Tryd.underlying3 w2) (trodAll_cons_mk (shut_point w3_0 w3_1) trodAll_mk0)))), rfl, hg.frame _, fun h => by cases h⟩

theorem over : Rows.fnExactTwoMulRow.holds Tryd.pinned (OpenSpec.ofChange Rows.fnExactTwoMulSpec) :=
  OpenClaim.holds_of_wide 4 Tryd.f4 rfl rfl rfl rfl rfl rfl rfl ⟨rfl, rfl, rfl, rfl, rfl⟩ rfl rfl rfl rfl rfl (by kernel_rfl) Tryd.func4 (by kernel_rfl)
    (of_decide_eq_true (by kernel_rfl)) (by unfold Func.isWrapper; first | (rw [if_pos (by decide +kernel)]; kernel_rfl) | (rw [if_neg (by decide +kernel)]; exact ⟨rfl, rfl⟩))
    (fun os started H enc _ => lifted os started H enc)

theorem proved : Rows.FnExactTwoMulSaid :=
  over
end Go.Proofs.YtejlgcnhfomadabDoor.fnExactTwoMul

namespace Go.Proofs.YtejlgcnhfomadabDoor
/-- The given statement: the tied card. -/
theorem fnExactTwoMul_holds : Rows.FnExactTwoMulCardSaid :=
  Claim7.holds_tied_plain_at .later [] [.data, .data] true (true, "82e5eff8e65fa414120d5e59de5f0e1be5504084ac4e830b810d342b49eda6b5") true
    fnExactTwoMul.proved (fun _ h => by cases h) (by kernel_rfl) (fun _ h => by cases h) fnExactTwoMul_row_tie rfl ⟨rfl, rfl⟩ (by kernel_rfl) rfl
    (fun f fn hf hfn => by
      obtain rfl : f = 4 := Option.some.inj ((show Tryd.prog.funcNamed "loop.example/g00148/laws.FnExactTwoMul" = some 4 by kernel_rfl).symm.trans hf) |>.symm
      obtain rfl : fn = Tryd.f4 := (Option.some.inj (Tryd.func4.symm.trans hfn)).symm
      exact ⟨by kernel_rfl, fun j t ht => by
        rw [Tryd.params4] at ht
        have hm : t ∈ [23, 3, 25] := by have := Array.mem_of_getElem? ht; simpa using this
        have hall : ([23, 3, 25].all fun u => !Tryd.prog.wantsStandIn u) = true := by kernel_rfl
        exact (show Tryd.prog.wantsStandIn t = false by simpa using List.all_eq_true.1 hall t hm)⟩)
    (by kernel_rfl)
#print axioms fnExactTwoMul_holds
end Go.Proofs.YtejlgcnhfomadabDoor
