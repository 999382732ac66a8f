/- Proved: at every curve, point and form the law FnExactPointBytes answers true: the program's PointBytes answers as the model's, and its answer owns its memory, behind another call too; a tied card: the two tables of math/bits lie as the program's text lays them. No other condition. -/
import Derived.Test.YtcfpmillbdkpcaaDoorRows
import Derived.WalkKit
import Derived.ProofKit
import Derived.OpenShut
import Derived.ShutString
import Derived.Test.YtcfpmillbdkpcaaDoorCards
import Derived.Test.YtcfpmillbdkpcaaDoorTie
import Derived.Test.YtcfpmillbdkpcaaDoorAggs
import Derived.Test.YtcfpmillbdkpcaaDoorBytPt
import Derived.Test.YtcfpmillbdkpcaaDoorCurveX
import Derived.Test.YtcfpmillbdkpcaaDoorCurveY
import Derived.Test.YtcfpmillbdkpcaaDoorBMarks
import Derived.Test.YtcfpmillbdkpcaaDoorTz
import Derived.Below
import Derived.ChangeOld
import Derived.LaidMore
import Derived.Stop.Joined
import Derived.SevenTiedAt
namespace Go.Proofs.YtcfpmillbdkpcaaDoor.fnExactPointBytes
open Go.ChangeShapes Go.WideShapes Go.ChangeAt Go.RowKit
open Go.ChangeMaps (open_string shut_string)
set_option linter.unusedVariables false

theorem own : ownKnob Tryd.prog.godebug = none := by kernel_rfl

open Go.Sort in
set_option maxHeartbeats 4000000 in
set_option maxRecDepth 100000 in
theorem law (P A B N gx gy : Int) (a : Pt) (short : Bool) (hP1 : P ≤ 9223372036854775807) (hN1 : N ≤ 9223372036854775807) (w : World) :
    Calls Tryd.prog 5 #[.agg #[.int .i64 P, .int .i64 A, .int .i64 B, .int .i64 N, .int .i64 gx, .int .i64 gy], .agg #[.int .i64 a.x, .int .i64 a.y, .bool a.far], .bool short] w fun e w' => e = .returned (.bool true) ∧ Below w.heap.size w w' := by
  obtain ⟨ok, hok⟩ : ∃ ok : Bool, ok = true ↔ (CvOk P A B N gx gy ∧ On P.toNat A B a) := by
    by_cases h : CvOk P A B N gx gy ∧ On P.toNat A B a
    · exact ⟨true, fun _ => h, fun _ => rfl⟩
    · exact ⟨false, fun e => (by cases e), fun e => absurd e h⟩
  obtain ⟨M, eM⟩ : ∃ M, ptLen a short ok = M := ⟨_, rfl⟩
  obtain ⟨F, eF⟩ : ∃ F, ptByte a short = F := ⟨_, rfl⟩
  have hM : M ≤ 1048576 := by
    rw [← eM]
    unfold ptLen
    (repeat' split) <;> omega
  have HU : Hid (∀ w e w', GivesPB P A B N gx gy a short w e w' → GivesBs w M F ok e w') := by
    rintro w e w' ⟨ok', h', hg⟩
    obtain rfl : ok' = ok := by rw [Bool.eq_iff_iff, h', hok]
    rw [← eM, ← eF]
    exact hg
  have HS := hide (fun w => (specPointBytes_any P A B N gx gy a short w hP1 hN1).mono (HU.out w))
  have HI := hide (fun w => (implPointBytes_any P A B N gx gy a short w hP1 hN1).mono (HU.out w))
  clear HU hok eM eF
  have F0 := Fr2b w P A B N gx gy a 53 54
  have HF := hide F0
  have HZ : Hid (((w.alloc (.cells #[.int .i64 P, .int .i64 A, .int .i64 B, .int .i64 N, .int .i64 gx, .int .i64 gy] 53)).alloc (.cells #[.int .i64 a.x, .int .i64 a.y, .bool a.far] 54)).heap.size = w.heap.size + 2) := by show _ = _; simp
  have HB : Hid (Below w.heap.size w ((w.alloc (.cells #[.int .i64 P, .int .i64 A, .int .i64 B, .int .i64 N, .int .i64 gx, .int .i64 gy] 53)).alloc (.cells #[.int .i64 a.x, .int .i64 a.y, .bool a.far] 54))) := ((Below.refl _ _).alloc (Nat.le_refl _) _).alloc (by simp) _
  obtain ⟨⟨k0, k1, k2, k3, k4, k5⟩, ⟨a0, a1, a2, -, -, -⟩⟩ := F0
  have e0 := cell_regrown k0
  have e1 := cell_regrown k1
  have e2 := cell_regrown k2
  have e3 := cell_regrown k3
  have e4 := cell_regrown k4
  have e5 := cell_regrown k5
  have f0 := cell_regrown a0
  have f1 := cell_regrown a1
  have f2 := cell_regrown a2
  clear k0 k1 k2 k3 k4 k5 a0 a1 a2
  go_enter Tryd.func5, Tryd.ntmps5
  go_wp2
  refine anyW_begin 11 rfl (by kernel_rfl) ?_
  refine anyW_take 0 5 6 rfl (by decide) (by kernel_rfl) (fun _ _ d _ _ h => by cases d <;> exact h) ?_
  repeat (refine headS_step (fun K hK => ?_); go_simp; first | (refine hK _ ?_; clear hK K) | (apply Exists.intro; refine ⟨fun _ => ?_, hK _ ?_⟩; (first | (go_at_call 25; exact calls_head (toCurve_any _ _ _ _ _ _ _)) | (go_at_call 26; exact calls_head (toPoint_any _ _ _ _))); clear hK K))
  refine headS_nil ?_
  clear e0 e1 e2 e3 e4 e5 f0 f1 f2
  refine anyW_one 5 (by kernel_rfl) ?_
  refine stepW_run rfl ?_
  intro w1a hw1a K hK
  go_simp
  refine (HS.out _).mono ?_
  rintro e w1b ⟨aw1, gw1, capw1, rfl, hgw1, hOw1, hbw1, -, -⟩
  have hxw1 : Ext ((w.alloc (.cells #[.int .i64 P, .int .i64 A, .int .i64 B, .int .i64 N, .int .i64 gx, .int .i64 gy] 53)).alloc (.cells #[.int .i64 a.x, .int .i64 a.y, .bool a.far] 54)) w1b := Ext.trans hw1a hbw1
  have hsw1 : ((w.alloc (.cells #[.int .i64 P, .int .i64 A, .int .i64 B, .int .i64 N, .int .i64 gx, .int .i64 gy] 53)).alloc (.cells #[.int .i64 a.x, .int .i64 a.y, .bool a.far] 54)).heap.size ≤ gw1 := Nat.le_trans (Below.size hw1a) hgw1
  refine hK _ _ hxw1 ?_
  clear hK K hw1a hbw1 hgw1
  refine anyW_take 6 5 0 rfl (by decide) (by kernel_rfl) (fun _ _ d _ _ h => by cases d <;> exact h) ?_
  repeat (refine headS_step (fun K hK => ?_); go_simp; first | (refine hK _ ?_; clear hK K) | (apply Exists.intro; refine ⟨fun _ => ?_, hK _ ?_⟩; (fail); clear hK K))
  refine headS_nil ?_
  refine anyW_done (by kernel_rfl) ?_ 0
  intro w1 hyw1
  have Xw1 : Below ((w.alloc (.cells #[.int .i64 P, .int .i64 A, .int .i64 B, .int .i64 N, .int .i64 gx, .int .i64 gy] 53)).alloc (.cells #[.int .i64 a.x, .int .i64 a.y, .bool a.far] 54)).heap.size ((w.alloc (.cells #[.int .i64 P, .int .i64 A, .int .i64 B, .int .i64 N, .int .i64 gx, .int .i64 gy] 53)).alloc (.cells #[.int .i64 a.x, .int .i64 a.y, .bool a.far] 54)) w1 := Ext.trans hxw1 hyw1
  replace hOw1 := hOw1.of_all hyw1
  clear hxw1 hyw1
  have K1 := HF.out.1.below Xw1 (by rw [HZ.out]; omega)
  have P1 := HF.out.2.below Xw1 (by rw [HZ.out]; omega)
  have z1 : w.heap.size + 2 ≤ w1.heap.size := by rw [← HZ.out]; exact Xw1.size
  have B1 : Hid (Below w.heap.size w w1) := HB.out.trans (Xw1.mono (by rw [HZ.out]; omega))
  have HK1 := hide (And.intro K1 P1)
  clear HF HZ HB Xw1 hsw1
  obtain ⟨k0, k1, k2, k3, k4, k5⟩ := K1
  obtain ⟨a0, a1, a2, -, -, -⟩ := P1
  have e0 := cell_regrown k0
  have e1 := cell_regrown k1
  have e2 := cell_regrown k2
  have e3 := cell_regrown k3
  have e4 := cell_regrown k4
  have e5 := cell_regrown k5
  have f0 := cell_regrown a0
  have f1 := cell_regrown a1
  have f2 := cell_regrown a2
  clear k0 k1 k2 k3 k4 k5 a0 a1 a2
  go_wp2
  refine anyW_begin 11 rfl (by kernel_rfl) ?_
  refine anyW_take 0 5 6 rfl (by decide) (by kernel_rfl) (fun _ _ d _ _ h => by cases d <;> exact h) ?_
  repeat (refine headS_step (fun K hK => ?_); go_simp; first | (refine hK _ ?_; clear hK K) | (apply Exists.intro; refine ⟨fun _ => ?_, hK _ ?_⟩; (first | (go_at_call 25; exact calls_head (toCurve_any _ _ _ _ _ _ _)) | (go_at_call 26; exact calls_head (toPoint_any _ _ _ _))); clear hK K))
  refine headS_nil ?_
  clear e0 e1 e2 e3 e4 e5 f0 f1 f2
  refine anyW_one 5 (by kernel_rfl) ?_
  refine stepW_run rfl ?_
  intro w2a hw2a K hK
  go_simp
  refine (HI.out _).mono ?_
  rintro e w2b ⟨aw2, gw2, capw2, rfl, hgw2, hOw2, hbw2, -, -⟩
  have hxw2 : Ext w1 w2b := Ext.trans hw2a hbw2
  have hsw2 : w1.heap.size ≤ gw2 := Nat.le_trans (Below.size hw2a) hgw2
  refine hK _ _ hxw2 ?_
  clear hK K hw2a hbw2 hgw2
  refine anyW_take 6 5 0 rfl (by decide) (by kernel_rfl) (fun _ _ d _ _ h => by cases d <;> exact h) ?_
  repeat (refine headS_step (fun K hK => ?_); go_simp; first | (refine hK _ ?_; clear hK K) | (apply Exists.intro; refine ⟨fun _ => ?_, hK _ ?_⟩; (fail); clear hK K))
  refine headS_nil ?_
  refine anyW_done (by kernel_rfl) ?_ 0
  intro w2 hyw2
  have Xw2 : Below w1.heap.size w1 w2 := Ext.trans hxw2 hyw2
  replace hOw2 := hOw2.of_all hyw2
  clear hxw2 hyw2
  have z2 : w1.heap.size ≤ w2.heap.size := Xw2.size
  have lt1 : 0 < M → gw1 < w1.heap.size := fun h => hOw1.lt h
  replace hOw1 := hOw1.of_all Xw2
  have HK2 := hide (And.intro (HK1.out.1.below Xw2 (by omega)) (HK1.out.2.below Xw2 (by omega)))
  have B2 : Hid (Below w.heap.size w w2) := B1.out.trans (Xw2.mono (by omega))
  clear HK1 B1 Xw2
  go_wp2_with fail
  refine (eqByteS_any aw2 gw2 0 M capw2 F aw1 gw1 0 M capw1 F _ hOw2.toBSeg hOw1.toBSeg hM).mono ?_
  rintro e w3 ⟨rfl, qw3, rfl⟩
  rw [alike_refl]
  have hokk : (ok != ok) = false := by simp
  have D : Below w2.heap.size w2 (w2.drewN qw3) := below_drewN (Below.refl _ _) qw3
  have HK3 := hide (And.intro (HK2.out.1.below D (by omega)) (HK2.out.2.below D (by omega)))
  have B3 : Hid (Below w.heap.size w (w2.drewN qw3)) := B2.out.trans (D.mono (by omega))
  have z3 : w1.heap.size ≤ (w2.drewN qw3).heap.size := Nat.le_trans z2 D.size
  replace hOw1 := hOw1.of_all D
  replace hOw2 := hOw2.of_all D
  clear D HK2 B2 z2
  generalize w2.drewN qw3 = w3 at *
  go_wp2_with fail
  refine (markByteS_any aw2 gw2 0 M capw2 F 1 _ hOw2 hM (by omega) (by omega)).mono ?_
  rintro e w4 ⟨rfl, hO4, hT⟩
  have s4 := hOw1.touch hT (fun h => by have := lt1 h; omega)
  have HK4 : Hid (CvAt w4 w.heap.size P A B N gx gy ∧ PtAt w4 (w.heap.size + 1) a) := ⟨HK3.out.1.below (below_touch (Below.refl _ _) hT hsw2) (by omega), HK3.out.2.below (below_touch (Below.refl _ _) hT hsw2) (by omega)⟩
  have B4 : Hid (Below w.heap.size w w4) := below_touch B3.out hT (by omega)
  have z4 : w1.heap.size ≤ w4.heap.size := Nat.le_trans z3 hT.grown.size
  clear HK3 B3 z3 hOw1 hOw2 hT
  go_wp2_with fail
  refine (heldByteS_any aw2 gw2 0 M capw2 1 _ hO4.toBSeg hM (by omega) (by omega)).mono ?_
  rintro e w5 ⟨rfl, hw5⟩
  obtain rfl := hw5.symm
  have hp : ¬ (1 + (M : Int) < 0) := by omega
  have K4 := HK4.out
  obtain ⟨⟨k0, k1, k2, k3, k4, k5⟩, ⟨a0, a1, a2, -, -, -⟩⟩ := K4
  have e0 := cell_regrown k0
  have e1 := cell_regrown k1
  have e2 := cell_regrown k2
  have e3 := cell_regrown k3
  have e4 := cell_regrown k4
  have e5 := cell_regrown k5
  have f0 := cell_regrown a0
  have f1 := cell_regrown a1
  have f2 := cell_regrown a2
  clear k0 k1 k2 k3 k4 k5 a0 a1 a2
  go_wp2
  refine anyW_begin 11 rfl (by kernel_rfl) ?_
  refine anyW_take 0 5 6 rfl (by decide) (by kernel_rfl) (fun _ _ d _ _ h => by cases d <;> exact h) ?_
  repeat (refine headS_step (fun K hK => ?_); go_simp; first | (refine hK _ ?_; clear hK K) | (apply Exists.intro; refine ⟨fun _ => ?_, hK _ ?_⟩; (first | (go_at_call 25; exact calls_head (toCurve_any _ _ _ _ _ _ _)) | (go_at_call 26; exact calls_head (toPoint_any _ _ _ _))); clear hK K))
  refine headS_nil ?_
  clear e0 e1 e2 e3 e4 e5 f0 f1 f2
  refine anyW_one 5 (by kernel_rfl) ?_
  refine stepW_run rfl ?_
  intro w6a hw6a K hK
  go_simp
  refine (HI.out _).mono ?_
  rintro e w6b ⟨aw6, gw6, capw6, rfl, hgw6, hOw6, hbw6, -, -⟩
  have hxw6 : Ext w4 w6b := Ext.trans hw6a hbw6
  have hsw6 : w4.heap.size ≤ gw6 := Nat.le_trans (Below.size hw6a) hgw6
  refine hK _ _ hxw6 ?_
  clear hK K hw6a hbw6 hgw6
  refine anyW_take 6 5 0 rfl (by decide) (by kernel_rfl) (fun _ _ d _ _ h => by cases d <;> exact h) ?_
  repeat (refine headS_step (fun K hK => ?_); go_simp; first | (refine hK _ ?_; clear hK K) | (apply Exists.intro; refine ⟨fun _ => ?_, hK _ ?_⟩; (fail); clear hK K))
  refine headS_nil ?_
  refine anyW_done (by kernel_rfl) ?_ 0
  intro w6 hyw6
  have Xw6 : Below w4.heap.size w4 w6 := Ext.trans hxw6 hyw6
  replace hOw6 := hOw6.of_all hyw6
  clear hxw6 hyw6
  replace s4 := s4.of_all Xw6
  replace hO4 := hO4.of_all Xw6
  have B6 : Hid (Below w.heap.size w w6) := B4.out.trans (Xw6.mono (by omega))
  clear B4 HK4 Xw6
  go_wp2_with fail
  refine (eqByteS_any aw6 gw6 0 M capw6 F aw1 gw1 0 M capw1 F _ hOw6.toBSeg s4.toBSeg hM).mono ?_
  rintro e w7 ⟨rfl, q, rfl⟩
  rw [alike_refl]
  go_wp2_with fail
  refine (heldByteS_any aw2 gw2 0 M capw2 1 _ (hO4.toBSeg.of_all (below_drewN (Below.refl _ _) q)) hM (by omega) (by omega)).mono ?_
  rintro e w8 ⟨rfl, hw⟩
  obtain rfl := hw.symm
  go_wp2
  go_ret
  exact ⟨rfl, below_drewN B6.out q⟩

theorem walk (a0_0 a0_1 a0_2 a0_3 a0_4 a0_5 : Int) (a1_0 a1_1 : Int) (a1_2 : Bool) (a2 : Bool) (w : World) (w0_0 : (Lit.int .i64 a0_0).wf = true) (w0_1 : (Lit.int .i64 a0_1).wf = true) (w0_2 : (Lit.int .i64 a0_2).wf = true) (w0_3 : (Lit.int .i64 a0_3).wf = true) (w0_4 : (Lit.int .i64 a0_4).wf = true) (w0_5 : (Lit.int .i64 a0_5).wf = true) (w1_0 : (Lit.int .i64 a1_0).wf = true) (w1_1 : (Lit.int .i64 a1_1).wf = true) (hT : Tab w) :
    Calls Tryd.prog 5 #[.agg #[.int .i64 a0_0, .int .i64 a0_1, .int .i64 a0_2, .int .i64 a0_3, .int .i64 a0_4, .int .i64 a0_5], .agg #[.int .i64 a1_0, .int .i64 a1_1, .bool a1_2], .bool a2] w fun e w' => e = .returned (.bool true) ∧ Below w.heap.size w w' := by
  exact law a0_0 a0_1 a0_2 a0_3 a0_4 a0_5 ⟨a1_0, a1_1, a1_2⟩ a2 (by have := bounds_i64 w0_0; omega) (by have := bounds_i64 w0_3; omega) w

theorem laidL : Rows.fnExactPointBytesRow.laid = [("math/bits.deBruijn32tab", Rows.laid_math_bits_deBruijn32tab), ("math/bits.deBruijn64tab", Rows.laid_math_bits_deBruijn64tab)] := rfl

theorem g_math_bits_deBruijn32tab : Tryd.prog.globalNamed "math/bits.deBruijn32tab" = some 0 := by kernel_rfl
theorem t_math_bits_deBruijn32tab : (Tryd.prog.globals[0]?).map (·.type) = some 150 := by kernel_rfl
theorem g_math_bits_deBruijn64tab : Tryd.prog.globalNamed "math/bits.deBruijn64tab" = some 1 := by kernel_rfl
theorem t_math_bits_deBruijn64tab : (Tryd.prog.globals[1]?).map (·.type) = some 151 := by kernel_rfl

/-- The door's own heap meets the condition. -/
theorem door_met (os : Os) (args : Array Value) : laidMetH Tryd.prog [("math/bits.deBruijn32tab", Rows.laid_math_bits_deBruijn32tab), ("math/bits.deBruijn64tab", Rows.laid_math_bits_deBruijn64tab)] ((World.doorLaid Tryd.prog 400 os).forCall (fun _ _ => 0) ⟨#[], args, []⟩).memory :=
  laidMetH_of_parts3 (fuel := 8) (laidMet_of_run' 8 (by kernel_rfl) (by kernel_rfl)) (by kernel_rfl) (by kernel_rfl)

set_option maxRecDepth 100000 in
/-- What the condition gives the walks: the table's cells. -/
theorem of_laid {W : World} (h : laidMetH Tryd.prog [("math/bits.deBruijn32tab", Rows.laid_math_bits_deBruijn32tab), ("math/bits.deBruijn64tab", Rows.laid_math_bits_deBruijn64tab)] W) : Tab W := by
  rw [MakeChecks.laidMetH_plain _ _ _ (by kernel_rfl)] at h
  obtain ⟨ps, ⟨g0, t0, cs0, f0, p0, q0, hg0, ht0, hv0, hd0, ⟨g1, t1, cs1, f1, p1, q1, hg1, ht1, hv1, hd1, _, _⟩, _⟩, _, _⟩ := h
  obtain rfl := Option.some.inj (g_math_bits_deBruijn64tab.symm.trans hg1)
  obtain rfl := Option.some.inj (t_math_bits_deBruijn64tab.symm.trans ht1)
  obtain ⟨xs, m1, rfl, hx1, hlen, hn3, hel⟩ := DataW.trod_array Tryd.underlying151 hd1
  have c5 : Tryd.prog.cellsOf 5 = 1 := by kernel_rfl
  simp only [Prod.mk.injEq] at hx1
  have hxs : xs.map (·.1) = (Lib.deBruijn64tab.map fun (z : Nat) => (.lit (.int .u8 (z : Int)) : DataW Unit)) := by
    have e : (Rows.laid_math_bits_deBruijn64tab : DataW Unit) = .agg (Lib.deBruijn64tab.map fun (z : Nat) => (.lit (.int .u8 (z : Int)) : DataW Unit)) := rfl
    have h2 := hx1.1
    rw [e] at h2
    injection h2 with h3
    exact h3.symm
  intro j hj
  have h0 := hel j hj
  obtain ⟨y, hy⟩ : ∃ y, xs[j]? = some y := ⟨xs[j]'(by omega), List.getElem?_eq_getElem _⟩
  rw [hy] at h0
  obtain ⟨k, e1, e2, _⟩ := DataW.trod_int Tryd.underlying5 h0
  rw [c5, Nat.mul_one] at e1
  have hcell := World.var?_cell hg1 hv1 j
  have e3 : cs1[j]? = some (.int .u8 k) := by
    have : (cs1.toList.drop j)[0]? = some (.int .u8 k) := by
      have h4 := congrArg (fun l => l[0]?) e1
      simpa [List.getElem?_take] using h4
    simpa using this
  rw [hcell, e3]
  have e4 : (xs.map (·.1))[j]? = some y.1 := by simp [hy]
  rw [hxs, e2] at e4
  have hl : Lib.deBruijn64tab.length = 64 := by decide
  simp only [List.getElem?_map] at e4
  cases h6 : Lib.deBruijn64tab[j]? with
  | none => rw [h6] at e4; simp at e4
  | some z =>
    rw [h6] at e4
    simp only [Option.map_some, Option.some.injEq, DataW.lit.injEq, Lit.int.injEq, true_and] at e4
    rw [← e4, List.getD_eq_getElem?_getD, h6]
    rfl

/-! ### THE ROW's STEP -/
set_option maxRecDepth 100000 in
theorem lifted (os : Os) (started : os.Started) (H : Type) (enc : TypeId × Value → H) :
    ReturnsInHanded {} Tryd.checked os 5 .any (fun w args => (Rows.fnExactPointBytesSpec.pre enc Tryd.prog Tryd.f5 [] false w args ∧ laidMetH Tryd.prog [("math/bits.deBruijn32tab", Rows.laid_math_bits_deBruijn32tab), ("math/bits.deBruijn64tab", Rows.laid_math_bits_deBruijn64tab)] w) ∧ sizedMet enc Tryd.prog Tryd.f5 (OpenSpec.ofChange Rows.fnExactPointBytesSpec) false w args)
      (Rows.fnExactPointBytesSpec.post enc Tryd.prog Tryd.f5 false true false false) := by
  refine returnsInHanded_of_change_and (C := Tryd.checked) (X := fun w _ => laidMetH Tryd.prog [("math/bits.deBruijn32tab", Rows.laid_math_bits_deBruijn32tab), ("math/bits.deBruijn64tab", Rows.laid_math_bits_deBruijn64tab)] w) (fun _ _ _ hh h => h.of_heap hh) own started (by kernel_rfl) Tryd.func5
    (ChangeSpec.witness_shaped (enc := enc) (C := Tryd.checked) (os := os) (X := fun w _ => laidMetH Tryd.prog [("math/bits.deBruijn32tab", Rows.laid_math_bits_deBruijn32tab), ("math/bits.deBruijn64tab", Rows.laid_math_bits_deBruijn64tab)] w) false (World.doorLaid Tryd.prog 400 os) #[.agg #[.int .i64 0, .int .i64 0, .int .i64 0, .int .i64 0, .int .i64 0, .int .i64 0], .agg #[.int .i64 0, .int .i64 0, .bool false], .bool false] 8 rfl (World.shaped_of_RefB (by kernel_rfl) (by kernel_rfl)) (by kernel_rfl) (by kernel_rfl) (by kernel_rfl) (door_met os _)) ?_
  intro W base args ds gs before hval0 hW _ _ hL _
  have hval : ∀ (j : Nat) t v, Tryd.f5.params[j]? = some t → args[j]? = some v → Value.okWide Tryd.prog W .any base t v := hval0
  have hW' := hW
  obtain ⟨p, q, hA0, hV, rfl, hfz, hnd⟩ := hW
  have hA : DataW.TrodAll enc Tryd.prog W 0 (fun _ => true) true Tryd.f5.params.toList args.toList ds p := hA0
  rw [Tryd.params5] at hA hval
  obtain ⟨v0, vs0, d0, ds0, p0, q0, hargs, rfl, rfl, h0, r0⟩ := trodAll_cons hA
  obtain ⟨v1, vs1, d1, ds1, p1, q1, rfl, rfl, rfl, h1, r1⟩ := trodAll_cons r0
  obtain ⟨v2, vs2, d2, ds2, p2, q2, rfl, rfl, rfl, h2, r2⟩ := trodAll_cons r1
  obtain ⟨rfl, rfl, rfl⟩ := trodAll_nil r2
  obtain rfl : args = #[v0, v1, v2] := by cases args; simp_all
  obtain ⟨rfl, rfl⟩ := trodVars_none hV
  obtain ⟨a0_0, a0_1, a0_2, a0_3, a0_4, a0_5, rfl, rfl, rfl, w0_0, w0_1, w0_2, w0_3, w0_4, w0_5⟩ := open_curve (hval 0 53 v0 rfl rfl) h0
  obtain ⟨a1_0, a1_1, a1_2, rfl, rfl, rfl, w1_0, w1_1⟩ := open_point (hval 1 54 v1 rfl rfl) h1
  obtain ⟨a2, rfl, rfl, rfl⟩ := open_bool Tryd.underlying4 (hval 2 4 v2 rfl rfl) h2
  clear hA0 hval0
  have hTab := of_laid hL
  refine (walk a0_0 a0_1 a0_2 a0_3 a0_4 a0_5 a1_0 a1_1 a1_2 a2 W w0_0 w0_1 w0_2 w0_3 w0_4 w0_5 w1_0 w1_1 hTab).mono fun e W' ⟨he, hg⟩ => ?_
  subst he
  exact ⟨_, rfl, _, _, _, [], _, [], hW', (trodAll_cons_mk (shut_bool Tryd.underlying4 _) trodAll_mk0), (trodAll_cons_mk (shut_curve w0_0 w0_1 w0_2 w0_3 w0_4 w0_5) (trodAll_cons_mk (shut_point w1_0 w1_1) (trodAll_cons_mk (shut_bool Tryd.underlying4 _) trodAll_mk0))), rfl, hg.frame _, fun h => by cases h⟩

theorem over : Rows.fnExactPointBytesRow.holds Tryd.pinned (OpenSpec.ofChange Rows.fnExactPointBytesSpec) :=
  OpenClaim.holds_of_wide 5 Tryd.f5 rfl rfl rfl rfl rfl rfl rfl ⟨rfl, rfl, rfl, rfl, rfl⟩ rfl rfl rfl rfl rfl (by kernel_rfl) Tryd.func5 (by kernel_rfl)
    (of_decide_eq_true (by kernel_rfl)) (by unfold Func.isWrapper; first | (rw [if_pos (by decide +kernel)]; kernel_rfl) | (rw [if_neg (by decide +kernel)]; exact ⟨rfl, rfl⟩))
    (fun os started H enc _ => lifted os started H enc)

theorem proved : Rows.FnExactPointBytesSaid :=
  over
end Go.Proofs.YtcfpmillbdkpcaaDoor.fnExactPointBytes

namespace Go.Proofs.YtcfpmillbdkpcaaDoor
/-- The given statement: the tied card. -/
theorem fnExactPointBytes_holds : Rows.FnExactPointBytesCardSaid :=
  Claim7.holds_tied_plain_at .later [] [.data, .data] true (true, "25a62ed51089c22e423a4319e082d636c49192e0c4575145cc2ac4d339ffa0b5") true
    fnExactPointBytes.proved (fun _ h => by cases h) (by kernel_rfl) (fun _ h => by cases h) fnExactPointBytes_row_tie rfl ⟨rfl, rfl⟩ (by kernel_rfl) rfl
    (fun f fn hf hfn => by
      obtain rfl : f = 5 := Option.some.inj ((show Tryd.prog.funcNamed "loop.example/g00148/laws.FnExactPointBytes" = some 5 by kernel_rfl).symm.trans hf) |>.symm
      obtain rfl : fn = Tryd.f5 := (Option.some.inj (Tryd.func5.symm.trans hfn)).symm
      exact ⟨by kernel_rfl, fun j t ht => by
        rw [Tryd.params5] at ht
        have hm : t ∈ [53, 54, 4] := by have := Array.mem_of_getElem? ht; simpa using this
        have hall : ([53, 54, 4].all fun u => !Tryd.prog.wantsStandIn u) = true := by kernel_rfl
        exact (show Tryd.prog.wantsStandIn t = false by simpa using List.all_eq_true.1 hall t hm)⟩)
    (by kernel_rfl)
#print axioms fnExactPointBytes_holds
end Go.Proofs.YtcfpmillbdkpcaaDoor
