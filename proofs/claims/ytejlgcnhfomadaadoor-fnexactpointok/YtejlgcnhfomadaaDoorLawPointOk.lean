/- Proved: at every curve and point the law FnExactPointOk answers true: the program's PointOk answers as the model's; a tied card: the two tables of math/bits lie as the program's text lays them. No other condition. -/
import Derived.Test.YtejlgcnhfomadaaDoorRows
import Derived.WalkKit
import Derived.ProofKit
import Derived.OpenShut
import Derived.ShutString
import Derived.Test.YtejlgcnhfomadaaDoorCards
import Derived.Test.YtejlgcnhfomadaaDoorTie
import Derived.Test.YtejlgcnhfomadaaDoorAggs
import Derived.Test.YtejlgcnhfomadaaDoorCurU
import Derived.Test.YtejlgcnhfomadaaDoorCurveX
import Derived.Test.YtejlgcnhfomadaaDoorTz
import Derived.Below
import Derived.ChangeOld
import Derived.LaidMore
import Derived.Stop.Joined
import Derived.SevenTiedAt
namespace Go.Proofs.YtejlgcnhfomadaaDoor.fnExactPointOk
open Go.ChangeShapes Go.WideShapes Go.ChangeAt Go.RowKit
open Go.ChangeMaps (open_string shut_string)
set_option linter.unusedVariables false

theorem own : ownKnob Tryd.prog.godebug = none := by kernel_rfl

theorem Fr2b (w : World) (P A B N gx gy : Int) (a : Pt) (t1 t2 : TypeId) : CvAt ((w.alloc (.cells #[.int .i64 P, .int .i64 A, .int .i64 B, .int .i64 N, .int .i64 gx, .int .i64 gy] t1)).alloc (.cells #[.int .i64 a.x, .int .i64 a.y, .bool a.far] t2)) w.heap.size P A B N gx gy ∧ PtAt ((w.alloc (.cells #[.int .i64 P, .int .i64 A, .int .i64 B, .int .i64 N, .int .i64 gx, .int .i64 gy] t1)).alloc (.cells #[.int .i64 a.x, .int .i64 a.y, .bool a.far] t2)) (w.heap.size + 1) a := by
  refine ⟨(CvAt.alloc w P A B N gx gy t1).below ((Below.refl _ _).alloc (Nat.le_refl _) _) (by simp), ?_⟩
  have F := PtAt.alloc (w.alloc (.cells #[.int .i64 P, .int .i64 A, .int .i64 B, .int .i64 N, .int .i64 gx, .int .i64 gy] t1)) a t2
  rwa [World.size_alloc] at F

theorem specPointOk_at (P A B N gx gy : Int) (a : Pt) (hP1 : P ≤ 9223372036854775807) (hN1 : N ≤ 9223372036854775807) (ok : Bool) (hk : ok = true ↔ CvOk P A B N gx gy ∧ On P.toNat A B a) (w : World) : Calls Tryd.prog 31 #[.agg #[.int .i64 P, .int .i64 A, .int .i64 B, .int .i64 N, .int .i64 gx, .int .i64 gy], .agg #[.int .i64 a.x, .int .i64 a.y, .bool a.far]] w fun r w' => r = .returned (.bool ok) ∧ Below w.heap.size w w' := by
  refine (specPointOk_any P A B N gx gy a w hP1 hN1).mono ?_
  rintro r w' ⟨⟨k, rfl, hk'⟩, hw⟩
  refine ⟨?_, hw⟩
  have : k = ok := by rw [Bool.eq_iff_iff, hk', hk]
  rw [this]

theorem implPointOk_at (P A B N gx gy : Int) (a : Pt) (hP1 : P ≤ 9223372036854775807) (hN1 : N ≤ 9223372036854775807) (ok : Bool) (hk : ok = true ↔ CvOk P A B N gx gy ∧ On P.toNat A B a) (w : World) : Calls Tryd.prog 12 #[.agg #[.int .i64 P, .int .i64 A, .int .i64 B, .int .i64 N, .int .i64 gx, .int .i64 gy], .agg #[.int .i64 a.x, .int .i64 a.y, .bool a.far]] w fun r w' => r = .returned (.bool ok) ∧ Below w.heap.size w w' := by
  refine (implPointOk_any P A B N gx gy a w hP1 hN1).mono ?_
  rintro r w' ⟨⟨k, rfl, hk'⟩, hw⟩
  refine ⟨?_, hw⟩
  have : k = ok := by rw [Bool.eq_iff_iff, hk', hk]
  rw [this]

set_option maxHeartbeats 800000 in
set_option maxRecDepth 100000 in
theorem law (P A B N gx gy : Int) (a : Pt) (hP1 : P ≤ 9223372036854775807) (hN1 : N ≤ 9223372036854775807) (w : World) :
    Calls Tryd.prog 7 #[.agg #[.int .i64 P, .int .i64 A, .int .i64 B, .int .i64 N, .int .i64 gx, .int .i64 gy], .agg #[.int .i64 a.x, .int .i64 a.y, .bool a.far]] w fun e w' => e = .returned (.bool true) ∧ Below w.heap.size w w' := by
  have F := Fr2b w P A B N gx gy a 58 61
  obtain ⟨⟨k0, k1, k2, k3, k4, k5⟩, ⟨a0, a1, a2, -, -, -⟩⟩ := F
  have e0 := cell_regrown k0
  have e1 := cell_regrown k1
  have e2 := cell_regrown k2
  have e3 := cell_regrown k3
  have e4 := cell_regrown k4
  have e5 := cell_regrown k5
  have f0 := cell_regrown a0
  have f1 := cell_regrown a1
  have f2 := cell_regrown a2
  clear k0 k1 k2 k3 k4 k5 a0 a1 a2
  obtain ⟨ok, hok⟩ := exists_bool (CvOk P A B N gx gy ∧ On P.toNat A B a)
  have HC : Hid (∀ (W : World) d os, Calls Tryd.prog 30 #[.agg #[.int .i64 P, .int .i64 A, .int .i64 B, .int .i64 N, .int .i64 gx, .int .i64 gy]] (Sort.grow (redrawn W d) os) fun e w'' => e = .returned (.agg #[.int .i64 P, .int .i64 A, .int .i64 B, .int .i64 N, .int .i64 gx, .int .i64 gy]) ∧ ∃ p : Regrown, w'' = Sort.grow (redrawn W p.d) p.os) := fun W d os => Calls.regrown_of (toCurve_any P A B N gx gy _)
  have HP : Hid (∀ (W : World) d os, Calls Tryd.prog 32 #[.agg #[.int .i64 a.x, .int .i64 a.y, .bool a.far]] (Sort.grow (redrawn W d) os) fun e w'' => e = .returned (.agg #[.int .i64 a.x, .int .i64 a.y, .bool a.far]) ∧ ∃ p : Regrown, w'' = Sort.grow (redrawn W p.d) p.os) := fun W d os => Calls.regrown_of (toPoint_any a.x a.y a.far _)
  have HS : Hid (∀ (W : World) d os, Calls Tryd.prog 31 #[.agg #[.int .i64 P, .int .i64 A, .int .i64 B, .int .i64 N, .int .i64 gx, .int .i64 gy], .agg #[.int .i64 a.x, .int .i64 a.y, .bool a.far]] (Sort.grow (redrawn W d) os) fun e w'' => e = .returned (.bool ok) ∧ ∃ p : Regrown, w'' = Sort.grow (redrawn W p.d) p.os) := fun W d os => Calls.regrown_of (specPointOk_at P A B N gx gy a hP1 hN1 ok hok _)
  have HI := hide (fun w => implPointOk_at P A B N gx gy a hP1 hN1 ok hok w)
  clear hok
  have hb : (ok != ok) = false := by simp
  go_enter Tryd.func7, Tryd.ntmps7
  go_wp2
  refine wp_region_quiet_below (by kernel_rfl) (by kernel_rfl) ?_
  repeat (first | go_big_quiet_step (first | (go_at_call 30; exact HC.out _ _ _) | (go_at_call 32; exact HP.out _ _ _) | (go_at_call 31; exact HS.out _ _ _)) | quiet_step (first | (go_at_call 30; exact HC.out _ _ _) | (go_at_call 32; exact HP.out _ _ _) | (go_at_call 31; exact HS.out _ _ _)))
  refine wpQuiet_nil ?_
  intro w2 hw'
  obtain ⟨⟨dq, osq⟩, hw''⟩ := hw'
  have hz : w.heap.size + 2 ≤ w2.heap.size := by rw [hw'']; have := (below_regrown ((w.alloc (.cells #[.int .i64 P, .int .i64 A, .int .i64 B, .int .i64 N, .int .i64 gx, .int .i64 gy] 58)).alloc (.cells #[.int .i64 a.x, .int .i64 a.y, .bool a.far] 61)) dq osq).size; rw [World.size_alloc, World.size_alloc] at this; omega
  have B2 : Hid (Below w.heap.size w w2) := by rw [hw'']; exact below_re (((Below.refl _ _).alloc (Nat.le_refl _) _).alloc (by simp) _) (by simp <;> omega) _ _
  have g0 := e0 dq osq
  have g1 := e1 dq osq
  have g2 := e2 dq osq
  have g3 := e3 dq osq
  have g4 := e4 dq osq
  have g5 := e5 dq osq
  have i0 := f0 dq osq
  have i1 := f1 dq osq
  have i2 := f2 dq osq
  rw [← hw''] at g0 g1 g2 g3 g4 g5 i0 i1 i2
  clear hw'' e0 e1 e2 e3 e4 e5 f0 f1 f2
  have e0 := cell_regrown g0
  have e1 := cell_regrown g1
  have e2 := cell_regrown g2
  have e3 := cell_regrown g3
  have e4 := cell_regrown g4
  have e5 := cell_regrown g5
  have f0 := cell_regrown i0
  have f1 := cell_regrown i1
  have f2 := cell_regrown i2
  clear g0 g1 g2 g3 g4 g5 i0 i1 i2
  go_wp2
  refine wp_region_quiet_below (by kernel_rfl) (by kernel_rfl) ?_
  repeat (first | go_big_quiet_step (first | (go_at_call 30; exact HC.out _ _ _) | (go_at_call 32; exact HP.out _ _ _) | (go_at_call 12; exact Calls.regrown_of (HI.out _))) | quiet_step (first | (go_at_call 30; exact HC.out _ _ _) | (go_at_call 32; exact HP.out _ _ _) | (go_at_call 12; exact Calls.regrown_of (HI.out _))))
  refine wpQuiet_nil ?_
  intro w3 hw'
  obtain ⟨⟨dq, osq⟩, hw''⟩ := hw'
  have B3 : Hid (Below w.heap.size w w3) := by rw [hw'']; exact below_re B2.out (by omega) _ _
  clear hw'' e0 e1 e2 e3 e4 e5 f0 f1 f2
  go_wp2
  go_ret
  exact ⟨rfl, B3.out⟩

theorem walk (a0_0 a0_1 a0_2 a0_3 a0_4 a0_5 : Int) (a1_0 a1_1 : Int) (a1_2 : Bool) (w : World) (w0_0 : (Lit.int .i64 a0_0).wf = true) (w0_1 : (Lit.int .i64 a0_1).wf = true) (w0_2 : (Lit.int .i64 a0_2).wf = true) (w0_3 : (Lit.int .i64 a0_3).wf = true) (w0_4 : (Lit.int .i64 a0_4).wf = true) (w0_5 : (Lit.int .i64 a0_5).wf = true) (w1_0 : (Lit.int .i64 a1_0).wf = true) (w1_1 : (Lit.int .i64 a1_1).wf = true) (hT : Tab w) :
    Calls Tryd.prog 7 #[.agg #[.int .i64 a0_0, .int .i64 a0_1, .int .i64 a0_2, .int .i64 a0_3, .int .i64 a0_4, .int .i64 a0_5], .agg #[.int .i64 a1_0, .int .i64 a1_1, .bool a1_2]] w fun e w' => e = .returned (.bool true) ∧ Below w.heap.size w w' := by
  exact law a0_0 a0_1 a0_2 a0_3 a0_4 a0_5 ⟨a1_0, a1_1, a1_2⟩ (by have := bounds_i64 w0_0; omega) (by have := bounds_i64 w0_3; omega) w

theorem laidL : Rows.fnExactPointOkRow.laid = [("math/bits.deBruijn32tab", Rows.laid_math_bits_deBruijn32tab), ("math/bits.deBruijn64tab", Rows.laid_math_bits_deBruijn64tab)] := rfl

theorem g_math_bits_deBruijn32tab : Tryd.prog.globalNamed "math/bits.deBruijn32tab" = some 0 := by kernel_rfl
theorem t_math_bits_deBruijn32tab : (Tryd.prog.globals[0]?).map (·.type) = some 147 := by kernel_rfl
theorem g_math_bits_deBruijn64tab : Tryd.prog.globalNamed "math/bits.deBruijn64tab" = some 1 := by kernel_rfl
theorem t_math_bits_deBruijn64tab : (Tryd.prog.globals[1]?).map (·.type) = some 148 := by kernel_rfl

/-- The door's own heap meets the condition. -/
theorem door_met (os : Os) (args : Array Value) : laidMetH Tryd.prog [("math/bits.deBruijn32tab", Rows.laid_math_bits_deBruijn32tab), ("math/bits.deBruijn64tab", Rows.laid_math_bits_deBruijn64tab)] ((World.doorLaid Tryd.prog 400 os).forCall (fun _ _ => 0) ⟨#[], args, []⟩).memory :=
  laidMetH_of_parts3 (fuel := 8) (laidMet_of_run' 8 (by kernel_rfl) (by kernel_rfl)) (by kernel_rfl) (by kernel_rfl)

set_option maxRecDepth 100000 in
/-- What the condition gives the walks: the table's cells. -/
theorem of_laid {W : World} (h : laidMetH Tryd.prog [("math/bits.deBruijn32tab", Rows.laid_math_bits_deBruijn32tab), ("math/bits.deBruijn64tab", Rows.laid_math_bits_deBruijn64tab)] W) : Tab W := by
  rw [MakeChecks.laidMetH_plain _ _ _ (by kernel_rfl)] at h
  obtain ⟨ps, ⟨g0, t0, cs0, f0, p0, q0, hg0, ht0, hv0, hd0, ⟨g1, t1, cs1, f1, p1, q1, hg1, ht1, hv1, hd1, _, _⟩, _⟩, _, _⟩ := h
  obtain rfl := Option.some.inj (g_math_bits_deBruijn64tab.symm.trans hg1)
  obtain rfl := Option.some.inj (t_math_bits_deBruijn64tab.symm.trans ht1)
  obtain ⟨xs, m1, rfl, hx1, hlen, hn3, hel⟩ := DataW.trod_array Tryd.underlying148 hd1
  have c5 : Tryd.prog.cellsOf 5 = 1 := by kernel_rfl
  simp only [Prod.mk.injEq] at hx1
  have hxs : xs.map (·.1) = (Lib.deBruijn64tab.map fun (z : Nat) => (.lit (.int .u8 (z : Int)) : DataW Unit)) := by
    have e : (Rows.laid_math_bits_deBruijn64tab : DataW Unit) = .agg (Lib.deBruijn64tab.map fun (z : Nat) => (.lit (.int .u8 (z : Int)) : DataW Unit)) := rfl
    have h2 := hx1.1
    rw [e] at h2
    injection h2 with h3
    exact h3.symm
  intro j hj
  have h0 := hel j hj
  obtain ⟨y, hy⟩ : ∃ y, xs[j]? = some y := ⟨xs[j]'(by omega), List.getElem?_eq_getElem _⟩
  rw [hy] at h0
  obtain ⟨k, e1, e2, _⟩ := DataW.trod_int Tryd.underlying5 h0
  rw [c5, Nat.mul_one] at e1
  have hcell := World.var?_cell hg1 hv1 j
  have e3 : cs1[j]? = some (.int .u8 k) := by
    have : (cs1.toList.drop j)[0]? = some (.int .u8 k) := by
      have h4 := congrArg (fun l => l[0]?) e1
      simpa [List.getElem?_take] using h4
    simpa using this
  rw [hcell, e3]
  have e4 : (xs.map (·.1))[j]? = some y.1 := by simp [hy]
  rw [hxs, e2] at e4
  have hl : Lib.deBruijn64tab.length = 64 := by decide
  simp only [List.getElem?_map] at e4
  cases h6 : Lib.deBruijn64tab[j]? with
  | none => rw [h6] at e4; simp at e4
  | some z =>
    rw [h6] at e4
    simp only [Option.map_some, Option.some.injEq, DataW.lit.injEq, Lit.int.injEq, true_and] at e4
    rw [← e4, List.getD_eq_getElem?_getD, h6]
    rfl

/-! ### THE ROW's STEP -/
set_option maxRecDepth 100000 in
theorem lifted (os : Os) (started : os.Started) (H : Type) (enc : TypeId × Value → H) :
    ReturnsInHanded {} Tryd.checked os 7 .any (fun w args => (Rows.fnExactPointOkSpec.pre enc Tryd.prog Tryd.f7 [] false w args ∧ laidMetH Tryd.prog [("math/bits.deBruijn32tab", Rows.laid_math_bits_deBruijn32tab), ("math/bits.deBruijn64tab", Rows.laid_math_bits_deBruijn64tab)] w) ∧ sizedMet enc Tryd.prog Tryd.f7 (OpenSpec.ofChange Rows.fnExactPointOkSpec) false w args)
      (Rows.fnExactPointOkSpec.post enc Tryd.prog Tryd.f7 false true false false) := by
  refine returnsInHanded_of_change_and (C := Tryd.checked) (X := fun w _ => laidMetH Tryd.prog [("math/bits.deBruijn32tab", Rows.laid_math_bits_deBruijn32tab), ("math/bits.deBruijn64tab", Rows.laid_math_bits_deBruijn64tab)] w) (fun _ _ _ hh h => h.of_heap hh) own started (by kernel_rfl) Tryd.func7
    (ChangeSpec.witness_shaped (enc := enc) (C := Tryd.checked) (os := os) (X := fun w _ => laidMetH Tryd.prog [("math/bits.deBruijn32tab", Rows.laid_math_bits_deBruijn32tab), ("math/bits.deBruijn64tab", Rows.laid_math_bits_deBruijn64tab)] w) false (World.doorLaid Tryd.prog 400 os) #[.agg #[.int .i64 0, .int .i64 0, .int .i64 0, .int .i64 0, .int .i64 0, .int .i64 0], .agg #[.int .i64 0, .int .i64 0, .bool false]] 8 rfl (World.shaped_of_RefB (by kernel_rfl) (by kernel_rfl)) (by kernel_rfl) (by kernel_rfl) (by kernel_rfl) (door_met os _)) ?_
  intro W base args ds gs before hval0 hW _ _ hL _
  have hval : ∀ (j : Nat) t v, Tryd.f7.params[j]? = some t → args[j]? = some v → Value.okWide Tryd.prog W .any base t v := hval0
  have hW' := hW
  obtain ⟨p, q, hA0, hV, rfl, hfz, hnd⟩ := hW
  have hA : DataW.TrodAll enc Tryd.prog W 0 (fun _ => true) true Tryd.f7.params.toList args.toList ds p := hA0
  rw [Tryd.params7] at hA hval
  obtain ⟨v0, vs0, d0, ds0, p0, q0, hargs, rfl, rfl, h0, r0⟩ := trodAll_cons hA
  obtain ⟨v1, vs1, d1, ds1, p1, q1, rfl, rfl, rfl, h1, r1⟩ := trodAll_cons r0
  obtain ⟨rfl, rfl, rfl⟩ := trodAll_nil r1
  obtain rfl : args = #[v0, v1] := by cases args; simp_all
  obtain ⟨rfl, rfl⟩ := trodVars_none hV
  obtain ⟨a0_0, a0_1, a0_2, a0_3, a0_4, a0_5, rfl, rfl, rfl, w0_0, w0_1, w0_2, w0_3, w0_4, w0_5⟩ := open_curve (hval 0 58 v0 rfl rfl) h0
  obtain ⟨a1_0, a1_1, a1_2, rfl, rfl, rfl, w1_0, w1_1⟩ := open_point (hval 1 61 v1 rfl rfl) h1
  clear hA0 hval0
  have hTab := of_laid hL
  refine (walk a0_0 a0_1 a0_2 a0_3 a0_4 a0_5 a1_0 a1_1 a1_2 W w0_0 w0_1 w0_2 w0_3 w0_4 w0_5 w1_0 w1_1 hTab).mono fun e W' ⟨he, hg⟩ => ?_
  subst he
  exact ⟨_, rfl, _, _, _, [], _, [], hW', (trodAll_cons_mk (shut_bool Tryd.underlying4 _) trodAll_mk0), (trodAll_cons_mk (shut_curve w0_0 w0_1 w0_2 w0_3 w0_4 w0_5) (trodAll_cons_mk (shut_point w1_0 w1_1) trodAll_mk0)), rfl, hg.frame _, fun h => by cases h⟩

theorem over : Rows.fnExactPointOkRow.holds Tryd.pinned (OpenSpec.ofChange Rows.fnExactPointOkSpec) :=
  OpenClaim.holds_of_wide 7 Tryd.f7 rfl rfl rfl rfl rfl rfl rfl ⟨rfl, rfl, rfl, rfl, rfl⟩ rfl rfl rfl rfl rfl (by kernel_rfl) Tryd.func7 (by kernel_rfl)
    (of_decide_eq_true (by kernel_rfl)) (by unfold Func.isWrapper; first | (rw [if_pos (by decide +kernel)]; kernel_rfl) | (rw [if_neg (by decide +kernel)]; exact ⟨rfl, rfl⟩))
    (fun os started H enc _ => lifted os started H enc)

theorem proved : Rows.FnExactPointOkSaid :=
  over
end Go.Proofs.YtejlgcnhfomadaaDoor.fnExactPointOk

namespace Go.Proofs.YtejlgcnhfomadaaDoor
/-- The given statement: the tied card. -/
theorem fnExactPointOk_holds : Rows.FnExactPointOkCardSaid :=
  Claim7.holds_tied_plain_at .later [] [.data, .data] true (true, "29d657ea4ee94af07f63ab37ad0f550ba03de8a2ff74a5331e75d96d09c57f90") true
    fnExactPointOk.proved (fun _ h => by cases h) (by kernel_rfl) (fun _ h => by cases h) fnExactPointOk_row_tie rfl ⟨rfl, rfl⟩ (by kernel_rfl) rfl
    (fun f fn hf hfn => by
      obtain rfl : f = 7 := Option.some.inj ((show Tryd.prog.funcNamed "loop.example/g00148/laws.FnExactPointOk" = some 7 by kernel_rfl).symm.trans hf) |>.symm
      obtain rfl : fn = Tryd.f7 := (Option.some.inj (Tryd.func7.symm.trans hfn)).symm
      exact ⟨by kernel_rfl, fun j t ht => by
        rw [Tryd.params7] at ht
        have hm : t ∈ [58, 61] := by have := Array.mem_of_getElem? ht; simpa using this
        have hall : ([58, 61].all fun u => !Tryd.prog.wantsStandIn u) = true := by kernel_rfl
        exact (show Tryd.prog.wantsStandIn t = false by simpa using List.all_eq_true.1 hall t hm)⟩)
    (by kernel_rfl)
#print axioms fnExactPointOk_holds
end Go.Proofs.YtejlgcnhfomadaaDoor
