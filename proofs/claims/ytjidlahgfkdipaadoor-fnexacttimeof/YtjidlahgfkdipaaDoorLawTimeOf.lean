/- The law FnExactTimeOf: TimeOf answers as the model does. -/
import Derived.Test.YtjidlahgfkdipaaDoorRows
import Derived.WalkKit
import Derived.ProofKit
import Derived.OpenShut
import Derived.ShutString
import Derived.Test.YtjidlahgfkdipaaDoorCards
import Derived.Test.YtjidlahgfkdipaaDoorTie
import Derived.Test.YtjidlahgfkdipaaDoorTid
import Derived.LaidLaws
import Derived.Lib.LaidTab
import Derived.Stop.LaidErr
import Derived.Below
import Derived.ChangeOld
import Derived.LaidMore
import Derived.Stop.Joined
import Derived.SevenTiedAt
import Derived.OpenVars
import Derived.ChangeVars
namespace Go.Proofs.YtjidlahgfkdipaaDoor.fnExactTimeOf
open Go.ChangeShapes Go.WideShapes Go.ChangeAt Go.RowKit
open Go.ChangeMaps (open_string shut_string)
set_option linter.unusedVariables false      -- a walk need not use every 'w<i>' (that an integer argument fits its kind)

theorem own : ownKnob Tryd.prog.godebug = none := by kernel_rfl

set_option maxHeartbeats 800000 in
theorem law (y m d s : Int) (w : World) (hT : MTab w) :
    Calls Tryd.prog 3 #[.int .i64 y, .int .i64 m, .int .i64 d, .int .i64 s] w fun e w' => e = .returned (.bool true) ∧ Below w.heap.size w w' := by
  have HS := hide (specTimeOf_any y m d s w)
  have HI : Hid (∀ W, Ext w W → Calls Tryd.prog 10 #[.int .i64 y, .int .i64 m, .int .i64 d, .int .i64 s] W fun e w' => e = .returned (.tuple #[.int .i64 (tTm y m d s), .bool (tOk y m d s)]) ∧ w' = W) := fun W h => implTimeOf_any y m d s W (hT.ext h)
  generalize tTm y m d s = V at *
  generalize tOk y m d s = B at *
  have hv : (V != V) = false := by simp
  have hb : (B != B) = false := by simp
  clear hT
  go_enter Tryd.func3, Tryd.ntmps3
  go_wp2_with fail
  refine HS.out.mono ?_
  rintro e w1 ⟨rfl, hE1⟩
  have HE := hide hE1
  clear hE1
  go_wp2_with fail
  refine (HI.out _ HE.out).mono ?_
  rintro e w2 ⟨rfl, hw⟩
  obtain rfl := hw.symm
  go_wp2
  go_ret
  exact ⟨rfl, HE.out⟩

theorem walk (a0 : Int) (a1 : Int) (a2 : Int) (a3 : Int) (w0 : (Lit.int .i64 a0).wf = true) (w1 : (Lit.int .i64 a1).wf = true) (w2 : (Lit.int .i64 a2).wf = true) (w3 : (Lit.int .i64 a3).wf = true) (w : World) (hT : MTab w) :
    Calls Tryd.prog 3 #[.int .i64 a0, .int .i64 a1, .int .i64 a2, .int .i64 a3] w fun e w' => e = .returned (.bool true) ∧ Below w.heap.size w w' := by
  exact law a0 a1 a2 a3 w hT

theorem laidL : Rows.fnExactTimeOfRow.laid = [("loop.example/g00148/impl.monthDays", Rows.laid_loop_example_g00148_impl_monthDays)] := rfl

theorem g_loop_example_g00148_impl_monthDays : Tryd.prog.globalNamed "loop.example/g00148/impl.monthDays" = some 0 := by kernel_rfl
theorem t_loop_example_g00148_impl_monthDays : (Tryd.prog.globals[0]?).map (·.type) = some 47 := by kernel_rfl

/-- The door's own heap meets the condition. -/
theorem door_met (os : Os) (args : Array Value) : laidMetH Tryd.prog [("loop.example/g00148/impl.monthDays", Rows.laid_loop_example_g00148_impl_monthDays)] ((World.doorLaid Tryd.prog 400 os).forCall (fun _ _ => 0) ⟨#[], args, []⟩).memory :=
  laidMetH_of_parts3 (fuel := 8) (laidMet_of_run' 8 (by kernel_rfl) (by kernel_rfl)) (by kernel_rfl) (by kernel_rfl)

set_option maxRecDepth 100000 in
/-- What the condition gives the walks. -/
theorem of_laid {W : World} (h : laidMetH Tryd.prog [("loop.example/g00148/impl.monthDays", Rows.laid_loop_example_g00148_impl_monthDays)] W) : MTab W := by
  rw [MakeChecks.laidMetH_plain _ _ _ (by kernel_rfl)] at h
  have e_loop_example_g00148_impl_monthDays : (Rows.laid_loop_example_g00148_impl_monthDays : DataW Unit) = Lib.tabData .i64 mTab := by rfl
  have p_loop_example_g00148_impl_monthDays : Lib.TabIs Tryd.prog W "loop.example/g00148/impl.monthDays" .i64 mTab := by
    have h := h
    rw [e_loop_example_g00148_impl_monthDays] at h
    exact Lib.tabIs_of_head g_loop_example_g00148_impl_monthDays t_loop_example_g00148_impl_monthDays Tryd.underlying47 Tryd.underlying3 (by kernel_rfl) (by kernel_rfl) h
  exact p_loop_example_g00148_impl_monthDays

/-! ### THE ROW's STEP -/
set_option maxRecDepth 100000 in
theorem lifted (os : Os) (started : os.Started) (H : Type) (enc : TypeId × Value → H) :
    ReturnsInHanded {} Tryd.checked os 3 .any (fun w args => (Rows.fnExactTimeOfSpec.pre enc Tryd.prog Tryd.f3 [] false w args ∧ laidMetH Tryd.prog [("loop.example/g00148/impl.monthDays", Rows.laid_loop_example_g00148_impl_monthDays)] w) ∧ sizedMet enc Tryd.prog Tryd.f3 (OpenSpec.ofChange Rows.fnExactTimeOfSpec) false w args)
      (Rows.fnExactTimeOfSpec.post enc Tryd.prog Tryd.f3 false true false false) := by
  refine returnsInHanded_of_change_and (C := Tryd.checked) (X := fun w _ => laidMetH Tryd.prog [("loop.example/g00148/impl.monthDays", Rows.laid_loop_example_g00148_impl_monthDays)] w) (fun _ _ _ hh h => h.of_heap hh) own started (by kernel_rfl) Tryd.func3
    (ChangeSpec.witness_shaped (enc := enc) (C := Tryd.checked) (os := os) (X := fun w _ => laidMetH Tryd.prog [("loop.example/g00148/impl.monthDays", Rows.laid_loop_example_g00148_impl_monthDays)] w) false (World.doorLaid Tryd.prog 400 os) #[.int .i64 0, .int .i64 0, .int .i64 0, .int .i64 0] 8 rfl (World.shaped_of_RefB (by kernel_rfl) (by kernel_rfl)) (by kernel_rfl) (by kernel_rfl) (by kernel_rfl) (door_met os _)) ?_
  intro W base args ds gs before hval0 hW _ _ hL _
  have hval : ∀ (j : Nat) t v, Tryd.f3.params[j]? = some t → args[j]? = some v → Value.okWide Tryd.prog W .any base t v := hval0
  have hW' := hW
  obtain ⟨p, q, hA0, hV, rfl, hfz, hnd⟩ := hW
  have hA : DataW.TrodAll enc Tryd.prog W 0 (fun _ => true) true Tryd.f3.params.toList args.toList ds p := hA0
  rw [Tryd.params3] at hA hval
  obtain ⟨v0, vs0, d0, ds0, p0, q0, hargs, rfl, rfl, h0, r0⟩ := trodAll_cons hA
  obtain ⟨v1, vs1, d1, ds1, p1, q1, rfl, rfl, rfl, h1, r1⟩ := trodAll_cons r0
  obtain ⟨v2, vs2, d2, ds2, p2, q2, rfl, rfl, rfl, h2, r2⟩ := trodAll_cons r1
  obtain ⟨v3, vs3, d3, ds3, p3, q3, rfl, rfl, rfl, h3, r3⟩ := trodAll_cons r2
  obtain ⟨rfl, rfl, rfl⟩ := trodAll_nil r3
  obtain rfl : args = #[v0, v1, v2, v3] := by cases args; simp_all
  have hV2 := hV
  obtain ⟨gV, tV, csV, fuelV, dV, pV, rfl, -, -, -, -, rfl⟩ := trodVars_one hV
  obtain ⟨a0, rfl, rfl, rfl, w0⟩ := open_int Tryd.underlying3 (hval 0 3 v0 rfl rfl) h0
  obtain ⟨a1, rfl, rfl, rfl, w1⟩ := open_int Tryd.underlying3 (hval 1 3 v1 rfl rfl) h1
  obtain ⟨a2, rfl, rfl, rfl, w2⟩ := open_int Tryd.underlying3 (hval 2 3 v2 rfl rfl) h2
  obtain ⟨a3, rfl, rfl, rfl, w3⟩ := open_int Tryd.underlying3 (hval 3 3 v3 rfl rfl) h3
  clear hA0 hval0
  have hTab := of_laid hL
  refine (walk a0 a1 a2 a3 w0 w1 w2 w3 W hTab).mono fun e W' ⟨he, hg⟩ => ?_
  subst he
  exact ⟨_, rfl, _, _, _, [], _, _, hW', (trodAll_cons_mk (shut_bool Tryd.underlying4 _) trodAll_mk0), (trodAll_cons_mk (shut_int Tryd.underlying3 w0) (trodAll_cons_mk (shut_int Tryd.underlying3 w1) (trodAll_cons_mk (shut_int Tryd.underlying3 w2) (trodAll_cons_mk (shut_int Tryd.underlying3 w3) trodAll_mk0)))), Below.trodVars (by kernel_rfl) hg (by kernel_rfl) hV2, hg.frame _, fun h => by cases h⟩

theorem over : Rows.fnExactTimeOfRow.holds Tryd.pinned (OpenSpec.ofChange Rows.fnExactTimeOfSpec) :=
  OpenClaim.holds_of_wide 3 Tryd.f3 rfl rfl rfl rfl rfl rfl rfl ⟨rfl, rfl, rfl, rfl, rfl⟩ rfl rfl rfl rfl rfl (by kernel_rfl) Tryd.func3 (by kernel_rfl)
    (of_decide_eq_true (by kernel_rfl)) (by unfold Func.isWrapper; first | (rw [if_pos (by decide +kernel)]; kernel_rfl) | (rw [if_neg (by decide +kernel)]; exact ⟨rfl, rfl⟩))
    (fun os started H enc _ => lifted os started H enc)

/-- ████ THE STATEMENT ████ -/
theorem proved : Rows.FnExactTimeOfSaid :=
  over
end Go.Proofs.YtjidlahgfkdipaaDoor.fnExactTimeOf

namespace Go.Proofs.YtjidlahgfkdipaaDoor
/-- The given statement: the tied card. -/
theorem fnExactTimeOf_holds : Rows.FnExactTimeOfCardSaid :=
  Claim7.holds_tied_plain_at .later [] [.data] true (true, "23252f1812f9579c57309dbfdb9390aa1bdcc65a3cc3ef6b60fb8ffd3475eaab") true
    fnExactTimeOf.proved (fun _ h => by cases h) (by kernel_rfl) (fun _ h => by cases h) fnExactTimeOf_row_tie rfl ⟨rfl, rfl⟩ (by kernel_rfl) rfl
    (fun f fn hf hfn => by
      obtain rfl : f = 3 := Option.some.inj ((show Tryd.prog.funcNamed "loop.example/g00148/laws.FnExactTimeOf" = some 3 by kernel_rfl).symm.trans hf) |>.symm
      obtain rfl : fn = Tryd.f3 := (Option.some.inj (Tryd.func3.symm.trans hfn)).symm
      exact ⟨by kernel_rfl, fun j t ht => by
        rw [Tryd.params3] at ht
        have hm : t ∈ [3] := by have := Array.mem_of_getElem? ht; simpa using this
        have hall : ([3].all fun u => !Tryd.prog.wantsStandIn u) = true := by kernel_rfl
        exact (show Tryd.prog.wantsStandIn t = false by simpa using List.all_eq_true.1 hall t hm)⟩)
    (by kernel_rfl)
#print axioms fnExactTimeOf_holds
end Go.Proofs.YtjidlahgfkdipaaDoor
