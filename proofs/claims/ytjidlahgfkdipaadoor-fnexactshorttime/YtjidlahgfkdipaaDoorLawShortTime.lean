/- The law FnExactShortTime: ShortTime answers as the model does. -/
import Derived.Test.YtjidlahgfkdipaaDoorRows
import Derived.WalkKit
import Derived.ProofKit
import Derived.OpenShut
import Derived.ShutString
import Derived.Test.YtjidlahgfkdipaaDoorCards
import Derived.Test.YtjidlahgfkdipaaDoorTie
import Derived.Test.YtjidlahgfkdipaaDoorTiv
import Derived.LaidLaws
import Derived.Lib.LaidTab
import Derived.Stop.LaidErr
import Derived.Below
import Derived.ChangeOld
import Derived.LaidMore
import Derived.Stop.Joined
import Derived.SevenTiedAt
import Derived.OpenVars
import Derived.ChangeVars
namespace Go.Proofs.YtjidlahgfkdipaaDoor.fnExactShortTime
open Go.ChangeShapes Go.WideShapes Go.ChangeAt Go.RowKit
open Go.ChangeMaps (open_string shut_string)
set_option linter.unusedVariables false      -- a walk need not use every 'w<i>' (that an integer argument fits its kind)

theorem own : ownKnob Tryd.prog.godebug = none := by kernel_rfl

set_option maxHeartbeats 800000 in
theorem law (t : Int) (w : World) (hT : Tab w ∧ MTab w) :
    Calls Tryd.prog 5 #[.int .i64 t] w fun e w' => e = .returned (.bool true) ∧ Below w.heap.size w w' := by
  by_cases h : inT t ∧ t ≤ 2524607999
  · have HS := hide (specShort_yes t h.1 h.2 w)
    have HI : Hid (∀ W, Ext w W → Calls Tryd.prog 14 #[.int .i64 t] W fun e w' => GivesShort t W e w') := fun W k => implShort_yes t h.1 h.2 W (hT.2.ext k) (hT.1.ext k)
    clear hT h
    go_enter Tryd.func5, Tryd.ntmps5
    go_wp2_with fail
    refine HS.out.mono ?_
    rintro e w1 ⟨y, m, d, s, rfl, hD, hE1⟩
    have HE := hide hE1
    clear hE1
    go_wp2_with fail
    refine (HI.out _ HE.out).mono ?_
    rintro e w2 ⟨y2, m2, d2, s2, rfl, hD2, hE2⟩
    obtain ⟨rfl, rfl, rfl, rfl⟩ := hD.unique hD2
    replace HE := hide (Ext.trans HE.out hE2)
    clear hD hD2 hE2
    generalize shortB y m d s = L
    go_wp2
    go_ret
    exact ⟨rfl, HE.out⟩
  · have HI : Hid (∀ W, Ext w W → Calls Tryd.prog 14 #[.int .i64 t] W fun e w' => e = .returned (.tuple #[.string ⟨#[]⟩, .bool false]) ∧ Ext W w') := fun W k => implShort_no t h W (hT.2.ext k) (hT.1.ext k)
    have HS := hide (specShort_no t h w)
    clear hT h
    go_enter Tryd.func5, Tryd.ntmps5
    go_wp2_with fail
    refine HS.out.mono ?_
    rintro e w1 ⟨rfl, hE1⟩
    have HE := hide hE1
    clear hE1
    go_wp2_with fail
    refine (HI.out _ HE.out).mono ?_
    rintro e w2 ⟨rfl, hE2⟩
    replace HE := hide (Ext.trans HE.out hE2)
    clear hE2
    go_wp2
    go_ret
    exact ⟨rfl, HE.out⟩

theorem walk (a0 : Int) (w0 : (Lit.int .i64 a0).wf = true) (w : World) (hT : Tab w ∧ MTab w) :
    Calls Tryd.prog 5 #[.int .i64 a0] w fun e w' => e = .returned (.bool true) ∧ Below w.heap.size w w' := by
  exact law a0 w hT

theorem laidL : Rows.fnExactShortTimeRow.laid = [("math/bits.deBruijn32tab", Rows.laid_math_bits_deBruijn32tab), ("math/bits.deBruijn64tab", Rows.laid_math_bits_deBruijn64tab), ("internal/strconv.uint64pow10", Rows.laid_internal_strconv_uint64pow10), ("loop.example/g00148/impl.monthDays", Rows.laid_loop_example_g00148_impl_monthDays)] := rfl

theorem g_math_bits_deBruijn32tab : Tryd.prog.globalNamed "math/bits.deBruijn32tab" = some 4 := by kernel_rfl
theorem t_math_bits_deBruijn32tab : (Tryd.prog.globals[4]?).map (·.type) = some 84 := by kernel_rfl
theorem g_math_bits_deBruijn64tab : Tryd.prog.globalNamed "math/bits.deBruijn64tab" = some 5 := by kernel_rfl
theorem t_math_bits_deBruijn64tab : (Tryd.prog.globals[5]?).map (·.type) = some 85 := by kernel_rfl
theorem g_internal_strconv_uint64pow10 : Tryd.prog.globalNamed "internal/strconv.uint64pow10" = some 1 := by kernel_rfl
theorem t_internal_strconv_uint64pow10 : (Tryd.prog.globals[1]?).map (·.type) = some 68 := by kernel_rfl
theorem g_loop_example_g00148_impl_monthDays : Tryd.prog.globalNamed "loop.example/g00148/impl.monthDays" = some 0 := by kernel_rfl
theorem t_loop_example_g00148_impl_monthDays : (Tryd.prog.globals[0]?).map (·.type) = some 47 := by kernel_rfl

/-- The door's own heap meets the condition. -/
theorem door_met (os : Os) (args : Array Value) : laidMetH Tryd.prog [("math/bits.deBruijn32tab", Rows.laid_math_bits_deBruijn32tab), ("math/bits.deBruijn64tab", Rows.laid_math_bits_deBruijn64tab), ("internal/strconv.uint64pow10", Rows.laid_internal_strconv_uint64pow10), ("loop.example/g00148/impl.monthDays", Rows.laid_loop_example_g00148_impl_monthDays)] ((World.doorLaid Tryd.prog 400 os).forCall (fun _ _ => 0) ⟨#[], args, []⟩).memory :=
  laidMetH_of_parts3 (fuel := 8) (laidMet_of_run' 8 (by kernel_rfl) (by kernel_rfl)) (by kernel_rfl) (by kernel_rfl)

set_option maxRecDepth 100000 in
/-- What the condition gives the walks. -/
theorem of_laid {W : World} (h : laidMetH Tryd.prog [("math/bits.deBruijn32tab", Rows.laid_math_bits_deBruijn32tab), ("math/bits.deBruijn64tab", Rows.laid_math_bits_deBruijn64tab), ("internal/strconv.uint64pow10", Rows.laid_internal_strconv_uint64pow10), ("loop.example/g00148/impl.monthDays", Rows.laid_loop_example_g00148_impl_monthDays)] W) : Tab W ∧ MTab W := by
  rw [MakeChecks.laidMetH_plain _ _ _ (by kernel_rfl)] at h
  have e_internal_strconv_uint64pow10 : (Rows.laid_internal_strconv_uint64pow10 : DataW Unit) = Lib.tabData .u64 Lib.pow10Tab := by rfl
  have e_loop_example_g00148_impl_monthDays : (Rows.laid_loop_example_g00148_impl_monthDays : DataW Unit) = Lib.tabData .i64 mTab := by rfl
  have p_internal_strconv_uint64pow10 : Lib.TabIs Tryd.prog W "internal/strconv.uint64pow10" .u64 Lib.pow10Tab := by
    have h := h
    rw [e_internal_strconv_uint64pow10] at h
    exact Lib.tabIs_of_head g_internal_strconv_uint64pow10 t_internal_strconv_uint64pow10 Tryd.underlying68 Tryd.underlying60 (by kernel_rfl) (by kernel_rfl) (laidMet.tail (laidMet.tail h))
  have p_loop_example_g00148_impl_monthDays : Lib.TabIs Tryd.prog W "loop.example/g00148/impl.monthDays" .i64 mTab := by
    have h := h
    rw [e_loop_example_g00148_impl_monthDays] at h
    exact Lib.tabIs_of_head g_loop_example_g00148_impl_monthDays t_loop_example_g00148_impl_monthDays Tryd.underlying47 Tryd.underlying3 (by kernel_rfl) (by kernel_rfl) (laidMet.tail (laidMet.tail (laidMet.tail h)))
  exact ⟨p_internal_strconv_uint64pow10, p_loop_example_g00148_impl_monthDays⟩

/-! ### THE ROW's STEP -/
set_option maxRecDepth 100000 in
theorem lifted (os : Os) (started : os.Started) (H : Type) (enc : TypeId × Value → H) :
    ReturnsInHanded {} Tryd.checked os 5 .any (fun w args => (Rows.fnExactShortTimeSpec.pre enc Tryd.prog Tryd.f5 [] false w args ∧ laidMetH Tryd.prog [("math/bits.deBruijn32tab", Rows.laid_math_bits_deBruijn32tab), ("math/bits.deBruijn64tab", Rows.laid_math_bits_deBruijn64tab), ("internal/strconv.uint64pow10", Rows.laid_internal_strconv_uint64pow10), ("loop.example/g00148/impl.monthDays", Rows.laid_loop_example_g00148_impl_monthDays)] w) ∧ sizedMet enc Tryd.prog Tryd.f5 (OpenSpec.ofChange Rows.fnExactShortTimeSpec) false w args)
      (Rows.fnExactShortTimeSpec.post enc Tryd.prog Tryd.f5 false true false false) := by
  refine returnsInHanded_of_change_and (C := Tryd.checked) (X := fun w _ => laidMetH Tryd.prog [("math/bits.deBruijn32tab", Rows.laid_math_bits_deBruijn32tab), ("math/bits.deBruijn64tab", Rows.laid_math_bits_deBruijn64tab), ("internal/strconv.uint64pow10", Rows.laid_internal_strconv_uint64pow10), ("loop.example/g00148/impl.monthDays", Rows.laid_loop_example_g00148_impl_monthDays)] w) (fun _ _ _ hh h => h.of_heap hh) own started (by kernel_rfl) Tryd.func5
    (ChangeSpec.witness_shaped (enc := enc) (C := Tryd.checked) (os := os) (X := fun w _ => laidMetH Tryd.prog [("math/bits.deBruijn32tab", Rows.laid_math_bits_deBruijn32tab), ("math/bits.deBruijn64tab", Rows.laid_math_bits_deBruijn64tab), ("internal/strconv.uint64pow10", Rows.laid_internal_strconv_uint64pow10), ("loop.example/g00148/impl.monthDays", Rows.laid_loop_example_g00148_impl_monthDays)] w) false (World.doorLaid Tryd.prog 400 os) #[.int .i64 0] 8 rfl (World.shaped_of_RefB (by kernel_rfl) (by kernel_rfl)) (by kernel_rfl) (by kernel_rfl) (by kernel_rfl) (door_met os _)) ?_
  intro W base args ds gs before hval0 hW _ _ hL _
  have hval : ∀ (j : Nat) t v, Tryd.f5.params[j]? = some t → args[j]? = some v → Value.okWide Tryd.prog W .any base t v := hval0
  have hW' := hW
  obtain ⟨p, q, hA0, hV, rfl, hfz, hnd⟩ := hW
  have hA : DataW.TrodAll enc Tryd.prog W 0 (fun _ => true) true Tryd.f5.params.toList args.toList ds p := hA0
  rw [Tryd.params5] at hA hval
  obtain ⟨v0, vs0, d0, ds0, p0, q0, hargs, rfl, rfl, h0, r0⟩ := trodAll_cons hA
  obtain ⟨rfl, rfl, rfl⟩ := trodAll_nil r0
  obtain rfl : args = #[v0] := by cases args; simp_all
  have hV2 := hV
  obtain ⟨gV, tV, csV, fuelV, dV, pV, rfl, -, -, -, -, rfl⟩ := trodVars_one hV
  obtain ⟨a0, rfl, rfl, rfl, w0⟩ := open_int Tryd.underlying3 (hval 0 3 v0 rfl rfl) h0
  clear hA0 hval0
  have hTab := of_laid hL
  refine (walk a0 w0 W hTab).mono fun e W' ⟨he, hg⟩ => ?_
  subst he
  exact ⟨_, rfl, _, _, _, [], _, _, hW', (trodAll_cons_mk (shut_bool Tryd.underlying4 _) trodAll_mk0), (trodAll_cons_mk (shut_int Tryd.underlying3 w0) trodAll_mk0), Below.trodVars (by kernel_rfl) hg (by kernel_rfl) hV2, hg.frame _, fun h => by cases h⟩

theorem over : Rows.fnExactShortTimeRow.holds Tryd.pinned (OpenSpec.ofChange Rows.fnExactShortTimeSpec) :=
  OpenClaim.holds_of_wide 5 Tryd.f5 rfl rfl rfl rfl rfl rfl rfl ⟨rfl, rfl, rfl, rfl, rfl⟩ rfl rfl rfl rfl rfl (by kernel_rfl) Tryd.func5 (by kernel_rfl)
    (of_decide_eq_true (by kernel_rfl)) (by unfold Func.isWrapper; first | (rw [if_pos (by decide +kernel)]; kernel_rfl) | (rw [if_neg (by decide +kernel)]; exact ⟨rfl, rfl⟩))
    (fun os started H enc _ => lifted os started H enc)

/-- ████ THE STATEMENT ████ -/
theorem proved : Rows.FnExactShortTimeSaid :=
  over
end Go.Proofs.YtjidlahgfkdipaaDoor.fnExactShortTime

namespace Go.Proofs.YtjidlahgfkdipaaDoor
/-- The given statement: the tied card. -/
theorem fnExactShortTime_holds : Rows.FnExactShortTimeCardSaid :=
  Claim7.holds_tied_plain_at .later [] [.data, .data, .data, .data] true (true, "23252f1812f9579c57309dbfdb9390aa1bdcc65a3cc3ef6b60fb8ffd3475eaab") true
    fnExactShortTime.proved (fun _ h => by cases h) (by kernel_rfl) (fun _ h => by cases h) fnExactShortTime_row_tie rfl ⟨rfl, rfl⟩ (by kernel_rfl) rfl
    (fun f fn hf hfn => by
      obtain rfl : f = 5 := Option.some.inj ((show Tryd.prog.funcNamed "loop.example/g00148/laws.FnExactShortTime" = some 5 by kernel_rfl).symm.trans hf) |>.symm
      obtain rfl : fn = Tryd.f5 := (Option.some.inj (Tryd.func5.symm.trans hfn)).symm
      exact ⟨by kernel_rfl, fun j t ht => by
        rw [Tryd.params5] at ht
        have hm : t ∈ [3] := by have := Array.mem_of_getElem? ht; simpa using this
        have hall : ([3].all fun u => !Tryd.prog.wantsStandIn u) = true := by kernel_rfl
        exact (show Tryd.prog.wantsStandIn t = false by simpa using List.all_eq_true.1 hall t hm)⟩)
    (by kernel_rfl)
#print axioms fnExactShortTime_holds
end Go.Proofs.YtjidlahgfkdipaaDoor
