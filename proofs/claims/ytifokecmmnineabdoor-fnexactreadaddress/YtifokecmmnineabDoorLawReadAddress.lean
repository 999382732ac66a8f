/- The law FnExactReadAddress: ReadAddress answers as the model does. -/
import Derived.Test.YtifokecmmnineabDoorRows
import Derived.WalkKit
import Derived.ProofKit
import Derived.OpenShut
import Derived.ShutString
import Derived.Test.YtifokecmmnineabDoorCards
import Derived.Test.YtifokecmmnineabDoorTie
import Derived.Test.YtifokecmmnineabDoorRds
import Derived.LaidLaws
import Derived.Lib.LaidTab
import Derived.Stop.LaidErr
import Derived.Below
import Derived.ChangeOld
import Derived.LaidMore
import Derived.Stop.Joined
import Derived.SevenTiedAt
namespace Go.Proofs.YtifokecmmnineabDoor.fnExactReadAddress
open Go.ChangeShapes Go.WideShapes Go.ChangeAt Go.RowKit
open Go.ChangeMaps (open_string shut_string)
set_option linter.unusedVariables false      -- a walk need not use every 'w<i>' (that an integer argument fits its kind)

theorem own : ownKnob Tryd.prog.godebug = none := by kernel_rfl

theorem big_any (s : ByteArray) (h : ¬ s.size ≤ 1048576) (w : World) :
    Calls Tryd.prog 4 #[.string s] w fun e w' => e = .returned (.bool true) ∧ Below w.heap.size w w' := by
  have g0 : (1048576 : Int) < (s.size : Int) := by omega
  go_enter Tryd.func4, Tryd.ntmps4
  go_wp2
  go_ret
  exact ⟨rfl, Below.refl _ _⟩

set_option maxHeartbeats 3200000 in
set_option maxRecDepth 100000 in
theorem law (s : ByteArray) (hs : s.size ≤ 1048576) (w : World) (hT : Tabs w) :
    Calls Tryd.prog 4 #[.string s] w fun e w' => e = .returned (.bool true) ∧ Below w.heap.size w w' := by
  have g0 : ¬ (1048576 : Int) < (s.size : Int) := by omega
  have HSp : Hid (∀ W, Calls Tryd.prog 10 #[.string s] W fun e w' => GivesR' W (if spB s then spL s else []).length (fun i => (if spB s then spL s else []).getD i 0) (spB s) e w') := fun W => (specRead_any s W hs).mono (fun _ _ k => k.r)
  have HIm : Hid (∀ W, Ext w W → Calls Tryd.prog 11 #[.string s] W fun e w' => GivesR' W (if spB s then spL s else []).length (fun i => (if spB s then spL s else []).getD i 0) (spB s) e w') := fun W h => (implRead_sp s W hs (hT.1.ext h) (hT.2.ext h)).mono (fun _ _ k => k.r)
  have hM := rd_len s
  generalize (fun i => (if spB s then spL s else []).getD i 0) = F at *
  generalize (if spB s then spL s else []).length = M at *
  generalize spB s = ok at *
  clear hT
  cases ok
  all_goals
    go_enter Tryd.func4, Tryd.ntmps4
    go_wp2_with fail
    refine (HSp.out _).mono ?_
    rintro e w1 ⟨aw, gw, cw, rfl, hgw, ow, hE1⟩
    have HE := hide hE1
    have sw := ow.toSeg
    have ltw : 0 < M → gw < w1.heap.size := fun h => ow.lt h
    have hS1 : w.heap.size ≤ w1.heap.size := Below.size hE1
    clear hE1 ow hgw
    go_wp2_with fail
    refine (HIm.out _ HE.out).mono ?_
    rintro e w5 ⟨ag, gg, cg, rfl, hgg, og, hE5⟩
    replace HE := hide (Ext.trans HE.out hE5)
    replace sw := sw.of_all hE5
    clear hE5
    go_wp2_with fail
    refine (eqIntS_any ag gg 0 M cg F aw gw 0 M cw F _ og.toSeg sw hM).mono ?_
    rintro e w6 ⟨rfl, q6, rfl⟩
    rw [alike_refl]
    have D6 : Ext w5 (w5.drewN q6) := ext_drewD _ _
    replace HE := hide (Ext.trans HE.out D6)
    replace sw := sw.of_all D6
    replace og := og.of_all D6
    clear D6
    generalize w5.drewN q6 = w10 at *
    go_wp2_with fail
    refine (markIntS_any ag gg 0 M cg F 1 _ og hM (by omega) (by omega)).mono ?_
    rintro e w11 ⟨rfl, og2, hT11⟩
    replace HE := hide (below_touch HE.out hT11 (by omega))
    replace sw := sw.touch hT11 (fun h => by have := ltw h; omega)
    clear og hT11
    go_wp2_with fail
    refine (heldIntS_any ag gg 0 M cg 1 _ og2.toSeg hM (by omega) (by omega)).mono ?_
    rintro e w12 ⟨rfl, hw⟩
    obtain rfl := hw.symm
    have hp : ¬ (1 + (M : Int) < 0) := by omega
    go_wp2_with fail
    refine (HIm.out _ HE.out).mono ?_
    rintro e w14 ⟨ah, gh, ch, rfl, hgh, oh, hE14⟩
    replace HE := hide (Ext.trans HE.out hE14)
    replace sw := sw.of_all hE14
    replace og2 := og2.of_all hE14
    clear hE14
    go_wp2_with fail
    refine (eqIntS_any ah gh 0 M ch F aw gw 0 M cw F _ oh.toSeg sw hM).mono ?_
    rintro e w15 ⟨rfl, q15, rfl⟩
    rw [alike_refl]
    replace og2 := og2.of_all (ext_drewD w14 q15)
    replace HE := hide (Ext.trans HE.out (ext_drewD w14 q15))
    clear sw oh
    generalize w14.drewN q15 = w15 at *
    go_wp2_with fail
    refine (heldIntS_any ag gg 0 M cg 1 _ og2.toSeg hM (by omega) (by omega)).mono ?_
    rintro e w16 ⟨rfl, hw⟩
    obtain rfl := hw.symm
    go_wp2
    go_ret
    exact ⟨rfl, HE.out⟩

theorem walk (a0 : ByteArray) (w0 : a0.size ≤ maxLen) (w : World) (hT : Tabs w) :
    Calls Tryd.prog 4 #[.string a0] w fun e w' => e = .returned (.bool true) ∧ Below w.heap.size w w' := by
  by_cases h0 : a0.size ≤ 1048576
  · exact law a0 h0 w hT
  · exact big_any a0 h0 w

theorem laidL : Rows.fnExactReadAddressRow.laid = [("math/bits.deBruijn32tab", Rows.laid_math_bits_deBruijn32tab), ("math/bits.deBruijn64tab", Rows.laid_math_bits_deBruijn64tab), ("internal/strconv.uint64pow10", Rows.laid_internal_strconv_uint64pow10), ("strconv.ErrRange", Rows.laid_strconv_ErrRange), ("strconv.ErrSyntax", Rows.laid_strconv_ErrSyntax)] := rfl

theorem g_math_bits_deBruijn32tab : Tryd.prog.globalNamed "math/bits.deBruijn32tab" = some 4 := by kernel_rfl
theorem t_math_bits_deBruijn32tab : (Tryd.prog.globals[4]?).map (·.type) = some 103 := by kernel_rfl
theorem g_math_bits_deBruijn64tab : Tryd.prog.globalNamed "math/bits.deBruijn64tab" = some 5 := by kernel_rfl
theorem t_math_bits_deBruijn64tab : (Tryd.prog.globals[5]?).map (·.type) = some 104 := by kernel_rfl
theorem g_internal_strconv_uint64pow10 : Tryd.prog.globalNamed "internal/strconv.uint64pow10" = some 2 := by kernel_rfl
theorem t_internal_strconv_uint64pow10 : (Tryd.prog.globals[2]?).map (·.type) = some 93 := by kernel_rfl
theorem g_strconv_ErrRange : Tryd.prog.globalNamed "strconv.ErrRange" = some 1 := by kernel_rfl
theorem t_strconv_ErrRange : (Tryd.prog.globals[1]?).map (·.type) = some 46 := by kernel_rfl
theorem g_strconv_ErrSyntax : Tryd.prog.globalNamed "strconv.ErrSyntax" = some 0 := by kernel_rfl
theorem t_strconv_ErrSyntax : (Tryd.prog.globals[0]?).map (·.type) = some 46 := by kernel_rfl

/-- The door's own heap meets the condition. -/
theorem door_met (os : Os) (args : Array Value) : laidMetH Tryd.prog [("math/bits.deBruijn32tab", Rows.laid_math_bits_deBruijn32tab), ("math/bits.deBruijn64tab", Rows.laid_math_bits_deBruijn64tab), ("internal/strconv.uint64pow10", Rows.laid_internal_strconv_uint64pow10), ("strconv.ErrRange", Rows.laid_strconv_ErrRange), ("strconv.ErrSyntax", Rows.laid_strconv_ErrSyntax)] ((World.doorLaid Tryd.prog 400 os).forCall (fun _ _ => 0) ⟨#[], args, []⟩).memory :=
  laidMetH_of_parts3 (fuel := 8) (laidMet_of_run' 8 (by kernel_rfl) (by kernel_rfl)) (by kernel_rfl) (by kernel_rfl)

theorem star : "*" ++ "errors.errorString" = "*errors.errorString" := by decide
theorem rowE (u : TypeId) (h : Tryd.prog.typeName? 3 u = some "*errors.errorString") : u = 99 :=
  typeName_ptr_named (nm := "errors.errorString") (by rw [star]; kernel_rfl) (by kernel_rfl) (by decide) u (by rw [star]; exact h)
theorem cellsE : Tryd.prog.cellsOf 101 = 1 := by kernel_rfl
theorem cells9 : Tryd.prog.cellsOf 9 = 1 := by kernel_rfl

set_option maxRecDepth 100000 in
/-- What the condition gives the walks: the table and the sentinel. -/
theorem of_laid {W : World} (h : laidMetH Tryd.prog [("math/bits.deBruijn32tab", Rows.laid_math_bits_deBruijn32tab), ("math/bits.deBruijn64tab", Rows.laid_math_bits_deBruijn64tab), ("internal/strconv.uint64pow10", Rows.laid_internal_strconv_uint64pow10), ("strconv.ErrRange", Rows.laid_strconv_ErrRange), ("strconv.ErrSyntax", Rows.laid_strconv_ErrSyntax)] W) : Tabs W := by
  rw [MakeChecks.laidMetH_plain _ _ _ (by kernel_rfl)] at h
  have e : (Rows.laid_internal_strconv_uint64pow10 : DataW Unit) = Lib.tabData .u64 Lib.pow10Tab := by rfl
  obtain ⟨a0, s0, hv0, -, -, -⟩ := laid_sentinel (laidMet.tail (laidMet.tail (laidMet.tail (laidMet.tail h)))) g_strconv_ErrSyntax t_strconv_ErrSyntax Tryd.underlying46 rowE Tryd.underlying99 Tryd.underlying101 rfl rfl Tryd.underlying9 cellsE cells9
  rw [e] at h
  exact ⟨Lib.tabIs_of_head g_internal_strconv_uint64pow10 t_internal_strconv_uint64pow10 Tryd.underlying93 Tryd.underlying77 (by kernel_rfl) (by kernel_rfl) (laidMet.tail (laidMet.tail h)), _, _, hv0⟩

/-! ### THE ROW's STEP -/
set_option maxRecDepth 100000 in
theorem lifted (os : Os) (started : os.Started) (H : Type) (enc : TypeId × Value → H) :
    ReturnsInHanded {} Tryd.checked os 4 .any (fun w args => (Rows.fnExactReadAddressSpec.pre enc Tryd.prog Tryd.f4 [] false w args ∧ laidMetH Tryd.prog [("math/bits.deBruijn32tab", Rows.laid_math_bits_deBruijn32tab), ("math/bits.deBruijn64tab", Rows.laid_math_bits_deBruijn64tab), ("internal/strconv.uint64pow10", Rows.laid_internal_strconv_uint64pow10), ("strconv.ErrRange", Rows.laid_strconv_ErrRange), ("strconv.ErrSyntax", Rows.laid_strconv_ErrSyntax)] w) ∧ sizedMet enc Tryd.prog Tryd.f4 (OpenSpec.ofChange Rows.fnExactReadAddressSpec) false w args)
      (Rows.fnExactReadAddressSpec.post enc Tryd.prog Tryd.f4 false true false false) := by
  refine returnsInHanded_of_change_and (C := Tryd.checked) (X := fun w _ => laidMetH Tryd.prog [("math/bits.deBruijn32tab", Rows.laid_math_bits_deBruijn32tab), ("math/bits.deBruijn64tab", Rows.laid_math_bits_deBruijn64tab), ("internal/strconv.uint64pow10", Rows.laid_internal_strconv_uint64pow10), ("strconv.ErrRange", Rows.laid_strconv_ErrRange), ("strconv.ErrSyntax", Rows.laid_strconv_ErrSyntax)] w) (fun _ _ _ hh h => h.of_heap hh) own started (by kernel_rfl) Tryd.func4
    (ChangeSpec.witness_shaped (enc := enc) (C := Tryd.checked) (os := os) (X := fun w _ => laidMetH Tryd.prog [("math/bits.deBruijn32tab", Rows.laid_math_bits_deBruijn32tab), ("math/bits.deBruijn64tab", Rows.laid_math_bits_deBruijn64tab), ("internal/strconv.uint64pow10", Rows.laid_internal_strconv_uint64pow10), ("strconv.ErrRange", Rows.laid_strconv_ErrRange), ("strconv.ErrSyntax", Rows.laid_strconv_ErrSyntax)] w) false (World.doorLaid Tryd.prog 400 os) #[.string ByteArray.empty] 8 rfl (World.shaped_of_RefB (by kernel_rfl) (by kernel_rfl)) (by kernel_rfl) (by kernel_rfl) (by kernel_rfl) (door_met os _)) ?_
  intro W base args ds gs before hval0 hW _ _ hL _
  have hval : ∀ (j : Nat) t v, Tryd.f4.params[j]? = some t → args[j]? = some v → Value.okWide Tryd.prog W .any base t v := hval0
  have hW' := hW
  obtain ⟨p, q, hA0, hV, rfl, hfz, hnd⟩ := hW
  have hA : DataW.TrodAll enc Tryd.prog W 0 (fun _ => true) true Tryd.f4.params.toList args.toList ds p := hA0
  rw [Tryd.params4] at hA hval
  obtain ⟨v0, vs0, d0, ds0, p0, q0, hargs, rfl, rfl, h0, r0⟩ := trodAll_cons hA
  obtain ⟨rfl, rfl, rfl⟩ := trodAll_nil r0
  obtain rfl : args = #[v0] := by cases args; simp_all
  obtain ⟨rfl, rfl⟩ := trodVars_none hV
  obtain ⟨a0, rfl, rfl, rfl, w0⟩ := open_string Tryd.underlying9 (hval 0 9 v0 rfl rfl) h0
  clear hA0 hval0
  have hTab := of_laid hL
  refine (walk a0 w0 W hTab).mono fun e W' ⟨he, hg⟩ => ?_
  subst he
  exact ⟨_, rfl, _, _, _, [], _, [], hW', (trodAll_cons_mk (shut_bool Tryd.underlying4 _) trodAll_mk0), (trodAll_cons_mk (shut_string Tryd.underlying9 w0) trodAll_mk0), rfl, hg.frame _, fun h => by cases h⟩

theorem over : Rows.fnExactReadAddressRow.holds Tryd.pinned (OpenSpec.ofChange Rows.fnExactReadAddressSpec) :=
  OpenClaim.holds_of_wide 4 Tryd.f4 rfl rfl rfl rfl rfl rfl rfl ⟨rfl, rfl, rfl, rfl, rfl⟩ rfl rfl rfl rfl rfl (by kernel_rfl) Tryd.func4 (by kernel_rfl)
    (of_decide_eq_true (by kernel_rfl)) (by unfold Func.isWrapper; first | (rw [if_pos (by decide +kernel)]; kernel_rfl) | (rw [if_neg (by decide +kernel)]; exact ⟨rfl, rfl⟩))
    (fun os started H enc _ => lifted os started H enc)

/-- ████ THE STATEMENT ████ -/
theorem proved : Rows.FnExactReadAddressSaid :=
  over
end Go.Proofs.YtifokecmmnineabDoor.fnExactReadAddress

namespace Go.Proofs.YtifokecmmnineabDoor
/-- The given statement: the tied card. -/
theorem fnExactReadAddress_holds : Rows.FnExactReadAddressCardSaid :=
  Claim7.holds_tied_plain_at .later [] [.data, .data, .data, .sentinel, .sentinel] true (true, "cbefc2b5bcb320aa57bbc42bb81674202301b6d1e4ae865bf3a93c7632540531") true
    fnExactReadAddress.proved (fun _ h => by cases h) (by kernel_rfl) (fun _ h => by cases h) fnExactReadAddress_row_tie rfl ⟨rfl, rfl⟩ (by kernel_rfl) rfl
    (fun f fn hf hfn => by
      obtain rfl : f = 4 := Option.some.inj ((show Tryd.prog.funcNamed "loop.example/g00148/laws.FnExactReadAddress" = some 4 by kernel_rfl).symm.trans hf) |>.symm
      obtain rfl : fn = Tryd.f4 := (Option.some.inj (Tryd.func4.symm.trans hfn)).symm
      exact ⟨by kernel_rfl, fun j t ht => by
        rw [Tryd.params4] at ht
        have hm : t ∈ [9] := by have := Array.mem_of_getElem? ht; simpa using this
        have hall : ([9].all fun u => !Tryd.prog.wantsStandIn u) = true := by kernel_rfl
        exact (show Tryd.prog.wantsStandIn t = false by simpa using List.all_eq_true.1 hall t hm)⟩)
    (by kernel_rfl)
#print axioms fnExactReadAddress_holds
end Go.Proofs.YtifokecmmnineabDoor
