/- Proved: at every twisted curve the law FnExactEdOk answers true: the program's EdOk answers as the model's; a tied card: the two tables of math/bits lie as the program's text lays them. No other condition. -/
import Derived.Test.YtejlgcnhfomadabDoorRows
import Derived.WalkKit
import Derived.ProofKit
import Derived.OpenShut
import Derived.ShutString
import Derived.Test.YtejlgcnhfomadabDoorCards
import Derived.Test.YtejlgcnhfomadabDoorTie
import Derived.Test.YtejlgcnhfomadabDoorAggsE
import Derived.Test.YtejlgcnhfomadabDoorEdL
import Derived.Test.YtejlgcnhfomadabDoorEdXY
import Derived.Test.YtejlgcnhfomadabDoorFaceAll
import Derived.Test.YtejlgcnhfomadabDoorTz
import Derived.Below
import Derived.ChangeOld
import Derived.LaidMore
import Derived.Stop.Joined
import Derived.SevenTiedAt
namespace Go.Proofs.YtejlgcnhfomadabDoor.fnExactEdOk
open Go.ChangeShapes Go.WideShapes Go.ChangeAt Go.RowKit
open Go.ChangeMaps (open_string shut_string)
set_option linter.unusedVariables false

theorem own : ownKnob Tryd.prog.godebug = none := by kernel_rfl

theorem walk (a0_0 a0_1 a0_2 a0_3 a0_4 : Int) (w : World) (w0_0 : (Lit.int .i64 a0_0).wf = true) (w0_1 : (Lit.int .i64 a0_1).wf = true) (w0_2 : (Lit.int .i64 a0_2).wf = true) (w0_3 : (Lit.int .i64 a0_3).wf = true) (w0_4 : (Lit.int .i64 a0_4).wf = true) (hT : Tab w) :
    Calls Tryd.prog 7 #[.agg #[.int .i64 a0_0, .int .i64 a0_1, .int .i64 a0_2, .int .i64 a0_3, .int .i64 a0_4]] w fun e w' => e = .returned (.bool true) ∧ Below w.heap.size w w' := by
  by_cases h : EvOk a0_0 a0_1 a0_2 a0_3 a0_4
  · exact lawEdOk a0_0 a0_1 a0_2 a0_3 a0_4 true (specEdOk_at a0_0 a0_1 a0_2 a0_3 a0_4 (by have := bounds_i64 w0_0; omega) (by have := bounds_i64 w0_2; omega) true ⟨fun _ => h, fun _ => rfl⟩) (implEdOk_at a0_0 a0_1 a0_2 a0_3 a0_4 (by have := bounds_i64 w0_0; omega) (by have := bounds_i64 w0_2; omega) true ⟨fun _ => h, fun _ => rfl⟩) w
  · exact lawEdOk a0_0 a0_1 a0_2 a0_3 a0_4 false (specEdOk_at a0_0 a0_1 a0_2 a0_3 a0_4 (by have := bounds_i64 w0_0; omega) (by have := bounds_i64 w0_2; omega) false ⟨fun k => by simp at k, fun k => absurd k h⟩) (implEdOk_at a0_0 a0_1 a0_2 a0_3 a0_4 (by have := bounds_i64 w0_0; omega) (by have := bounds_i64 w0_2; omega) false ⟨fun k => by simp at k, fun k => absurd k h⟩) w

theorem laidL : Rows.fnExactEdOkRow.laid = [("math/bits.deBruijn32tab", Rows.laid_math_bits_deBruijn32tab), ("math/bits.deBruijn64tab", Rows.laid_math_bits_deBruijn64tab)] := rfl

theorem g_math_bits_deBruijn32tab : Tryd.prog.globalNamed "math/bits.deBruijn32tab" = some 0 := by kernel_rfl
theorem t_math_bits_deBruijn32tab : (Tryd.prog.globals[0]?).map (·.type) = some 119 := by kernel_rfl
theorem g_math_bits_deBruijn64tab : Tryd.prog.globalNamed "math/bits.deBruijn64tab" = some 1 := by kernel_rfl
theorem t_math_bits_deBruijn64tab : (Tryd.prog.globals[1]?).map (·.type) = some 120 := by kernel_rfl

/-- The door's own heap meets the condition. -/
theorem door_met (os : Os) (args : Array Value) : laidMetH Tryd.prog [("math/bits.deBruijn32tab", Rows.laid_math_bits_deBruijn32tab), ("math/bits.deBruijn64tab", Rows.laid_math_bits_deBruijn64tab)] ((World.doorLaid Tryd.prog 400 os).forCall (fun _ _ => 0) ⟨#[], args, []⟩).memory :=
  laidMetH_of_parts3 (fuel := 8) (laidMet_of_run' 8 (by kernel_rfl) (by kernel_rfl)) (by kernel_rfl) (by kernel_rfl)

set_option maxRecDepth 100000 in
/-- What the condition gives the walks: the table's cells. -/
theorem of_laid {W : World} (h : laidMetH Tryd.prog [("math/bits.deBruijn32tab", Rows.laid_math_bits_deBruijn32tab), ("math/bits.deBruijn64tab", Rows.laid_math_bits_deBruijn64tab)] W) : Tab W := by
  rw [MakeChecks.laidMetH_plain _ _ _ (by kernel_rfl)] at h
  obtain ⟨ps, ⟨g0, t0, cs0, f0, p0, q0, hg0, ht0, hv0, hd0, ⟨g1, t1, cs1, f1, p1, q1, hg1, ht1, hv1, hd1, _, _⟩, _⟩, _, _⟩ := h
  obtain rfl := Option.some.inj (g_math_bits_deBruijn64tab.symm.trans hg1)
  obtain rfl := Option.some.inj (t_math_bits_deBruijn64tab.symm.trans ht1)
  obtain ⟨xs, m1, rfl, hx1, hlen, hn3, hel⟩ := DataW.trod_array Tryd.underlying120 hd1
  have c5 : Tryd.prog.cellsOf 5 = 1 := by kernel_rfl
  simp only [Prod.mk.injEq] at hx1
  have hxs : xs.map (·.1) = (Lib.deBruijn64tab.map fun (z : Nat) => (.lit (.int .u8 (z : Int)) : DataW Unit)) := by
    have e : (Rows.laid_math_bits_deBruijn64tab : DataW Unit) = .agg (Lib.deBruijn64tab.map fun (z : Nat) => (.lit (.int .u8 (z : Int)) : DataW Unit)) := rfl
    have h2 := hx1.1
    rw [e] at h2
    injection h2 with h3
    exact h3.symm
  intro j hj
  have h0 := hel j hj
  obtain ⟨y, hy⟩ : ∃ y, xs[j]? = some y := ⟨xs[j]'(by omega), List.getElem?_eq_getElem _⟩
  rw [hy] at h0
  obtain ⟨k, e1, e2, _⟩ := DataW.trod_int Tryd.underlying5 h0
  rw [c5, Nat.mul_one] at e1
  have hcell := World.var?_cell hg1 hv1 j
  have e3 : cs1[j]? = some (.int .u8 k) := by
    have : (cs1.toList.drop j)[0]? = some (.int .u8 k) := by
      have h4 := congrArg (fun l => l[0]?) e1
      simpa [List.getElem?_take] using h4
    simpa using this
  rw [hcell, e3]
  have e4 : (xs.map (·.1))[j]? = some y.1 := by simp [hy]
  rw [hxs, e2] at e4
  have hl : Lib.deBruijn64tab.length = 64 := by decide
  simp only [List.getElem?_map] at e4
  cases h6 : Lib.deBruijn64tab[j]? with
  | none => rw [h6] at e4; simp at e4
  | some z =>
    rw [h6] at e4
    simp only [Option.map_some, Option.some.injEq, DataW.lit.injEq, Lit.int.injEq, true_and] at e4
    rw [← e4, List.getD_eq_getElem?_getD, h6]
    rfl

/-! ### THE ROW's STEP -/
set_option maxRecDepth 100000 in
theorem lifted (os : Os) (started : os.Started) (H : Type) (enc : TypeId × Value → H) :
    ReturnsInHanded {} Tryd.checked os 7 .any (fun w args => (Rows.fnExactEdOkSpec.pre enc Tryd.prog Tryd.f7 [] false w args ∧ laidMetH Tryd.prog [("math/bits.deBruijn32tab", Rows.laid_math_bits_deBruijn32tab), ("math/bits.deBruijn64tab", Rows.laid_math_bits_deBruijn64tab)] w) ∧ sizedMet enc Tryd.prog Tryd.f7 (OpenSpec.ofChange Rows.fnExactEdOkSpec) false w args)
      (Rows.fnExactEdOkSpec.post enc Tryd.prog Tryd.f7 false true false false) := by
  refine returnsInHanded_of_change_and (C := Tryd.checked) (X := fun w _ => laidMetH Tryd.prog [("math/bits.deBruijn32tab", Rows.laid_math_bits_deBruijn32tab), ("math/bits.deBruijn64tab", Rows.laid_math_bits_deBruijn64tab)] w) (fun _ _ _ hh h => h.of_heap hh) own started (by kernel_rfl) Tryd.func7
    (ChangeSpec.witness_shaped (enc := enc) (C := Tryd.checked) (os := os) (X := fun w _ => laidMetH Tryd.prog [("math/bits.deBruijn32tab", Rows.laid_math_bits_deBruijn32tab), ("math/bits.deBruijn64tab", Rows.laid_math_bits_deBruijn64tab)] w) false (World.doorLaid Tryd.prog 400 os) #[.agg #[.int .i64 0, .int .i64 0, .int .i64 0, .int .i64 0, .int .i64 0]] 8 rfl (World.shaped_of_RefB (by kernel_rfl) (by kernel_rfl)) (by kernel_rfl) (by kernel_rfl) (by kernel_rfl) (door_met os _)) ?_
  intro W base args ds gs before hval0 hW _ _ hL _
  have hval : ∀ (j : Nat) t v, Tryd.f7.params[j]? = some t → args[j]? = some v → Value.okWide Tryd.prog W .any base t v := hval0
  have hW' := hW
  obtain ⟨p, q, hA0, hV, rfl, hfz, hnd⟩ := hW
  have hA : DataW.TrodAll enc Tryd.prog W 0 (fun _ => true) true Tryd.f7.params.toList args.toList ds p := hA0
  rw [Tryd.params7] at hA hval
  obtain ⟨v0, vs0, d0, ds0, p0, q0, hargs, rfl, rfl, h0, r0⟩ := trodAll_cons hA
  obtain ⟨rfl, rfl, rfl⟩ := trodAll_nil r0
  obtain rfl : args = #[v0] := by cases args; simp_all
  obtain ⟨rfl, rfl⟩ := trodVars_none hV
  obtain ⟨a0_0, a0_1, a0_2, a0_3, a0_4, rfl, rfl, rfl, w0_0, w0_1, w0_2, w0_3, w0_4⟩ := open_ed (hval 0 46 v0 rfl rfl) h0
  clear hA0 hval0
  have hTab := of_laid hL
  refine (walk a0_0 a0_1 a0_2 a0_3 a0_4 W w0_0 w0_1 w0_2 w0_3 w0_4 hTab).mono fun e W' ⟨he, hg⟩ => ?_
  subst he
  exact ⟨_, rfl, _, _, _, [], _, [], hW', (trodAll_cons_mk (shut_bool Tryd.underlying4 _) trodAll_mk0), (trodAll_cons_mk (shut_ed w0_0 w0_1 w0_2 w0_3 w0_4) trodAll_mk0), rfl, hg.frame _, fun h => by cases h⟩

theorem over : Rows.fnExactEdOkRow.holds Tryd.pinned (OpenSpec.ofChange Rows.fnExactEdOkSpec) :=
  OpenClaim.holds_of_wide 7 Tryd.f7 rfl rfl rfl rfl rfl rfl rfl ⟨rfl, rfl, rfl, rfl, rfl⟩ rfl rfl rfl rfl rfl (by kernel_rfl) Tryd.func7 (by kernel_rfl)
    (of_decide_eq_true (by kernel_rfl)) (by unfold Func.isWrapper; first | (rw [if_pos (by decide +kernel)]; kernel_rfl) | (rw [if_neg (by decide +kernel)]; exact ⟨rfl, rfl⟩))
    (fun os started H enc _ => lifted os started H enc)

theorem proved : Rows.FnExactEdOkSaid :=
  over
end Go.Proofs.YtejlgcnhfomadabDoor.fnExactEdOk

namespace Go.Proofs.YtejlgcnhfomadabDoor
/-- The given statement: the tied card. -/
theorem fnExactEdOk_holds : Rows.FnExactEdOkCardSaid :=
  Claim7.holds_tied_plain_at .later [] [.data, .data] true (true, "82e5eff8e65fa414120d5e59de5f0e1be5504084ac4e830b810d342b49eda6b5") true
    fnExactEdOk.proved (fun _ h => by cases h) (by kernel_rfl) (fun _ h => by cases h) fnExactEdOk_row_tie rfl ⟨rfl, rfl⟩ (by kernel_rfl) rfl
    (fun f fn hf hfn => by
      obtain rfl : f = 7 := Option.some.inj ((show Tryd.prog.funcNamed "loop.example/g00148/laws.FnExactEdOk" = some 7 by kernel_rfl).symm.trans hf) |>.symm
      obtain rfl : fn = Tryd.f7 := (Option.some.inj (Tryd.func7.symm.trans hfn)).symm
      exact ⟨by kernel_rfl, fun j t ht => by
        rw [Tryd.params7] at ht
        have hm : t ∈ [46] := by have := Array.mem_of_getElem? ht; simpa using this
        have hall : ([46].all fun u => !Tryd.prog.wantsStandIn u) = true := by kernel_rfl
        exact (show Tryd.prog.wantsStandIn t = false by simpa using List.all_eq_true.1 hall t hm)⟩)
    (by kernel_rfl)
#print axioms fnExactEdOk_holds
end Go.Proofs.YtejlgcnhfomadabDoor
