/- Proved: at every argument the law FnExactIntBytes answers true: the program's IntBytes answers as the model's at every number, and its answer owns its memory, behind another call too. No condition. -/
import Derived.Test.YtjkojofpkeglpaaRows
import Derived.WalkKit
import Derived.ProofKit
import Derived.OpenShut
import Derived.ShutString
import Derived.Test.YtjkojofpkeglpaaIntB
import Derived.Test.YtjkojofpkeglpaaBMarks
import Derived.Below
import Derived.ChangeOld
namespace Go.Proofs.Ytjkojofpkeglpaa.fnExactIntBytes
open Go.ChangeShapes Go.WideShapes Go.ChangeAt Go.RowKit
open Go.ChangeMaps (open_string shut_string)
set_option linter.unusedVariables false      -- a walk need not use every 'w<i>' (that an integer argument fits its kind)

theorem own : ownKnob Try.prog.godebug = none := by kernel_rfl

set_option maxHeartbeats 1600000 in
set_option maxRecDepth 100000 in
theorem law (x : Int) (M : Nat) (F : Nat → Int) (hM : M ≤ 1048576) (w : World)
    (Hsp : Hid (∀ (w : World), Calls Try.prog 9 #[.int .i64 x] w fun e w' => GivesBs w M F e w'))
    (Him : Hid (∀ (w : World), Calls Try.prog 10 #[.int .i64 x] w fun e w' => GivesBs w M F e w')) :
    Calls Try.prog 3 #[.int .i64 x] w fun e w' => e = .returned (.bool true) ∧ Below w.heap.size w w' := by
  go_enter Try.func3, Try.ntmps3
  go_wp2_with fail
  refine (Hsp.out _).mono ?_
  rintro e w1 ⟨a, g, cap, rfl, hg, hO, hb⟩
  go_wp2_with fail
  refine (Him.out _).mono ?_
  rintro e w2 ⟨a2, g2, cap2, rfl, hg2, hO2, hb2⟩
  have hS : BSeg w2 a g 0 M F := hO.toBSeg.of_all hb2
  have hgg : 0 < M → g ≠ g2 := fun h => by have := hO.lt h; omega
  have B2 : Below w.heap.size w w2 := hb.trans (hb2.mono hb.size)
  have hge : w.heap.size ≤ g2 := by have := hb.size; omega
  clear hO hb hb2 hg hg2
  go_wp2_with fail
  refine (eqByteS_any a2 g2 0 M cap2 F a g 0 M cap F _ hO2.toBSeg hS hM).mono ?_
  rintro e w3 ⟨rfl, q, rfl⟩
  rw [alike_refl]
  have hO3 : BOwn (w2.drewN q) a2 g2 0 M F := hO2.of_all (below_drewN (Below.refl _ _) q)
  have hS3 : BSeg (w2.drewN q) a g 0 M F := hS.of_all (below_drewN (Below.refl _ _) q)
  have B3 : Below w.heap.size w (w2.drewN q) := below_drewN B2 q
  clear hO2 hS B2
  generalize w2.drewN q = w3 at *
  go_wp2_with fail
  refine (markByteS_any a2 g2 0 M cap2 F 1 _ hO3 hM (by omega) (by omega)).mono ?_
  rintro e w4 ⟨rfl, hO4, hT⟩
  have hS4 := hS3.touch hT hgg
  have B4 := below_touch B3 hT hge
  clear hO3 hS3 B3 hT
  go_wp2_with fail
  refine (heldByteS_any a2 g2 0 M cap2 1 _ hO4.toBSeg hM (by omega) (by omega)).mono ?_
  rintro e w5 ⟨rfl, hw⟩
  subst hw
  have hp : ¬ (1 + (M : Int) < 0) := by omega
  go_wp2_with fail
  refine (Him.out _).mono ?_
  rintro e w6 ⟨a6, g6, cap6, rfl, hg6, hO6, hb6⟩
  have hS6 := hS4.of_all hb6
  have hO7 := hO4.of_all hb6
  have B6 := B4.trans (hb6.mono B4.size)
  clear hO4 hS4 B4 hb6
  go_wp2_with fail
  refine (eqByteS_any a6 g6 0 M cap6 F a g 0 M cap F _ hO6.toBSeg hS6 hM).mono ?_
  rintro e w7 ⟨rfl, q2, rfl⟩
  rw [alike_refl]
  go_wp2_with fail
  refine (heldByteS_any a2 g2 0 M cap2 1 _ (hO7.toBSeg.of_all (below_drewN (Below.refl _ _) q2)) hM (by omega) (by omega)).mono ?_
  rintro e w8 ⟨rfl, hw⟩
  subst hw
  go_wp2
  go_ret
  exact ⟨rfl, below_drewN B6 q2⟩

theorem walk (a0 : Int) (w0 : (Lit.int .i64 a0).wf = true) (w : World) :
    Calls Try.prog 3 #[.int .i64 a0] w fun e w' => e = .returned (.bool true) ∧ Below w.heap.size w w' := by
  have hb := bounds_i64 w0
  have hL := ilen_is a0 (by omega) (by omega)
  exact law a0 (ilen a0 + 1) (fun i => ib a0 (ilen a0 - i)) (by have := hL.le; omega) w (hide (fun w => specIntBytes_any a0 _ hL w (by omega) (by omega))) (hide (fun w => implIntBytes_any a0 _ hL w (by omega) (by omega)))

/-! ### THE ROW's STEP: WRITTEN OUT: LEAVE IT -/
set_option maxRecDepth 100000 in
theorem lifted (os : Os) (started : os.Started) (H : Type) (enc : TypeId × Value → H) :
    ReturnsInHanded {} Try.checked os 3 .any (Rows.fnExactIntBytesSpec.pre6 enc Try.prog Try.f3 Rows.fnExactIntBytesRow.domain false) (Rows.fnExactIntBytesSpec.post enc Try.prog Try.f3 false true false false) := by
  refine returnsInHanded_of_change (C := Try.checked) own started (by kernel_rfl) Try.func3
    (ChangeSpec.witness6 (enc := enc) (C := Try.checked) false ⟨#[], #[.int .i64 0], []⟩ 8 (by kernel_rfl) (by kernel_rfl) (by kernel_rfl) (by kernel_rfl)) ?_
  intro W base args ds gs before hval0 hW hcnd _
  have hval : ∀ (j : Nat) t v, Try.f3.params[j]? = some t → args[j]? = some v → Value.okWide Try.prog W .any base t v := hval0
  have hW' := hW
  obtain ⟨p, q, hA0, hV, rfl, hfz, hnd⟩ := hW
  have hA : DataW.TrodAll enc Try.prog W 0 (fun _ => true) true Try.f3.params.toList args.toList ds p := hA0
  rw [Try.params3] at hA hval
  obtain ⟨v0, vs0, d0, ds0, p0, q0, hargs, rfl, rfl, h0, r0⟩ := trodAll_cons hA
  obtain ⟨rfl, rfl, rfl⟩ := trodAll_nil r0
  obtain rfl : args = #[v0] := by cases args; simp_all
  obtain ⟨rfl, rfl⟩ := trodVars_none hV
  obtain ⟨a0, rfl, rfl, rfl, w0⟩ := open_int Try.underlying3 (hval 0 3 v0 rfl rfl) h0
  clear hA0 hval0
  refine (walk a0 w0 W).mono fun e W' ⟨he, hg⟩ => ?_
  subst he
  exact ⟨_, rfl, _, _, _, [], _, [], hW', (trodAll_cons_mk (shut_bool Try.underlying4 _) trodAll_mk0), (trodAll_cons_mk (shut_int Try.underlying3 w0) trodAll_mk0), rfl, hg.frame _, fun h => by cases h⟩

theorem over : Rows.fnExactIntBytesRow.holds Try.pinned (OpenSpec.ofChange Rows.fnExactIntBytesSpec) :=
  OpenClaim.holds_of_wide 3 Try.f3 rfl rfl rfl rfl rfl rfl rfl ⟨rfl, rfl, rfl, rfl, rfl⟩ rfl rfl rfl rfl rfl (by kernel_rfl) Try.func3 (by kernel_rfl)
    (of_decide_eq_true (by kernel_rfl)) (by unfold Func.isWrapper; first | (rw [if_pos (by decide +kernel)]; kernel_rfl) | (rw [if_neg (by decide +kernel)]; exact ⟨rfl, rfl⟩))
    (fun os started H enc _ => lifted os started H enc)

/-- ████ THE STATEMENT ████ -/
theorem proved : Rows.FnExactIntBytesSaid :=
  over
end Go.Proofs.Ytjkojofpkeglpaa.fnExactIntBytes

namespace Go.Proofs.Ytjkojofpkeglpaa
/-- The given statement. -/
theorem fnExactIntBytes_holds : Rows.FnExactIntBytesSaid := fnExactIntBytes.proved
#print axioms fnExactIntBytes_holds
end Go.Proofs.Ytjkojofpkeglpaa
