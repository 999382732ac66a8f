/- Proved: at every int the law FnExactNatOf answers true: the program's NatOf answers as the model's, its answer owns its memory, behind another call too. No condition. -/
import Derived.Test.YtojgnbckikpgmafRows
import Derived.WalkKit
import Derived.ProofKit
import Derived.OpenShut
import Derived.ShutString
import Derived.Test.YtojgnbckikpgmafNatOf2
import Derived.Test.YtojgnbckikpgmafLists
import Derived.Test.YtojgnbckikpgmafMarks
import Derived.Below
import Derived.ChangeOld
namespace Go.Proofs.Ytojgnbckikpgmaf.fnExactNatOf
open Go.ChangeShapes Go.WideShapes Go.ChangeAt Go.RowKit
open Go.ChangeMaps (open_string shut_string)
set_option linter.unusedVariables false      -- a walk need not use every 'w<i>' (that an integer argument fits its kind)

theorem own : ownKnob Try.prog.godebug = none := by kernel_rfl

/-- Two lists alike, told the other way about. -/
theorem alike_of {n : Nat} {f g : Nat → Int} (h : ∀ i, i < n → f i = g i) : (n == n && alike g f n) = true := by simp [(alike_iff g f n).2 (fun i hi => (h i hi).symm)]

set_option maxHeartbeats 800000 in
theorem law (x : Int) (h1 : x ≤ 9223372036854775807) (w : World) :
    Calls Try.prog 4 #[.int .i64 x] w fun e w' => e = .returned (.bool true) ∧ Below w.heap.size w w' := by
  go_enter Try.func4, Try.ntmps4
  go_wp2_with fail
  refine (specNatOf_any x _ h1).mono ?_
  rintro e w1 ⟨a, g, cap, n, f, ok, rfl, hn, hN, hg, hO, hb⟩
  go_wp2_with fail
  refine (implNatOf_any x _ h1).mono ?_
  rintro e w2 ⟨a2, g2, cap2, n2, f2, ok2, rfl, hn2, hN2, hg2, hO2, hb2⟩
  obtain ⟨hnn, hok, hff⟩ := isNat_unique hN hN2
  subst hnn
  subst hok
  have hS : Seg w2 a g 0 n f := hO.toSeg.of_all hb2
  have hgg : 0 < n → g ≠ g2 := fun h => by have := hO.lt h; omega
  have B2 : Below w.heap.size w w2 := hb.trans (hb2.mono hb.size)
  have hge : w.heap.size ≤ g2 := by have := hb.size; omega
  clear hO hb hb2 hg hg2 hn2
  go_wp2_with fail
  refine (eqIntS_any a2 g2 0 n cap2 f2 a g 0 n cap f _ hO2.toSeg hS hn).mono ?_
  rintro e w3 ⟨rfl, q, rfl⟩
  rw [alike_of hff]
  have hO3 : Own (w2.drewN q) a2 g2 0 n f2 := hO2.of_all (below_drewN (Below.refl _ _) q)
  have hS3 : Seg (w2.drewN q) a g 0 n f := hS.of_all (below_drewN (Below.refl _ _) q)
  have B3 : Below w.heap.size w (w2.drewN q) := below_drewN B2 q
  clear hO2 hS B2
  generalize w2.drewN q = w3 at *
  have hok : (ok != ok) = false := by simp
  go_wp2_with fail
  refine (markIntS_any a2 g2 0 n cap2 f2 1 _ hO3 hn (by omega) (by omega)).mono ?_
  rintro e w4 ⟨rfl, hO4, hT⟩
  have hS4 := hS3.touch hT hgg
  have B4 := below_touch B3 hT hge
  clear hO3 hS3 B3 hT
  go_wp2_with fail
  refine (heldIntS_any a2 g2 0 n cap2 1 _ hO4.toSeg hn (by omega) (by omega)).mono ?_
  rintro e w5 ⟨rfl, hw⟩
  subst hw
  have hp : ¬ (1 + (n : Int) < 0) := by omega
  go_wp2_with fail
  refine (implNatOf_any x _ h1).mono ?_
  rintro e w6 ⟨a6, g6, cap6, n6, f6, ok6, rfl, hn6, hN6, hg6, hO6, hb6⟩
  obtain ⟨hnn, hok6, hff6⟩ := isNat_unique hN hN6
  subst hnn
  subst hok6
  have hS6 := hS4.of_all hb6
  have hO7 := hO4.of_all hb6
  have B6 := B4.trans (hb6.mono B4.size)
  clear hO4 hS4 B4 hb6
  go_wp2_with fail
  refine (eqIntS_any a6 g6 0 n cap6 f6 a g 0 n cap f _ hO6.toSeg hS6 hn).mono ?_
  rintro e w7 ⟨rfl, q2, rfl⟩
  rw [alike_of hff6]
  go_wp2_with fail
  refine (heldIntS_any a2 g2 0 n cap2 1 _ (hO7.toSeg.of_all (below_drewN (Below.refl _ _) q2)) hn (by omega) (by omega)).mono ?_
  rintro e w8 ⟨rfl, hw⟩
  subst hw
  go_wp2
  go_ret
  exact ⟨rfl, below_drewN B6 q2⟩

theorem walk (a0 : Int) (w0 : (Lit.int .i64 a0).wf = true) (w : World) :
    Calls Try.prog 4 #[.int .i64 a0] w fun e w' => e = .returned (.bool true) ∧ Below w.heap.size w w' := by
  exact law a0 (by have := bounds_i64 w0; omega) w

/-! ### THE ROW's STEP: WRITTEN OUT: LEAVE IT -/
set_option maxRecDepth 100000 in
theorem lifted (os : Os) (started : os.Started) (H : Type) (enc : TypeId × Value → H) :
    ReturnsInHanded {} Try.checked os 4 .any (Rows.fnExactNatOfSpec.pre6 enc Try.prog Try.f4 Rows.fnExactNatOfRow.domain false) (Rows.fnExactNatOfSpec.post enc Try.prog Try.f4 false true false false) := by
  refine returnsInHanded_of_change (C := Try.checked) own started (by kernel_rfl) Try.func4
    (ChangeSpec.witness6 (enc := enc) (C := Try.checked) false ⟨#[], #[.int .i64 0], []⟩ 8 (by kernel_rfl) (by kernel_rfl) (by kernel_rfl) (by kernel_rfl)) ?_
  intro W base args ds gs before hval0 hW hcnd _
  have hval : ∀ (j : Nat) t v, Try.f4.params[j]? = some t → args[j]? = some v → Value.okWide Try.prog W .any base t v := hval0
  have hW' := hW
  obtain ⟨p, q, hA0, hV, rfl, hfz, hnd⟩ := hW
  have hA : DataW.TrodAll enc Try.prog W 0 (fun _ => true) true Try.f4.params.toList args.toList ds p := hA0
  rw [Try.params4] at hA hval
  obtain ⟨v0, vs0, d0, ds0, p0, q0, hargs, rfl, rfl, h0, r0⟩ := trodAll_cons hA
  obtain ⟨rfl, rfl, rfl⟩ := trodAll_nil r0
  obtain rfl : args = #[v0] := by cases args; simp_all
  obtain ⟨rfl, rfl⟩ := trodVars_none hV
  obtain ⟨a0, rfl, rfl, rfl, w0⟩ := open_int Try.underlying3 (hval 0 3 v0 rfl rfl) h0
  clear hA0 hval0
  refine (walk a0 w0 W).mono fun e W' ⟨he, hg⟩ => ?_
  subst he
  exact ⟨_, rfl, _, _, _, [], _, [], hW', (trodAll_cons_mk (shut_bool Try.underlying4 _) trodAll_mk0), (trodAll_cons_mk (shut_int Try.underlying3 w0) trodAll_mk0), rfl, hg.frame _, fun h => by cases h⟩

theorem over : Rows.fnExactNatOfRow.holds Try.pinned (OpenSpec.ofChange Rows.fnExactNatOfSpec) :=
  OpenClaim.holds_of_wide 4 Try.f4 rfl rfl rfl rfl rfl rfl rfl ⟨rfl, rfl, rfl, rfl, rfl⟩ rfl rfl rfl rfl rfl (by kernel_rfl) Try.func4 (by kernel_rfl)
    (of_decide_eq_true (by kernel_rfl)) (by unfold Func.isWrapper; first | (rw [if_pos (by decide +kernel)]; kernel_rfl) | (rw [if_neg (by decide +kernel)]; exact ⟨rfl, rfl⟩))
    (fun os started H enc _ => lifted os started H enc)

/-- ████ THE STATEMENT ████ -/
theorem proved : Rows.FnExactNatOfSaid :=
  over
end Go.Proofs.Ytojgnbckikpgmaf.fnExactNatOf

namespace Go.Proofs.Ytojgnbckikpgmaf
/-- The given statement. -/
theorem fnExactNatOf_holds : Rows.FnExactNatOfSaid := fnExactNatOf.proved
#print axioms fnExactNatOf_holds
end Go.Proofs.Ytojgnbckikpgmaf
