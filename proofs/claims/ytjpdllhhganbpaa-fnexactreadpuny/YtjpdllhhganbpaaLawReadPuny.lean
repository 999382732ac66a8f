/- Proved: at every text the law FnExactReadPuny answers true: the program's ReadPuny answers as the model's at every text of at most 1048576 bytes, and its answer owns its memory, behind another call too (beyond 1048576 bytes the law itself answers true at once). No condition. -/
import Derived.Test.YtjpdllhhganbpaaRows
import Derived.WalkKit
import Derived.ProofKit
import Derived.OpenShut
import Derived.ShutString
import Derived.Test.YtjpdllhhganbpaaRps
import Derived.Test.YtjpdllhhganbpaaLists
import Derived.Test.YtjpdllhhganbpaaMarks
import Derived.Below
import Derived.ChangeOld
namespace Go.Proofs.Ytjpdllhhganbpaa.fnExactReadPuny
open Go.ChangeShapes Go.WideShapes Go.ChangeAt Go.RowKit
open Go.ChangeMaps (open_string shut_string)
set_option linter.unusedVariables false      -- a walk need not use every 'w<i>' (that an integer argument fits its kind)

theorem own : ownKnob Try.prog.godebug = none := by kernel_rfl

theorem ext_drewD (w : World) (q : Nat) : Ext w (w.drewN q) := ⟨rfl, rfl, rfl, Nat.le_refl _, fun _ _ => rfl⟩
def GivesRq (w : World) (M : Nat) (F : Nat → Int) (ok : Bool) (e : Ending) (w' : World) : Prop := ∃ a g cap, e = .returned (.tuple #[.slice a M cap, .bool ok]) ∧ w.heap.size ≤ g ∧ Own w' a g 0 M F ∧ Ext w w'
theorem _root_.Go.Proofs.Ytjpdllhhganbpaa.GivesRp.r {w w' : World} {R : Option (List Int)} {e : Ending} (h : GivesRp w R e w') : GivesRq w (R.getD []).length (fun i => (R.getD []).getD i 0) R.isSome e w' := by
  obtain ⟨v, rfl, ho, hE⟩ := h
  obtain ⟨a, g, cap, rfl, h1, -, -, h4⟩ := own_of_wl ho
  exact ⟨a, g, cap, rfl, h1, h4, hE⟩
theorem finO_len (s : ByteArray) (o : Option (List Int)) : ((finO s o).getD []).length ≤ 20 := by
  cases o with
  | none => exact Nat.zero_le _
  | some L =>
    rw [finO_some]
    split
    · rename_i h
      rw [Bool.and_eq_true] at h
      exact (word_is h.1).2.1
    · exact Nat.zero_le _
theorem rpR_len (s : ByteArray) : ((rpR s).getD []).length ≤ 20 := by
  unfold rpR
  split
  · exact finO_len _ _
  · exact Nat.zero_le _

theorem big_any (s : ByteArray) (h : ¬ s.size ≤ 1048576) (w : World) :
    Calls Try.prog 3 #[.string s] w fun e w' => e = .returned (.bool true) ∧ Below w.heap.size w w' := by
  have g0 : (1048576 : Int) < (s.size : Int) := by omega
  go_enter Try.func3, Try.ntmps3
  go_wp2
  go_ret
  exact ⟨rfl, Below.refl _ _⟩

set_option maxHeartbeats 3200000 in
set_option maxRecDepth 100000 in
theorem law (s : ByteArray) (hs : s.size ≤ 1048576) (w : World) :
    Calls Try.prog 3 #[.string s] w fun e w' => e = .returned (.bool true) ∧ Below w.heap.size w w' := by
  have g0 : ¬ (1048576 : Int) < (s.size : Int) := by omega
  have HSp : Hid (∀ W, Calls Try.prog 6 #[.string s] W fun e w' => GivesRq W ((rpR s).getD []).length (fun i => ((rpR s).getD []).getD i 0) (rpR s).isSome e w') := fun W => (specReadPuny_any s hs W).mono (fun _ _ k => k.r)
  have HIm : Hid (∀ W, Calls Try.prog 7 #[.string s] W fun e w' => GivesRq W ((rpR s).getD []).length (fun i => ((rpR s).getD []).getD i 0) (rpR s).isSome e w') := fun W => (implReadPuny_any s hs W).mono (fun _ _ k => k.r)
  have hM : ((rpR s).getD []).length ≤ 1048576 := Nat.le_trans (rpR_len s) (by decide)
  generalize (fun i => ((rpR s).getD []).getD i 0) = F at *
  generalize ((rpR s).getD []).length = M at *
  generalize (rpR s).isSome = ok at *
  cases ok
  all_goals
    go_enter Try.func3, Try.ntmps3
    go_wp2_with fail
    refine (HSp.out _).mono ?_
    rintro e w1 ⟨aw, gw, cw, rfl, hgw, ow, hE1⟩
    have HE := hide hE1
    have sw := ow.toSeg
    have ltw : 0 < M → gw < w1.heap.size := fun h => ow.lt h
    have hS1 : w.heap.size ≤ w1.heap.size := Below.size hE1
    clear hE1 ow hgw
    go_wp2_with fail
    refine (HIm.out _).mono ?_
    rintro e w5 ⟨ag, gg, cg, rfl, hgg, og, hE5⟩
    replace HE := hide (Ext.trans HE.out hE5)
    replace sw := sw.of_all hE5
    clear hE5
    go_wp2_with fail
    refine (eqIntS_any ag gg 0 M cg F aw gw 0 M cw F _ og.toSeg sw hM).mono ?_
    rintro e w6 ⟨rfl, q6, rfl⟩
    rw [alike_refl]
    have D6 : Ext w5 (w5.drewN q6) := ext_drewD _ _
    replace HE := hide (Ext.trans HE.out D6)
    replace sw := sw.of_all D6
    replace og := og.of_all D6
    clear D6
    generalize w5.drewN q6 = w10 at *
    go_wp2_with fail
    refine (markIntS_any ag gg 0 M cg F 1 _ og hM (by omega) (by omega)).mono ?_
    rintro e w11 ⟨rfl, og2, hT11⟩
    replace HE := hide (below_touch HE.out hT11 (by omega))
    replace sw := sw.touch hT11 (fun h => by have := ltw h; omega)
    clear og hT11
    go_wp2_with fail
    refine (heldIntS_any ag gg 0 M cg 1 _ og2.toSeg hM (by omega) (by omega)).mono ?_
    rintro e w12 ⟨rfl, hw⟩
    obtain rfl := hw.symm
    have hp : ¬ (1 + (M : Int) < 0) := by omega
    go_wp2_with fail
    refine (HIm.out _).mono ?_
    rintro e w14 ⟨ah, gh, ch, rfl, hgh, oh, hE14⟩
    replace HE := hide (Ext.trans HE.out hE14)
    replace sw := sw.of_all hE14
    replace og2 := og2.of_all hE14
    clear hE14
    go_wp2_with fail
    refine (eqIntS_any ah gh 0 M ch F aw gw 0 M cw F _ oh.toSeg sw hM).mono ?_
    rintro e w15 ⟨rfl, q15, rfl⟩
    rw [alike_refl]
    replace og2 := og2.of_all (ext_drewD w14 q15)
    replace HE := hide (Ext.trans HE.out (ext_drewD w14 q15))
    clear sw oh
    generalize w14.drewN q15 = w15 at *
    go_wp2_with fail
    refine (heldIntS_any ag gg 0 M cg 1 _ og2.toSeg hM (by omega) (by omega)).mono ?_
    rintro e w16 ⟨rfl, hw⟩
    obtain rfl := hw.symm
    go_wp2
    go_ret
    exact ⟨rfl, HE.out⟩

theorem walk (a0 : ByteArray) (w0 : a0.size ≤ maxLen) (w : World) :
    Calls Try.prog 3 #[.string a0] w fun e w' => e = .returned (.bool true) ∧ Below w.heap.size w w' := by
  by_cases h0 : a0.size ≤ 1048576
  · exact law a0 h0 w
  · exact big_any a0 h0 w

/-! ### THE ROW's STEP: WRITTEN OUT: LEAVE IT -/
set_option maxRecDepth 100000 in
theorem lifted (os : Os) (started : os.Started) (H : Type) (enc : TypeId × Value → H) :
    ReturnsInHanded {} Try.checked os 3 .any (Rows.fnExactReadPunySpec.pre6 enc Try.prog Try.f3 Rows.fnExactReadPunyRow.domain false) (Rows.fnExactReadPunySpec.post enc Try.prog Try.f3 false true false false) := by
  refine returnsInHanded_of_change (C := Try.checked) own started (by kernel_rfl) Try.func3
    (ChangeSpec.witness6 (enc := enc) (C := Try.checked) false ⟨#[], #[.string ByteArray.empty], []⟩ 8 (by kernel_rfl) (by kernel_rfl) (by kernel_rfl) (by kernel_rfl)) ?_
  intro W base args ds gs before hval0 hW hcnd _
  have hval : ∀ (j : Nat) t v, Try.f3.params[j]? = some t → args[j]? = some v → Value.okWide Try.prog W .any base t v := hval0
  have hW' := hW
  obtain ⟨p, q, hA0, hV, rfl, hfz, hnd⟩ := hW
  have hA : DataW.TrodAll enc Try.prog W 0 (fun _ => true) true Try.f3.params.toList args.toList ds p := hA0
  rw [Try.params3] at hA hval
  obtain ⟨v0, vs0, d0, ds0, p0, q0, hargs, rfl, rfl, h0, r0⟩ := trodAll_cons hA
  obtain ⟨rfl, rfl, rfl⟩ := trodAll_nil r0
  obtain rfl : args = #[v0] := by cases args; simp_all
  obtain ⟨rfl, rfl⟩ := trodVars_none hV
  obtain ⟨a0, rfl, rfl, rfl, w0⟩ := open_string Try.underlying9 (hval 0 9 v0 rfl rfl) h0
  clear hA0 hval0
  refine (walk a0 w0 W).mono fun e W' ⟨he, hg⟩ => ?_
  subst he
  exact ⟨_, rfl, _, _, _, [], _, [], hW', (trodAll_cons_mk (shut_bool Try.underlying4 _) trodAll_mk0), (trodAll_cons_mk (shut_string Try.underlying9 w0) trodAll_mk0), rfl, hg.frame _, fun h => by cases h⟩

theorem over : Rows.fnExactReadPunyRow.holds Try.pinned (OpenSpec.ofChange Rows.fnExactReadPunySpec) :=
  OpenClaim.holds_of_wide 3 Try.f3 rfl rfl rfl rfl rfl rfl rfl ⟨rfl, rfl, rfl, rfl, rfl⟩ rfl rfl rfl rfl rfl (by kernel_rfl) Try.func3 (by kernel_rfl)
    (of_decide_eq_true (by kernel_rfl)) (by unfold Func.isWrapper; first | (rw [if_pos (by decide +kernel)]; kernel_rfl) | (rw [if_neg (by decide +kernel)]; exact ⟨rfl, rfl⟩))
    (fun os started H enc _ => lifted os started H enc)

/-- ████ THE STATEMENT ████ -/
theorem proved : Rows.FnExactReadPunySaid :=
  over
end Go.Proofs.Ytjpdllhhganbpaa.fnExactReadPuny

namespace Go.Proofs.Ytjpdllhhganbpaa
/-- The given statement. -/
theorem fnExactReadPuny_holds : Rows.FnExactReadPunySaid := fnExactReadPuny.proved
#print axioms fnExactReadPuny_holds
end Go.Proofs.Ytjpdllhhganbpaa
