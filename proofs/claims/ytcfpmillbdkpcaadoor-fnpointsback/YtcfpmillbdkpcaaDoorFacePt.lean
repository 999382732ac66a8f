/- Walks: the face of the program: what recovers, answered, at impl.Point. -/
import Derived.Test.YtcfpmillbdkpcaaDoorFace0
import Derived.Test.YtcfpmillbdkpcaaDoorCurveM
namespace Go.Proofs.YtcfpmillbdkpcaaDoor
set_option linter.unusedVariables false
open Go.RowKit

theorem catchPt_idle (w : World) :
    CallsD Tryd.prog 92 #[] .returning w fun e u' w' => e = .returned (.tuple #[]) ∧ u' = .returning ∧ w' = w := by
  refine callsD_of_wpS Tryd.func92 rfl fun c₀ cs hu => ?_
  apply wpS_seq
  apply wpS_region
  simp [wpOpsS, go_sem, recoverD, hu, Tryd.ntmps92, Exit.thenS]
  apply wpS_seq
  apply wpS_region
  simp [wpOpsS, go_sem, Exit.thenS]
  refine wpS_cond (t := false) (by simp [Act.eval, Array.replicate]) ?_
  simp only [Bool.false_eq_true, if_false]
  refine wpS_of_wp (wp_skip ?_)
  cases c₀
  simp_all [bodyPostS, results, Tryd.results92]

theorem catchPt_hit (w : World) :
    CallsD Tryd.prog 92 #[] (.panicking [nrE]) w fun e u' w' => e = .returned (.tuple #[]) ∧ u' = .panicking [{ v := .iface 121 (.agg #[]), recovered := true }] ∧ w' = w := by
  have h1 := ne_nil_nr
  have h2 := ne_nr_nr
  refine callsD_of_wpS Tryd.func92 rfl fun c₀ cs hu => ?_
  apply wpS_seq
  apply wpS_region
  simp [wpOpsS, go_sem, recoverD, hu, nrE, Tryd.ntmps92, Exit.thenS]
  apply wpS_seq
  apply wpS_region
  simp [wpOpsS, go_sem, Exit.thenS, h1, h2]
  refine wpS_cond (t := false) (by simp [Act.eval, Array.replicate]) ?_
  simp only [Bool.false_eq_true, if_false]
  refine wpS_of_wp (wp_skip ?_)
  cases c₀
  simp_all [bodyPostS, results, Tryd.results92]

set_option maxHeartbeats 4000000 in
set_option maxRecDepth 100000 in
theorem answPt_yes (G : Nat) (cap : Array Value) (hG : ∀ (args : Array Value) (w : World), (callFunc G args).run Tryd.prog w = .ok (.enter G args) w) (a : Pt) (w : World)
    (h : ∀ W, Ext w W → Calls Tryd.prog G cap W fun e w' => e = .returned (.agg #[.int .i64 a.x, .int .i64 a.y, .bool a.far]) ∧ Ext W w') :
    Calls Tryd.prog 47 #[.func (.func G) #[] cap] w fun e w' => e = .returned (.tuple #[.agg #[.int .i64 a.x, .int .i64 a.y, .bool a.far], .bool true]) ∧ Ext w w' := by
  go_enter_defers Tryd.func47, Tryd.ntmps47
  go_wp2_with fail
  refine (h _ (Ext.alloc _ _)).mono ?_
  rintro e w1 ⟨rfl, hw1⟩
  obtain ⟨B1, hE, hz⟩ := box1 w [.int .i64 0, .int .i64 0, .bool false] 27 hw1
  clear hw1 h hG
  have d0 := (B1 0 _ rfl).1
  have d1 := (B1 1 _ rfl).1
  have d2 := (B1 2 _ rfl).1
  have z0 := (B1 0 _ rfl).2
  have z1 := (B1 1 _ rfl).2
  have z2 := (B1 2 _ rfl).2
  go_wp2
  obtain ⟨W, hW⟩ : ∃ W, putL w.heap.size 0 [.int .i64 a.x, .int .i64 a.y, .bool a.far] w1 = W := ⟨_, rfl⟩
  have BW := Blk.put B1 [.int .i64 a.x, .int .i64 a.y, .bool a.far] rfl
  rw [hW] at BW
  have hF : Ext w W := hW ▸ hE.putL (by omega) _
  simp only [putL, Nat.zero_add, Nat.reduceAdd] at hW
  simp only [hW]
  have q0 := (BW 0 _ rfl).1
  have q1 := (BW 1 _ rfl).1
  have q2 := (BW 2 _ rfl).1
  clear d0 d1 d2 z0 z1 z2 hW B1
  refine leaves_cons (f := 92) (args := #[]) (by simp) (by simp [go_sem]) ?_
  refine (catchPt_idle _).mono ?_
  rintro e u' w'' ⟨rfl, rfl, rfl⟩
  simp [Leaves, settle, results, Tryd.results47, go_sem, q0, q1, q2]
  exact hF

set_option maxHeartbeats 4000000 in
set_option maxRecDepth 100000 in
theorem answPt_no (G : Nat) (cap : Array Value) (hG : ∀ (args : Array Value) (w : World), (callFunc G args).run Tryd.prog w = .ok (.enter G args) w)  (w : World)
    (h : ∀ W, Ext w W → Calls Tryd.prog G cap W fun e w' => e = .panicked [nrE] ∧ Ext W w') :
    Calls Tryd.prog 47 #[.func (.func G) #[] cap] w fun e w' => e = .returned (.tuple #[.agg #[.int .i64 0, .int .i64 0, .bool false], .bool false]) ∧ Ext w w' := by
  go_enter_defers Tryd.func47, Tryd.ntmps47
  go_wp2_with fail
  refine (h _ (Ext.alloc _ _)).mono ?_
  rintro e w1 ⟨rfl, hw1⟩
  obtain ⟨B1, hE, hz⟩ := box1 w [.int .i64 0, .int .i64 0, .bool false] 27 hw1
  clear hw1 h hG
  have d0 := (B1 0 _ rfl).1
  have d1 := (B1 1 _ rfl).1
  have d2 := (B1 2 _ rfl).1
  go_wp2
  refine leaves_cons (f := 92) (args := #[]) (by simp) (by simp [go_sem]) ?_
  refine (catchPt_hit _).mono ?_
  rintro e u' w'' ⟨rfl, rfl, rfl⟩
  simp [Leaves, settle, results, Tryd.results47, go_sem, d0, d1, d2]
  exact hE

end Go.Proofs.YtcfpmillbdkpcaaDoor
