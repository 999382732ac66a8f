/- Walks: the face of the program: what is panicked with, held against another. Walks: the face of the program: what recovers, answered, at []byte. Walks: the face of the program: what recovers, answered, at impl.Pair. -/
import Derived.Test.YtcfpmillbdkpcaaDoorFace
import Derived.Test.YtcfpmillbdkpcaaDoorBlk
import Derived.Laws.EntriesVeiled
import Derived.Test.YtcfpmillbdkpcaaDoorEdNum
namespace Go.Proofs.YtcfpmillbdkpcaaDoor
set_option linter.unusedVariables false
open Go.RowKit

theorem ne_nil_nr (w : World) : (binOp .neq 20 (.iface 121 (.agg #[])) .nilIface).run Tryd.prog w = .ok (.bool true) w := by kernel_rfl

theorem ne_nr_nr (w : World) : (binOp .neq 20 (.iface 121 (.agg #[])) (.iface 121 (.agg #[]))).run Tryd.prog w = .ok (.bool false) w := by kernel_rfl

theorem catchB_idle (w : World) :
    CallsD Tryd.prog 81 #[] .returning w fun e u' w' => e = .returned (.tuple #[]) ∧ u' = .returning ∧ w' = w := by
  refine callsD_of_wpS Tryd.func81 rfl fun c₀ cs hu => ?_
  apply wpS_seq
  apply wpS_region
  simp [wpOpsS, go_sem, recoverD, hu, Tryd.ntmps81, Exit.thenS]
  apply wpS_seq
  apply wpS_region
  simp [wpOpsS, go_sem, Exit.thenS]
  refine wpS_cond (t := false) (by simp [Act.eval, Array.replicate]) ?_
  simp only [Bool.false_eq_true, if_false]
  refine wpS_of_wp (wp_skip ?_)
  cases c₀
  simp_all [bodyPostS, results, Tryd.results81]

theorem catchB_hit (w : World) :
    CallsD Tryd.prog 81 #[] (.panicking [nrE]) w fun e u' w' => e = .returned (.tuple #[]) ∧ u' = .panicking [{ v := .iface 121 (.agg #[]), recovered := true }] ∧ w' = w := by
  have h1 := ne_nil_nr
  have h2 := ne_nr_nr
  refine callsD_of_wpS Tryd.func81 rfl fun c₀ cs hu => ?_
  apply wpS_seq
  apply wpS_region
  simp [wpOpsS, go_sem, recoverD, hu, nrE, Tryd.ntmps81, Exit.thenS]
  apply wpS_seq
  apply wpS_region
  simp [wpOpsS, go_sem, Exit.thenS, h1, h2]
  refine wpS_cond (t := false) (by simp [Act.eval, Array.replicate]) ?_
  simp only [Bool.false_eq_true, if_false]
  refine wpS_of_wp (wp_skip ?_)
  cases c₀
  simp_all [bodyPostS, results, Tryd.results81]

set_option maxHeartbeats 4000000 in
set_option maxRecDepth 100000 in
theorem answB_yes (G : Nat) (cap : Array Value) (hG : ∀ (args : Array Value) (w : World), (callFunc G args).run Tryd.prog w = .ok (.enter G args) w) (R : Value → World → Prop) (w : World)
    (h : Calls Tryd.prog G cap w fun e w' => ∃ v, e = .returned v ∧ R v w') :
    Calls Tryd.prog 42 #[.func (.func G) #[] cap] w fun e w' => ∃ v, e = .returned (.tuple #[v, .bool true]) ∧ R v w' := by
  have h := hide h
  go_enter_defers Tryd.func42, Tryd.ntmps42
  go_wp2_with fail
  refine h.out.mono ?_
  rintro e w1 ⟨v, rfl, hR⟩
  have hR := hide hR
  clear h hG
  go_wp2
  refine leaves_cons (f := 81) (args := #[]) (by simp) (by simp [go_sem]) ?_
  refine (catchB_idle _).mono ?_
  rintro e u' w'' ⟨rfl, rfl, rfl⟩
  simp [Leaves, settle, results, Tryd.results42, go_sem]
  exact hR.out

set_option maxHeartbeats 4000000 in
set_option maxRecDepth 100000 in
theorem answB_no (G : Nat) (cap : Array Value) (hG : ∀ (args : Array Value) (w : World), (callFunc G args).run Tryd.prog w = .ok (.enter G args) w) (w : World)
    (h : Calls Tryd.prog G cap w fun e w' => e = .panicked [nrE] ∧ Ext w w') :
    Calls Tryd.prog 42 #[.func (.func G) #[] cap] w fun e w' => e = .returned (.tuple #[.slice none 0 0, .bool false]) ∧ Ext w w' := by
  have h := hide h
  go_enter_defers Tryd.func42, Tryd.ntmps42
  go_wp2_with fail
  refine h.out.mono ?_
  rintro e w1 ⟨rfl, hw1⟩
  have hR := hide hw1
  clear h hG hw1
  go_wp2
  refine leaves_cons (f := 81) (args := #[]) (by simp) (by simp [go_sem]) ?_
  refine (catchB_hit _).mono ?_
  rintro e u' w'' ⟨rfl, rfl, rfl⟩
  simp [Leaves, settle, results, Tryd.results42, go_sem]
  exact hR.out

theorem catchPr_idle (w : World) :
    CallsD Tryd.prog 108 #[] .returning w fun e u' w' => e = .returned (.tuple #[]) ∧ u' = .returning ∧ w' = w := by
  refine callsD_of_wpS Tryd.func108 rfl fun c₀ cs hu => ?_
  apply wpS_seq
  apply wpS_region
  simp [wpOpsS, go_sem, recoverD, hu, Tryd.ntmps108, Exit.thenS]
  apply wpS_seq
  apply wpS_region
  simp [wpOpsS, go_sem, Exit.thenS]
  refine wpS_cond (t := false) (by simp [Act.eval, Array.replicate]) ?_
  simp only [Bool.false_eq_true, if_false]
  refine wpS_of_wp (wp_skip ?_)
  cases c₀
  simp_all [bodyPostS, results, Tryd.results108]

theorem catchPr_hit (w : World) :
    CallsD Tryd.prog 108 #[] (.panicking [nrE]) w fun e u' w' => e = .returned (.tuple #[]) ∧ u' = .panicking [{ v := .iface 121 (.agg #[]), recovered := true }] ∧ w' = w := by
  have h1 := ne_nil_nr
  have h2 := ne_nr_nr
  refine callsD_of_wpS Tryd.func108 rfl fun c₀ cs hu => ?_
  apply wpS_seq
  apply wpS_region
  simp [wpOpsS, go_sem, recoverD, hu, nrE, Tryd.ntmps108, Exit.thenS]
  apply wpS_seq
  apply wpS_region
  simp [wpOpsS, go_sem, Exit.thenS, h1, h2]
  refine wpS_cond (t := false) (by simp [Act.eval, Array.replicate]) ?_
  simp only [Bool.false_eq_true, if_false]
  refine wpS_of_wp (wp_skip ?_)
  cases c₀
  simp_all [bodyPostS, results, Tryd.results108]

set_option maxHeartbeats 4000000 in
set_option maxRecDepth 100000 in
theorem answPr_yes (G : Nat) (cap : Array Value) (hG : ∀ (args : Array Value) (w : World), (callFunc G args).run Tryd.prog w = .ok (.enter G args) w) (a : Pr) (w : World)
    (h : ∀ W, Ext w W → Calls Tryd.prog G cap W fun e w' => e = .returned (.agg #[.int .i64 a.x, .int .i64 a.y]) ∧ Ext W w') :
    Calls Tryd.prog 58 #[.func (.func G) #[] cap] w fun e w' => e = .returned (.tuple #[.agg #[.int .i64 a.x, .int .i64 a.y], .bool true]) ∧ Ext w w' := by
  go_enter_defers Tryd.func58, Tryd.ntmps58
  go_wp2_with fail
  refine (h _ (Ext.alloc _ _)).mono ?_
  rintro e w1 ⟨rfl, hw1⟩
  obtain ⟨B1, hE, hz⟩ := box1 w [.int .i64 0, .int .i64 0] 39 hw1
  clear hw1 h hG
  have d0 := (B1 0 _ rfl).1
  have d1 := (B1 1 _ rfl).1
  have z0 := (B1 0 _ rfl).2
  have z1 := (B1 1 _ rfl).2
  go_wp2
  obtain ⟨W, hW⟩ : ∃ W, putL w.heap.size 0 [.int .i64 a.x, .int .i64 a.y] w1 = W := ⟨_, rfl⟩
  have BW := Blk.put B1 [.int .i64 a.x, .int .i64 a.y] rfl
  rw [hW] at BW
  have hF : Ext w W := hW ▸ hE.putL (by omega) _
  simp only [putL, Nat.zero_add] at hW
  simp only [hW]
  have q0 := (BW 0 _ rfl).1
  have q1 := (BW 1 _ rfl).1
  clear d0 d1 z0 z1 hW B1
  refine leaves_cons (f := 108) (args := #[]) (by simp) (by simp [go_sem]) ?_
  refine (catchPr_idle _).mono ?_
  rintro e u' w'' ⟨rfl, rfl, rfl⟩
  simp [Leaves, settle, results, Tryd.results58, go_sem, q0, q1]
  exact hF

set_option maxHeartbeats 4000000 in
set_option maxRecDepth 100000 in
theorem answPr_no (G : Nat) (cap : Array Value) (hG : ∀ (args : Array Value) (w : World), (callFunc G args).run Tryd.prog w = .ok (.enter G args) w)  (w : World)
    (h : ∀ W, Ext w W → Calls Tryd.prog G cap W fun e w' => e = .panicked [nrE] ∧ Ext W w') :
    Calls Tryd.prog 58 #[.func (.func G) #[] cap] w fun e w' => e = .returned (.tuple #[.agg #[.int .i64 0, .int .i64 0], .bool false]) ∧ Ext w w' := by
  go_enter_defers Tryd.func58, Tryd.ntmps58
  go_wp2_with fail
  refine (h _ (Ext.alloc _ _)).mono ?_
  rintro e w1 ⟨rfl, hw1⟩
  obtain ⟨B1, hE, hz⟩ := box1 w [.int .i64 0, .int .i64 0] 39 hw1
  clear hw1 h hG
  have d0 := (B1 0 _ rfl).1
  have d1 := (B1 1 _ rfl).1
  go_wp2
  refine leaves_cons (f := 108) (args := #[]) (by simp) (by simp [go_sem]) ?_
  refine (catchPr_hit _).mono ?_
  rintro e u' w'' ⟨rfl, rfl, rfl⟩
  simp [Leaves, settle, results, Tryd.results58, go_sem, d0, d1]
  exact hE

end Go.Proofs.YtcfpmillbdkpcaaDoor
