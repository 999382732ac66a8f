/- Walks: the face of the program: what recovers, answered, at groups of impl.Point. -/
import Derived.Test.YtejlgcnhfomadaaDoorFace0
namespace Go.Proofs.YtejlgcnhfomadaaDoor
set_option linter.unusedVariables false
open Go.RowKit

theorem catchGPt_idle (w : World) :
    CallsD Tryd.prog 83 #[] .returning w fun e u' w' => e = .returned (.tuple #[]) ∧ u' = .returning ∧ w' = w := by
  refine callsD_of_wpS Tryd.func83 rfl fun c₀ cs hu => ?_
  apply wpS_seq
  apply wpS_region
  simp [wpOpsS, go_sem, recoverD, hu, Tryd.ntmps83, Exit.thenS]
  apply wpS_seq
  apply wpS_region
  simp [wpOpsS, go_sem, Exit.thenS]
  refine wpS_cond (t := false) (by simp [Act.eval, Array.replicate]) ?_
  simp only [Bool.false_eq_true, if_false]
  refine wpS_of_wp (wp_skip ?_)
  cases c₀
  simp_all [bodyPostS, results, Tryd.results83]

theorem catchGPt_hit (w : World) :
    CallsD Tryd.prog 83 #[] (.panicking [nrE]) w fun e u' w' => e = .returned (.tuple #[]) ∧ u' = .panicking [{ v := .iface 119 (.agg #[]), recovered := true }] ∧ w' = w := by
  have h1 := ne_nil_nr
  have h2 := ne_nr_nr
  refine callsD_of_wpS Tryd.func83 rfl fun c₀ cs hu => ?_
  apply wpS_seq
  apply wpS_region
  simp [wpOpsS, go_sem, recoverD, hu, nrE, Tryd.ntmps83, Exit.thenS]
  apply wpS_seq
  apply wpS_region
  simp [wpOpsS, go_sem, Exit.thenS, h1, h2]
  refine wpS_cond (t := false) (by simp [Act.eval, Array.replicate]) ?_
  simp only [Bool.false_eq_true, if_false]
  refine wpS_of_wp (wp_skip ?_)
  cases c₀
  simp_all [bodyPostS, results, Tryd.results83]

set_option maxHeartbeats 4000000 in
set_option maxRecDepth 100000 in
theorem answGPt_yes (G : Nat) (hG : ∀ (args : Array Value) (w : World), (callFunc G args).run Tryd.prog w = .ok (.enter G args) w) (P A B N gx gy : Int) (w : World)
    (h : ∀ W, Ext w W → Calls Tryd.prog G #[.agg #[.int .i64 P, .int .i64 A, .int .i64 B, .int .i64 N, .int .i64 gx, .int .i64 gy]] W fun e w' => e = .returned (.agg #[.int .i64 0, .int .i64 0, .bool true, .int .i64 gx, .int .i64 gy, .bool false, .func (.func 87) #[.agg #[.int .i64 P, .int .i64 A, .int .i64 B, .int .i64 N, .int .i64 gx, .int .i64 gy]] #[], .func (.func 88) #[.agg #[.int .i64 P, .int .i64 A, .int .i64 B, .int .i64 N, .int .i64 gx, .int .i64 gy]] #[], .func (.func 89) #[.agg #[.int .i64 P, .int .i64 A, .int .i64 B, .int .i64 N, .int .i64 gx, .int .i64 gy]] #[], .func (.func 90) #[.agg #[.int .i64 P, .int .i64 A, .int .i64 B, .int .i64 N, .int .i64 gx, .int .i64 gy]] #[], .func (.func 91) #[] #[]]) ∧ Ext W w') :
    Calls Tryd.prog 39 #[.func (.func G) #[.agg #[.int .i64 P, .int .i64 A, .int .i64 B, .int .i64 N, .int .i64 gx, .int .i64 gy]] #[]] w fun e w' => e = .returned (.tuple #[.agg #[.int .i64 0, .int .i64 0, .bool true, .int .i64 gx, .int .i64 gy, .bool false, .func (.func 87) #[.agg #[.int .i64 P, .int .i64 A, .int .i64 B, .int .i64 N, .int .i64 gx, .int .i64 gy]] #[], .func (.func 88) #[.agg #[.int .i64 P, .int .i64 A, .int .i64 B, .int .i64 N, .int .i64 gx, .int .i64 gy]] #[], .func (.func 89) #[.agg #[.int .i64 P, .int .i64 A, .int .i64 B, .int .i64 N, .int .i64 gx, .int .i64 gy]] #[], .func (.func 90) #[.agg #[.int .i64 P, .int .i64 A, .int .i64 B, .int .i64 N, .int .i64 gx, .int .i64 gy]] #[], .func (.func 91) #[] #[]], .bool true]) ∧ Ext w w' := by
  go_enter_defers Tryd.func39, Tryd.ntmps39
  go_wp2_with fail
  refine (h _ (Ext.alloc _ _)).mono ?_
  rintro e w1 ⟨rfl, hw1⟩
  obtain ⟨B1, hE, hz⟩ := box1 w [.int .i64 0, .int .i64 0, .bool false, .int .i64 0, .int .i64 0, .bool false, .nilFunc, .nilFunc, .nilFunc, .nilFunc, .nilFunc] 77 hw1
  clear hw1 h hG
  have d0 := (B1 0 _ rfl).1
  have d1 := (B1 1 _ rfl).1
  have d2 := (B1 2 _ rfl).1
  have d3 := (B1 3 _ rfl).1
  have d4 := (B1 4 _ rfl).1
  have d5 := (B1 5 _ rfl).1
  have d6 := (B1 6 _ rfl).1
  have d7 := (B1 7 _ rfl).1
  have d8 := (B1 8 _ rfl).1
  have d9 := (B1 9 _ rfl).1
  have d10 := (B1 10 _ rfl).1
  have z0 := (B1 0 _ rfl).2
  have z1 := (B1 1 _ rfl).2
  have z2 := (B1 2 _ rfl).2
  have z3 := (B1 3 _ rfl).2
  have z4 := (B1 4 _ rfl).2
  have z5 := (B1 5 _ rfl).2
  have z6 := (B1 6 _ rfl).2
  have z7 := (B1 7 _ rfl).2
  have z8 := (B1 8 _ rfl).2
  have z9 := (B1 9 _ rfl).2
  have z10 := (B1 10 _ rfl).2
  go_wp2
  obtain ⟨W, hW⟩ : ∃ W, putL w.heap.size 0 [.int .i64 0, .int .i64 0, .bool true, .int .i64 gx, .int .i64 gy, .bool false, .func (.func 87) #[.agg #[.int .i64 P, .int .i64 A, .int .i64 B, .int .i64 N, .int .i64 gx, .int .i64 gy]] #[], .func (.func 88) #[.agg #[.int .i64 P, .int .i64 A, .int .i64 B, .int .i64 N, .int .i64 gx, .int .i64 gy]] #[], .func (.func 89) #[.agg #[.int .i64 P, .int .i64 A, .int .i64 B, .int .i64 N, .int .i64 gx, .int .i64 gy]] #[], .func (.func 90) #[.agg #[.int .i64 P, .int .i64 A, .int .i64 B, .int .i64 N, .int .i64 gx, .int .i64 gy]] #[], .func (.func 91) #[] #[]] w1 = W := ⟨_, rfl⟩
  have BW := Blk.put B1 [.int .i64 0, .int .i64 0, .bool true, .int .i64 gx, .int .i64 gy, .bool false, .func (.func 87) #[.agg #[.int .i64 P, .int .i64 A, .int .i64 B, .int .i64 N, .int .i64 gx, .int .i64 gy]] #[], .func (.func 88) #[.agg #[.int .i64 P, .int .i64 A, .int .i64 B, .int .i64 N, .int .i64 gx, .int .i64 gy]] #[], .func (.func 89) #[.agg #[.int .i64 P, .int .i64 A, .int .i64 B, .int .i64 N, .int .i64 gx, .int .i64 gy]] #[], .func (.func 90) #[.agg #[.int .i64 P, .int .i64 A, .int .i64 B, .int .i64 N, .int .i64 gx, .int .i64 gy]] #[], .func (.func 91) #[] #[]] rfl
  rw [hW] at BW
  have hF : Ext w W := hW ▸ hE.putL (by omega) _
  simp only [putL, Nat.zero_add, Nat.reduceAdd] at hW
  simp only [hW]
  have q0 := (BW 0 _ rfl).1
  have q1 := (BW 1 _ rfl).1
  have q2 := (BW 2 _ rfl).1
  have q3 := (BW 3 _ rfl).1
  have q4 := (BW 4 _ rfl).1
  have q5 := (BW 5 _ rfl).1
  have q6 := (BW 6 _ rfl).1
  have q7 := (BW 7 _ rfl).1
  have q8 := (BW 8 _ rfl).1
  have q9 := (BW 9 _ rfl).1
  have q10 := (BW 10 _ rfl).1
  clear d0 d1 d2 d3 d4 d5 d6 d7 d8 d9 d10 z0 z1 z2 z3 z4 z5 z6 z7 z8 z9 z10 hW B1
  refine leaves_cons (f := 83) (args := #[]) (by simp) (by simp [go_sem]) ?_
  refine (catchGPt_idle _).mono ?_
  rintro e u' w'' ⟨rfl, rfl, rfl⟩
  simp [Leaves, settle, results, Tryd.results39, go_sem, q0, q1, q2, q3, q4, q5, q6, q7, q8, q9, q10]
  exact hF

set_option maxHeartbeats 4000000 in
set_option maxRecDepth 100000 in
theorem answGPt_no (G : Nat) (hG : ∀ (args : Array Value) (w : World), (callFunc G args).run Tryd.prog w = .ok (.enter G args) w) (P A B N gx gy : Int) (w : World)
    (h : ∀ W, Ext w W → Calls Tryd.prog G #[.agg #[.int .i64 P, .int .i64 A, .int .i64 B, .int .i64 N, .int .i64 gx, .int .i64 gy]] W fun e w' => e = .panicked [nrE] ∧ Ext W w') :
    Calls Tryd.prog 39 #[.func (.func G) #[.agg #[.int .i64 P, .int .i64 A, .int .i64 B, .int .i64 N, .int .i64 gx, .int .i64 gy]] #[]] w fun e w' => e = .returned (.tuple #[.agg #[.int .i64 0, .int .i64 0, .bool false, .int .i64 0, .int .i64 0, .bool false, .nilFunc, .nilFunc, .nilFunc, .nilFunc, .nilFunc], .bool false]) ∧ Ext w w' := by
  go_enter_defers Tryd.func39, Tryd.ntmps39
  go_wp2_with fail
  refine (h _ (Ext.alloc _ _)).mono ?_
  rintro e w1 ⟨rfl, hw1⟩
  obtain ⟨B1, hE, hz⟩ := box1 w [.int .i64 0, .int .i64 0, .bool false, .int .i64 0, .int .i64 0, .bool false, .nilFunc, .nilFunc, .nilFunc, .nilFunc, .nilFunc] 77 hw1
  clear hw1 h hG
  have d0 := (B1 0 _ rfl).1
  have d1 := (B1 1 _ rfl).1
  have d2 := (B1 2 _ rfl).1
  have d3 := (B1 3 _ rfl).1
  have d4 := (B1 4 _ rfl).1
  have d5 := (B1 5 _ rfl).1
  have d6 := (B1 6 _ rfl).1
  have d7 := (B1 7 _ rfl).1
  have d8 := (B1 8 _ rfl).1
  have d9 := (B1 9 _ rfl).1
  have d10 := (B1 10 _ rfl).1
  go_wp2
  refine leaves_cons (f := 83) (args := #[]) (by simp) (by simp [go_sem]) ?_
  refine (catchGPt_hit _).mono ?_
  rintro e u' w'' ⟨rfl, rfl, rfl⟩
  simp [Leaves, settle, results, Tryd.results39, go_sem, d0, d1, d2, d3, d4, d5, d6, d7, d8, d9, d10]
  exact hE

end Go.Proofs.YtejlgcnhfomadaaDoor
