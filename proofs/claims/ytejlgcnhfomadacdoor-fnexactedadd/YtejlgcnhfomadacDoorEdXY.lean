/- Walks: the model's PairOk, EdAdd, EdMul, EdCofactor. What the model answers over twisted curves: EdOk, PairOk, EdAdd, EdMul, EdCofactor. -/
import Derived.Test.YtejlgcnhfomadacDoorEdW
namespace Go.Proofs.YtejlgcnhfomadacDoor
set_option linter.unusedVariables false
open Go.RowKit

set_option maxHeartbeats 1600000 in
set_option maxRecDepth 100000 in
theorem sEdAdd_yes (P D L bx cy : Int) (a b r : Pr) (hP : Hid (∀ W : World, Calls Tryd.prog 25 #[.agg #[.int .i64 P, .int .i64 D, .int .i64 L, .int .i64 bx, .int .i64 cy], .agg #[.int .i64 a.x, .int .i64 a.y]] W fun e w' => e = .returned (.bool true) ∧ Ext W w')) (hO : Hid (∀ W : World, Calls Tryd.prog 26 #[.agg #[.int .i64 P, .int .i64 D, .int .i64 L, .int .i64 bx, .int .i64 cy], .agg #[.int .i64 b.x, .int .i64 b.y]] W fun e w' => e = .returned (.bool true) ∧ Ext W w')) (hA : Hid (∀ W : World, Calls Tryd.prog 27 #[.agg #[.int .i64 P, .int .i64 D, .int .i64 L, .int .i64 bx, .int .i64 cy], .agg #[.int .i64 a.x, .int .i64 a.y], .agg #[.int .i64 b.x, .int .i64 b.y]] W fun e w' => e = .returned (.agg #[.int .i64 r.x, .int .i64 r.y]) ∧ Ext W w')) (w : World) :
    Calls Tryd.prog 8 #[.agg #[.int .i64 P, .int .i64 D, .int .i64 L, .int .i64 bx, .int .i64 cy], .agg #[.int .i64 a.x, .int .i64 a.y], .agg #[.int .i64 b.x, .int .i64 b.y]] w fun e w' => e = .returned (.tuple #[.agg #[.int .i64 r.x, .int .i64 r.y], .bool true]) ∧ Ext w w' := by
  go_enter Tryd.func8, Tryd.ntmps8
  go_wp2_with fail
  refine (hP.out _).mono ?_
  rintro r w1 ⟨rfl, hw1⟩
  obtain ⟨B0, B1, B2, B3, hE, hz⟩ := box4 w [.int .i64 P, .int .i64 D, .int .i64 L, .int .i64 bx, .int .i64 cy] [.int .i64 a.x, .int .i64 a.y] [.int .i64 b.x, .int .i64 b.y] [.int .i64 0, .int .i64 0] 29 26 26 26 hw1
  clear hw1
  have k0 := (B0 0 _ rfl).1
  have k1 := (B0 1 _ rfl).1
  have k2 := (B0 2 _ rfl).1
  have k3 := (B0 3 _ rfl).1
  have k4 := (B0 4 _ rfl).1
  have f0 := (B1 0 _ rfl).1
  have f1 := (B1 1 _ rfl).1
  have g0 := (B2 0 _ rfl).1
  have g1 := (B2 1 _ rfl).1
  have d0 := (B3 0 _ rfl).1
  have d1 := (B3 1 _ rfl).1
  have z0 := (B3 0 _ rfl).2
  have z1 := (B3 1 _ rfl).2
  go_wp2_with fail
  refine (hO.out _).mono ?_
  rintro r w2 ⟨rfl, hw2⟩
  clear k0 k1 k2 k3 k4 f0 f1 g0 g1 d0 d1 z0 z1
  replace B0 := B0.ext hw2 (by omega)
  replace B1 := B1.ext hw2 (by omega)
  replace B2 := B2.ext hw2 (by omega)
  replace B3 := B3.ext hw2 (by omega)
  replace hE := hE.trans hw2
  replace hz : w.heap.size + 4 ≤ w2.heap.size := Nat.le_trans hz (Below.size hw2)
  clear hw2
  have k0 := (B0 0 _ rfl).1
  have k1 := (B0 1 _ rfl).1
  have k2 := (B0 2 _ rfl).1
  have k3 := (B0 3 _ rfl).1
  have k4 := (B0 4 _ rfl).1
  have f0 := (B1 0 _ rfl).1
  have f1 := (B1 1 _ rfl).1
  have g0 := (B2 0 _ rfl).1
  have g1 := (B2 1 _ rfl).1
  have d0 := (B3 0 _ rfl).1
  have d1 := (B3 1 _ rfl).1
  have z0 := (B3 0 _ rfl).2
  have z1 := (B3 1 _ rfl).2
  go_wp2_with fail
  refine (hA.out _).mono ?_
  rintro r w3 ⟨rfl, hw3⟩
  clear k0 k1 k2 k3 k4 f0 f1 g0 g1 d0 d1 z0 z1
  replace B0 := B0.ext hw3 (by omega)
  replace B1 := B1.ext hw3 (by omega)
  replace B2 := B2.ext hw3 (by omega)
  replace B3 := B3.ext hw3 (by omega)
  replace hE := hE.trans hw3
  replace hz : w.heap.size + 4 ≤ w3.heap.size := Nat.le_trans hz (Below.size hw3)
  clear hw3
  have k0 := (B0 0 _ rfl).1
  have k1 := (B0 1 _ rfl).1
  have k2 := (B0 2 _ rfl).1
  have k3 := (B0 3 _ rfl).1
  have k4 := (B0 4 _ rfl).1
  have f0 := (B1 0 _ rfl).1
  have f1 := (B1 1 _ rfl).1
  have g0 := (B2 0 _ rfl).1
  have g1 := (B2 1 _ rfl).1
  have d0 := (B3 0 _ rfl).1
  have d1 := (B3 1 _ rfl).1
  have z0 := (B3 0 _ rfl).2
  have z1 := (B3 1 _ rfl).2
  go_wp2
  obtain ⟨W, hW⟩ : ∃ W, putL (w.heap.size + 1 + 1 + 1) 0 [.int .i64 r.x, .int .i64 r.y] w3 = W := ⟨_, rfl⟩
  have BW := Blk.put B3 [.int .i64 r.x, .int .i64 r.y] rfl
  rw [hW] at BW
  have hF : Ext w W := hW ▸ hE.putL (by omega) _
  simp only [putL, Nat.zero_add] at hW
  simp only [hW]
  have s0 := (BW 0 _ rfl).1
  have s1 := (BW 1 _ rfl).1
  refine bodyPost_ret (v := .tuple #[.agg #[.int .i64 r.x, .int .i64 r.y], .bool true]) (by simp [results, Tryd.results8, go_sem, s0, s1]) rfl ⟨rfl, hF⟩

set_option maxHeartbeats 1600000 in
set_option maxRecDepth 100000 in
theorem sEdAdd_no1 (P D L bx cy : Int) (a b : Pr) (hP : Hid (∀ W : World, Calls Tryd.prog 25 #[.agg #[.int .i64 P, .int .i64 D, .int .i64 L, .int .i64 bx, .int .i64 cy], .agg #[.int .i64 a.x, .int .i64 a.y]] W fun e w' => e = .returned (.bool false) ∧ Ext W w')) (w : World) :
    Calls Tryd.prog 8 #[.agg #[.int .i64 P, .int .i64 D, .int .i64 L, .int .i64 bx, .int .i64 cy], .agg #[.int .i64 a.x, .int .i64 a.y], .agg #[.int .i64 b.x, .int .i64 b.y]] w fun e w' => e = .returned (.tuple #[.agg #[.int .i64 0, .int .i64 0], .bool false]) ∧ Ext w w' := by
  go_enter Tryd.func8, Tryd.ntmps8
  go_wp2_with fail
  refine (hP.out _).mono ?_
  rintro r w1 ⟨rfl, hw1⟩
  obtain ⟨B0, B1, B2, B3, hE, hz⟩ := box4 w [.int .i64 P, .int .i64 D, .int .i64 L, .int .i64 bx, .int .i64 cy] [.int .i64 a.x, .int .i64 a.y] [.int .i64 b.x, .int .i64 b.y] [.int .i64 0, .int .i64 0] 29 26 26 26 hw1
  clear hw1
  have k0 := (B0 0 _ rfl).1
  have k1 := (B0 1 _ rfl).1
  have k2 := (B0 2 _ rfl).1
  have k3 := (B0 3 _ rfl).1
  have k4 := (B0 4 _ rfl).1
  have f0 := (B1 0 _ rfl).1
  have f1 := (B1 1 _ rfl).1
  have g0 := (B2 0 _ rfl).1
  have g1 := (B2 1 _ rfl).1
  have d0 := (B3 0 _ rfl).1
  have d1 := (B3 1 _ rfl).1
  have z0 := (B3 0 _ rfl).2
  have z1 := (B3 1 _ rfl).2
  go_wp2
  obtain ⟨W, hW⟩ : ∃ W, putL (w.heap.size + 1 + 1 + 1) 0 [.int .i64 0, .int .i64 0] w1 = W := ⟨_, rfl⟩
  have BW := Blk.put B3 [.int .i64 0, .int .i64 0] rfl
  rw [hW] at BW
  have hF : Ext w W := hW ▸ hE.putL (by omega) _
  simp only [putL, Nat.zero_add] at hW
  simp only [hW]
  have s0 := (BW 0 _ rfl).1
  have s1 := (BW 1 _ rfl).1
  refine bodyPost_ret (v := .tuple #[.agg #[.int .i64 0, .int .i64 0], .bool false]) (by simp [results, Tryd.results8, go_sem, s0, s1]) rfl ⟨rfl, hF⟩

set_option maxHeartbeats 1600000 in
set_option maxRecDepth 100000 in
theorem sEdAdd_no2 (P D L bx cy : Int) (a b : Pr) (hP : Hid (∀ W : World, Calls Tryd.prog 25 #[.agg #[.int .i64 P, .int .i64 D, .int .i64 L, .int .i64 bx, .int .i64 cy], .agg #[.int .i64 a.x, .int .i64 a.y]] W fun e w' => e = .returned (.bool true) ∧ Ext W w')) (hO : Hid (∀ W : World, Calls Tryd.prog 26 #[.agg #[.int .i64 P, .int .i64 D, .int .i64 L, .int .i64 bx, .int .i64 cy], .agg #[.int .i64 b.x, .int .i64 b.y]] W fun e w' => e = .returned (.bool false) ∧ Ext W w')) (w : World) :
    Calls Tryd.prog 8 #[.agg #[.int .i64 P, .int .i64 D, .int .i64 L, .int .i64 bx, .int .i64 cy], .agg #[.int .i64 a.x, .int .i64 a.y], .agg #[.int .i64 b.x, .int .i64 b.y]] w fun e w' => e = .returned (.tuple #[.agg #[.int .i64 0, .int .i64 0], .bool false]) ∧ Ext w w' := by
  go_enter Tryd.func8, Tryd.ntmps8
  go_wp2_with fail
  refine (hP.out _).mono ?_
  rintro r w1 ⟨rfl, hw1⟩
  obtain ⟨B0, B1, B2, B3, hE, hz⟩ := box4 w [.int .i64 P, .int .i64 D, .int .i64 L, .int .i64 bx, .int .i64 cy] [.int .i64 a.x, .int .i64 a.y] [.int .i64 b.x, .int .i64 b.y] [.int .i64 0, .int .i64 0] 29 26 26 26 hw1
  clear hw1
  have k0 := (B0 0 _ rfl).1
  have k1 := (B0 1 _ rfl).1
  have k2 := (B0 2 _ rfl).1
  have k3 := (B0 3 _ rfl).1
  have k4 := (B0 4 _ rfl).1
  have f0 := (B1 0 _ rfl).1
  have f1 := (B1 1 _ rfl).1
  have g0 := (B2 0 _ rfl).1
  have g1 := (B2 1 _ rfl).1
  have d0 := (B3 0 _ rfl).1
  have d1 := (B3 1 _ rfl).1
  have z0 := (B3 0 _ rfl).2
  have z1 := (B3 1 _ rfl).2
  go_wp2_with fail
  refine (hO.out _).mono ?_
  rintro r w2 ⟨rfl, hw2⟩
  clear k0 k1 k2 k3 k4 f0 f1 g0 g1 d0 d1 z0 z1
  replace B0 := B0.ext hw2 (by omega)
  replace B1 := B1.ext hw2 (by omega)
  replace B2 := B2.ext hw2 (by omega)
  replace B3 := B3.ext hw2 (by omega)
  replace hE := hE.trans hw2
  replace hz : w.heap.size + 4 ≤ w2.heap.size := Nat.le_trans hz (Below.size hw2)
  clear hw2
  have k0 := (B0 0 _ rfl).1
  have k1 := (B0 1 _ rfl).1
  have k2 := (B0 2 _ rfl).1
  have k3 := (B0 3 _ rfl).1
  have k4 := (B0 4 _ rfl).1
  have f0 := (B1 0 _ rfl).1
  have f1 := (B1 1 _ rfl).1
  have g0 := (B2 0 _ rfl).1
  have g1 := (B2 1 _ rfl).1
  have d0 := (B3 0 _ rfl).1
  have d1 := (B3 1 _ rfl).1
  have z0 := (B3 0 _ rfl).2
  have z1 := (B3 1 _ rfl).2
  go_wp2
  obtain ⟨W, hW⟩ : ∃ W, putL (w.heap.size + 1 + 1 + 1) 0 [.int .i64 0, .int .i64 0] w2 = W := ⟨_, rfl⟩
  have BW := Blk.put B3 [.int .i64 0, .int .i64 0] rfl
  rw [hW] at BW
  have hF : Ext w W := hW ▸ hE.putL (by omega) _
  simp only [putL, Nat.zero_add] at hW
  simp only [hW]
  have s0 := (BW 0 _ rfl).1
  have s1 := (BW 1 _ rfl).1
  refine bodyPost_ret (v := .tuple #[.agg #[.int .i64 0, .int .i64 0], .bool false]) (by simp [results, Tryd.results8, go_sem, s0, s1]) rfl ⟨rfl, hF⟩

set_option maxHeartbeats 1600000 in
set_option maxRecDepth 100000 in
theorem sEdMul_yes (P D L bx cy : Int) (n : Int) (a r : Pr) (hP : Hid (∀ W : World, Calls Tryd.prog 25 #[.agg #[.int .i64 P, .int .i64 D, .int .i64 L, .int .i64 bx, .int .i64 cy], .agg #[.int .i64 a.x, .int .i64 a.y]] W fun e w' => e = .returned (.bool true) ∧ Ext W w')) (hI : Hid (∀ W : World, Calls Tryd.prog 32 #[.int .i64 n, .int .i64 0, .int .i64 1099511627776] W fun e w' => e = .returned (.bool true) ∧ Ext W w')) (hM : Hid (∀ W : World, Calls Tryd.prog 33 #[.agg #[.int .i64 P, .int .i64 D, .int .i64 L, .int .i64 bx, .int .i64 cy], .int .i64 n, .agg #[.int .i64 a.x, .int .i64 a.y]] W fun e w' => e = .returned (.agg #[.int .i64 r.x, .int .i64 r.y]) ∧ Ext W w')) (w : World) :
    Calls Tryd.prog 13 #[.agg #[.int .i64 P, .int .i64 D, .int .i64 L, .int .i64 bx, .int .i64 cy], .int .i64 n, .agg #[.int .i64 a.x, .int .i64 a.y]] w fun e w' => e = .returned (.tuple #[.agg #[.int .i64 r.x, .int .i64 r.y], .bool true]) ∧ Ext w w' := by
  go_enter Tryd.func13, Tryd.ntmps13
  go_wp2_with fail
  refine (hP.out _).mono ?_
  rintro r w1 ⟨rfl, hw1⟩
  obtain ⟨B0, B1, B2, hE, hz⟩ := box3 w [.int .i64 P, .int .i64 D, .int .i64 L, .int .i64 bx, .int .i64 cy] [.int .i64 a.x, .int .i64 a.y] [.int .i64 0, .int .i64 0] 29 26 26 hw1
  clear hw1
  have k0 := (B0 0 _ rfl).1
  have k1 := (B0 1 _ rfl).1
  have k2 := (B0 2 _ rfl).1
  have k3 := (B0 3 _ rfl).1
  have k4 := (B0 4 _ rfl).1
  have f0 := (B1 0 _ rfl).1
  have f1 := (B1 1 _ rfl).1
  have d0 := (B2 0 _ rfl).1
  have d1 := (B2 1 _ rfl).1
  have z0 := (B2 0 _ rfl).2
  have z1 := (B2 1 _ rfl).2
  go_wp2_with fail
  refine (hI.out _).mono ?_
  rintro r w2 ⟨rfl, hw2⟩
  clear k0 k1 k2 k3 k4 f0 f1 d0 d1 z0 z1
  replace B0 := B0.ext hw2 (by omega)
  replace B1 := B1.ext hw2 (by omega)
  replace B2 := B2.ext hw2 (by omega)
  replace hE := hE.trans hw2
  replace hz : w.heap.size + 3 ≤ w2.heap.size := Nat.le_trans hz (Below.size hw2)
  clear hw2
  have k0 := (B0 0 _ rfl).1
  have k1 := (B0 1 _ rfl).1
  have k2 := (B0 2 _ rfl).1
  have k3 := (B0 3 _ rfl).1
  have k4 := (B0 4 _ rfl).1
  have f0 := (B1 0 _ rfl).1
  have f1 := (B1 1 _ rfl).1
  have d0 := (B2 0 _ rfl).1
  have d1 := (B2 1 _ rfl).1
  have z0 := (B2 0 _ rfl).2
  have z1 := (B2 1 _ rfl).2
  go_wp2_with fail
  refine (hM.out _).mono ?_
  rintro r w3 ⟨rfl, hw3⟩
  clear k0 k1 k2 k3 k4 f0 f1 d0 d1 z0 z1
  replace B0 := B0.ext hw3 (by omega)
  replace B1 := B1.ext hw3 (by omega)
  replace B2 := B2.ext hw3 (by omega)
  replace hE := hE.trans hw3
  replace hz : w.heap.size + 3 ≤ w3.heap.size := Nat.le_trans hz (Below.size hw3)
  clear hw3
  have k0 := (B0 0 _ rfl).1
  have k1 := (B0 1 _ rfl).1
  have k2 := (B0 2 _ rfl).1
  have k3 := (B0 3 _ rfl).1
  have k4 := (B0 4 _ rfl).1
  have f0 := (B1 0 _ rfl).1
  have f1 := (B1 1 _ rfl).1
  have d0 := (B2 0 _ rfl).1
  have d1 := (B2 1 _ rfl).1
  have z0 := (B2 0 _ rfl).2
  have z1 := (B2 1 _ rfl).2
  go_wp2
  obtain ⟨W, hW⟩ : ∃ W, putL (w.heap.size + 1 + 1) 0 [.int .i64 r.x, .int .i64 r.y] w3 = W := ⟨_, rfl⟩
  have BW := Blk.put B2 [.int .i64 r.x, .int .i64 r.y] rfl
  rw [hW] at BW
  have hF : Ext w W := hW ▸ hE.putL (by omega) _
  simp only [putL, Nat.zero_add] at hW
  simp only [hW]
  have s0 := (BW 0 _ rfl).1
  have s1 := (BW 1 _ rfl).1
  refine bodyPost_ret (v := .tuple #[.agg #[.int .i64 r.x, .int .i64 r.y], .bool true]) (by simp [results, Tryd.results13, go_sem, s0, s1]) rfl ⟨rfl, hF⟩

set_option maxHeartbeats 1600000 in
set_option maxRecDepth 100000 in
theorem sEdMul_no1 (P D L bx cy : Int) (n : Int) (a : Pr) (hP : Hid (∀ W : World, Calls Tryd.prog 25 #[.agg #[.int .i64 P, .int .i64 D, .int .i64 L, .int .i64 bx, .int .i64 cy], .agg #[.int .i64 a.x, .int .i64 a.y]] W fun e w' => e = .returned (.bool false) ∧ Ext W w')) (w : World) :
    Calls Tryd.prog 13 #[.agg #[.int .i64 P, .int .i64 D, .int .i64 L, .int .i64 bx, .int .i64 cy], .int .i64 n, .agg #[.int .i64 a.x, .int .i64 a.y]] w fun e w' => e = .returned (.tuple #[.agg #[.int .i64 0, .int .i64 0], .bool false]) ∧ Ext w w' := by
  go_enter Tryd.func13, Tryd.ntmps13
  go_wp2_with fail
  refine (hP.out _).mono ?_
  rintro r w1 ⟨rfl, hw1⟩
  obtain ⟨B0, B1, B2, hE, hz⟩ := box3 w [.int .i64 P, .int .i64 D, .int .i64 L, .int .i64 bx, .int .i64 cy] [.int .i64 a.x, .int .i64 a.y] [.int .i64 0, .int .i64 0] 29 26 26 hw1
  clear hw1
  have k0 := (B0 0 _ rfl).1
  have k1 := (B0 1 _ rfl).1
  have k2 := (B0 2 _ rfl).1
  have k3 := (B0 3 _ rfl).1
  have k4 := (B0 4 _ rfl).1
  have f0 := (B1 0 _ rfl).1
  have f1 := (B1 1 _ rfl).1
  have d0 := (B2 0 _ rfl).1
  have d1 := (B2 1 _ rfl).1
  have z0 := (B2 0 _ rfl).2
  have z1 := (B2 1 _ rfl).2
  go_wp2
  obtain ⟨W, hW⟩ : ∃ W, putL (w.heap.size + 1 + 1) 0 [.int .i64 0, .int .i64 0] w1 = W := ⟨_, rfl⟩
  have BW := Blk.put B2 [.int .i64 0, .int .i64 0] rfl
  rw [hW] at BW
  have hF : Ext w W := hW ▸ hE.putL (by omega) _
  simp only [putL, Nat.zero_add] at hW
  simp only [hW]
  have s0 := (BW 0 _ rfl).1
  have s1 := (BW 1 _ rfl).1
  refine bodyPost_ret (v := .tuple #[.agg #[.int .i64 0, .int .i64 0], .bool false]) (by simp [results, Tryd.results13, go_sem, s0, s1]) rfl ⟨rfl, hF⟩

set_option maxHeartbeats 1600000 in
set_option maxRecDepth 100000 in
theorem sEdMul_no2 (P D L bx cy : Int) (n : Int) (a : Pr) (hP : Hid (∀ W : World, Calls Tryd.prog 25 #[.agg #[.int .i64 P, .int .i64 D, .int .i64 L, .int .i64 bx, .int .i64 cy], .agg #[.int .i64 a.x, .int .i64 a.y]] W fun e w' => e = .returned (.bool true) ∧ Ext W w')) (hI : Hid (∀ W : World, Calls Tryd.prog 32 #[.int .i64 n, .int .i64 0, .int .i64 1099511627776] W fun e w' => e = .returned (.bool false) ∧ Ext W w')) (w : World) :
    Calls Tryd.prog 13 #[.agg #[.int .i64 P, .int .i64 D, .int .i64 L, .int .i64 bx, .int .i64 cy], .int .i64 n, .agg #[.int .i64 a.x, .int .i64 a.y]] w fun e w' => e = .returned (.tuple #[.agg #[.int .i64 0, .int .i64 0], .bool false]) ∧ Ext w w' := by
  go_enter Tryd.func13, Tryd.ntmps13
  go_wp2_with fail
  refine (hP.out _).mono ?_
  rintro r w1 ⟨rfl, hw1⟩
  obtain ⟨B0, B1, B2, hE, hz⟩ := box3 w [.int .i64 P, .int .i64 D, .int .i64 L, .int .i64 bx, .int .i64 cy] [.int .i64 a.x, .int .i64 a.y] [.int .i64 0, .int .i64 0] 29 26 26 hw1
  clear hw1
  have k0 := (B0 0 _ rfl).1
  have k1 := (B0 1 _ rfl).1
  have k2 := (B0 2 _ rfl).1
  have k3 := (B0 3 _ rfl).1
  have k4 := (B0 4 _ rfl).1
  have f0 := (B1 0 _ rfl).1
  have f1 := (B1 1 _ rfl).1
  have d0 := (B2 0 _ rfl).1
  have d1 := (B2 1 _ rfl).1
  have z0 := (B2 0 _ rfl).2
  have z1 := (B2 1 _ rfl).2
  go_wp2_with fail
  refine (hI.out _).mono ?_
  rintro r w2 ⟨rfl, hw2⟩
  clear k0 k1 k2 k3 k4 f0 f1 d0 d1 z0 z1
  replace B0 := B0.ext hw2 (by omega)
  replace B1 := B1.ext hw2 (by omega)
  replace B2 := B2.ext hw2 (by omega)
  replace hE := hE.trans hw2
  replace hz : w.heap.size + 3 ≤ w2.heap.size := Nat.le_trans hz (Below.size hw2)
  clear hw2
  have k0 := (B0 0 _ rfl).1
  have k1 := (B0 1 _ rfl).1
  have k2 := (B0 2 _ rfl).1
  have k3 := (B0 3 _ rfl).1
  have k4 := (B0 4 _ rfl).1
  have f0 := (B1 0 _ rfl).1
  have f1 := (B1 1 _ rfl).1
  have d0 := (B2 0 _ rfl).1
  have d1 := (B2 1 _ rfl).1
  have z0 := (B2 0 _ rfl).2
  have z1 := (B2 1 _ rfl).2
  go_wp2
  obtain ⟨W, hW⟩ : ∃ W, putL (w.heap.size + 1 + 1) 0 [.int .i64 0, .int .i64 0] w2 = W := ⟨_, rfl⟩
  have BW := Blk.put B2 [.int .i64 0, .int .i64 0] rfl
  rw [hW] at BW
  have hF : Ext w W := hW ▸ hE.putL (by omega) _
  simp only [putL, Nat.zero_add] at hW
  simp only [hW]
  have s0 := (BW 0 _ rfl).1
  have s1 := (BW 1 _ rfl).1
  refine bodyPost_ret (v := .tuple #[.agg #[.int .i64 0, .int .i64 0], .bool false]) (by simp [results, Tryd.results13, go_sem, s0, s1]) rfl ⟨rfl, hF⟩

set_option maxHeartbeats 1600000 in
set_option maxRecDepth 100000 in
theorem sEdCof_yes (P D L bx cy : Int) (a r : Pr) (hP : Hid (∀ W : World, Calls Tryd.prog 25 #[.agg #[.int .i64 P, .int .i64 D, .int .i64 L, .int .i64 bx, .int .i64 cy], .agg #[.int .i64 a.x, .int .i64 a.y]] W fun e w' => e = .returned (.bool true) ∧ Ext W w')) (hM : Hid (∀ W : World, Calls Tryd.prog 33 #[.agg #[.int .i64 P, .int .i64 D, .int .i64 L, .int .i64 bx, .int .i64 cy], .int .i64 8, .agg #[.int .i64 a.x, .int .i64 a.y]] W fun e w' => e = .returned (.agg #[.int .i64 r.x, .int .i64 r.y]) ∧ Ext W w')) (w : World) :
    Calls Tryd.prog 23 #[.agg #[.int .i64 P, .int .i64 D, .int .i64 L, .int .i64 bx, .int .i64 cy], .agg #[.int .i64 a.x, .int .i64 a.y]] w fun e w' => e = .returned (.tuple #[.agg #[.int .i64 r.x, .int .i64 r.y], .bool true]) ∧ Ext w w' := by
  go_enter Tryd.func23, Tryd.ntmps23
  go_wp2_with fail
  refine (hP.out _).mono ?_
  rintro r w1 ⟨rfl, hw1⟩
  obtain ⟨B0, B1, B2, hE, hz⟩ := box3 w [.int .i64 P, .int .i64 D, .int .i64 L, .int .i64 bx, .int .i64 cy] [.int .i64 a.x, .int .i64 a.y] [.int .i64 0, .int .i64 0] 29 26 26 hw1
  clear hw1
  have k0 := (B0 0 _ rfl).1
  have k1 := (B0 1 _ rfl).1
  have k2 := (B0 2 _ rfl).1
  have k3 := (B0 3 _ rfl).1
  have k4 := (B0 4 _ rfl).1
  have f0 := (B1 0 _ rfl).1
  have f1 := (B1 1 _ rfl).1
  have d0 := (B2 0 _ rfl).1
  have d1 := (B2 1 _ rfl).1
  have z0 := (B2 0 _ rfl).2
  have z1 := (B2 1 _ rfl).2
  go_wp2_with fail
  refine (hM.out _).mono ?_
  rintro r w2 ⟨rfl, hw2⟩
  clear k0 k1 k2 k3 k4 f0 f1 d0 d1 z0 z1
  replace B0 := B0.ext hw2 (by omega)
  replace B1 := B1.ext hw2 (by omega)
  replace B2 := B2.ext hw2 (by omega)
  replace hE := hE.trans hw2
  replace hz : w.heap.size + 3 ≤ w2.heap.size := Nat.le_trans hz (Below.size hw2)
  clear hw2
  have k0 := (B0 0 _ rfl).1
  have k1 := (B0 1 _ rfl).1
  have k2 := (B0 2 _ rfl).1
  have k3 := (B0 3 _ rfl).1
  have k4 := (B0 4 _ rfl).1
  have f0 := (B1 0 _ rfl).1
  have f1 := (B1 1 _ rfl).1
  have d0 := (B2 0 _ rfl).1
  have d1 := (B2 1 _ rfl).1
  have z0 := (B2 0 _ rfl).2
  have z1 := (B2 1 _ rfl).2
  go_wp2
  obtain ⟨W, hW⟩ : ∃ W, putL (w.heap.size + 1 + 1) 0 [.int .i64 r.x, .int .i64 r.y] w2 = W := ⟨_, rfl⟩
  have BW := Blk.put B2 [.int .i64 r.x, .int .i64 r.y] rfl
  rw [hW] at BW
  have hF : Ext w W := hW ▸ hE.putL (by omega) _
  simp only [putL, Nat.zero_add] at hW
  simp only [hW]
  have s0 := (BW 0 _ rfl).1
  have s1 := (BW 1 _ rfl).1
  refine bodyPost_ret (v := .tuple #[.agg #[.int .i64 r.x, .int .i64 r.y], .bool true]) (by simp [results, Tryd.results23, go_sem, s0, s1]) rfl ⟨rfl, hF⟩

set_option maxHeartbeats 1600000 in
set_option maxRecDepth 100000 in
theorem sEdCof_no (P D L bx cy : Int) (a : Pr) (hP : Hid (∀ W : World, Calls Tryd.prog 25 #[.agg #[.int .i64 P, .int .i64 D, .int .i64 L, .int .i64 bx, .int .i64 cy], .agg #[.int .i64 a.x, .int .i64 a.y]] W fun e w' => e = .returned (.bool false) ∧ Ext W w')) (w : World) :
    Calls Tryd.prog 23 #[.agg #[.int .i64 P, .int .i64 D, .int .i64 L, .int .i64 bx, .int .i64 cy], .agg #[.int .i64 a.x, .int .i64 a.y]] w fun e w' => e = .returned (.tuple #[.agg #[.int .i64 0, .int .i64 0], .bool false]) ∧ Ext w w' := by
  go_enter Tryd.func23, Tryd.ntmps23
  go_wp2_with fail
  refine (hP.out _).mono ?_
  rintro r w1 ⟨rfl, hw1⟩
  obtain ⟨B0, B1, B2, hE, hz⟩ := box3 w [.int .i64 P, .int .i64 D, .int .i64 L, .int .i64 bx, .int .i64 cy] [.int .i64 a.x, .int .i64 a.y] [.int .i64 0, .int .i64 0] 29 26 26 hw1
  clear hw1
  have k0 := (B0 0 _ rfl).1
  have k1 := (B0 1 _ rfl).1
  have k2 := (B0 2 _ rfl).1
  have k3 := (B0 3 _ rfl).1
  have k4 := (B0 4 _ rfl).1
  have f0 := (B1 0 _ rfl).1
  have f1 := (B1 1 _ rfl).1
  have d0 := (B2 0 _ rfl).1
  have d1 := (B2 1 _ rfl).1
  have z0 := (B2 0 _ rfl).2
  have z1 := (B2 1 _ rfl).2
  go_wp2
  obtain ⟨W, hW⟩ : ∃ W, putL (w.heap.size + 1 + 1) 0 [.int .i64 0, .int .i64 0] w1 = W := ⟨_, rfl⟩
  have BW := Blk.put B2 [.int .i64 0, .int .i64 0] rfl
  rw [hW] at BW
  have hF : Ext w W := hW ▸ hE.putL (by omega) _
  simp only [putL, Nat.zero_add] at hW
  simp only [hW]
  have s0 := (BW 0 _ rfl).1
  have s1 := (BW 1 _ rfl).1
  refine bodyPost_ret (v := .tuple #[.agg #[.int .i64 0, .int .i64 0], .bool false]) (by simp [results, Tryd.results23, go_sem, s0, s1]) rfl ⟨rfl, hF⟩

set_option maxHeartbeats 1600000 in
theorem sPairOk_yes (P D L bx cy : Int) (a : Pr) (hE' : Hid (∀ W : World, Calls Tryd.prog 40 #[.agg #[.int .i64 P, .int .i64 D, .int .i64 L, .int .i64 bx, .int .i64 cy]] W fun e w' => e = .returned (.bool true) ∧ Ext W w')) (hO : Hid (∀ W : World, Calls Tryd.prog 26 #[.agg #[.int .i64 P, .int .i64 D, .int .i64 L, .int .i64 bx, .int .i64 cy], .agg #[.int .i64 a.x, .int .i64 a.y]] W fun e w' => e = .returned (.bool true) ∧ Ext W w')) (w : World) :
    Calls Tryd.prog 25 #[.agg #[.int .i64 P, .int .i64 D, .int .i64 L, .int .i64 bx, .int .i64 cy], .agg #[.int .i64 a.x, .int .i64 a.y]] w fun e w' => e = .returned (.bool true) ∧ Ext w w' := by
  go_enter Tryd.func25, Tryd.ntmps25
  go_wp2_with fail
  refine (hE'.out _).mono ?_
  rintro r w1 ⟨rfl, hw1⟩
  obtain ⟨B0, B1, hE, hz⟩ := box2 w [.int .i64 P, .int .i64 D, .int .i64 L, .int .i64 bx, .int .i64 cy] [.int .i64 a.x, .int .i64 a.y] 29 26 hw1
  clear hw1
  have k0 := (B0 0 _ rfl).1
  have k1 := (B0 1 _ rfl).1
  have k2 := (B0 2 _ rfl).1
  have k3 := (B0 3 _ rfl).1
  have k4 := (B0 4 _ rfl).1
  have f0 := (B1 0 _ rfl).1
  have f1 := (B1 1 _ rfl).1
  go_wp2_with fail
  refine (hO.out _).mono ?_
  rintro r w2 ⟨rfl, hw2⟩
  replace hE := hE.trans hw2
  clear hw2
  go_wp2
  go_ret
  exact ⟨rfl, hE⟩

set_option maxHeartbeats 1600000 in
theorem sPairOk_no1 (P D L bx cy : Int) (a : Pr) (hE' : Hid (∀ W : World, Calls Tryd.prog 40 #[.agg #[.int .i64 P, .int .i64 D, .int .i64 L, .int .i64 bx, .int .i64 cy]] W fun e w' => e = .returned (.bool false) ∧ Ext W w')) (w : World) :
    Calls Tryd.prog 25 #[.agg #[.int .i64 P, .int .i64 D, .int .i64 L, .int .i64 bx, .int .i64 cy], .agg #[.int .i64 a.x, .int .i64 a.y]] w fun e w' => e = .returned (.bool false) ∧ Ext w w' := by
  go_enter Tryd.func25, Tryd.ntmps25
  go_wp2_with fail
  refine (hE'.out _).mono ?_
  rintro r w1 ⟨rfl, hw1⟩
  obtain ⟨B0, B1, hE, hz⟩ := box2 w [.int .i64 P, .int .i64 D, .int .i64 L, .int .i64 bx, .int .i64 cy] [.int .i64 a.x, .int .i64 a.y] 29 26 hw1
  clear hw1
  have k0 := (B0 0 _ rfl).1
  have k1 := (B0 1 _ rfl).1
  have k2 := (B0 2 _ rfl).1
  have k3 := (B0 3 _ rfl).1
  have k4 := (B0 4 _ rfl).1
  have f0 := (B1 0 _ rfl).1
  have f1 := (B1 1 _ rfl).1
  go_wp2
  go_ret
  exact ⟨rfl, hE⟩

set_option maxHeartbeats 1600000 in
theorem sPairOk_no2 (P D L bx cy : Int) (a : Pr) (hE' : Hid (∀ W : World, Calls Tryd.prog 40 #[.agg #[.int .i64 P, .int .i64 D, .int .i64 L, .int .i64 bx, .int .i64 cy]] W fun e w' => e = .returned (.bool true) ∧ Ext W w')) (hO : Hid (∀ W : World, Calls Tryd.prog 26 #[.agg #[.int .i64 P, .int .i64 D, .int .i64 L, .int .i64 bx, .int .i64 cy], .agg #[.int .i64 a.x, .int .i64 a.y]] W fun e w' => e = .returned (.bool false) ∧ Ext W w')) (w : World) :
    Calls Tryd.prog 25 #[.agg #[.int .i64 P, .int .i64 D, .int .i64 L, .int .i64 bx, .int .i64 cy], .agg #[.int .i64 a.x, .int .i64 a.y]] w fun e w' => e = .returned (.bool false) ∧ Ext w w' := by
  go_enter Tryd.func25, Tryd.ntmps25
  go_wp2_with fail
  refine (hE'.out _).mono ?_
  rintro r w1 ⟨rfl, hw1⟩
  obtain ⟨B0, B1, hE, hz⟩ := box2 w [.int .i64 P, .int .i64 D, .int .i64 L, .int .i64 bx, .int .i64 cy] [.int .i64 a.x, .int .i64 a.y] 29 26 hw1
  clear hw1
  have k0 := (B0 0 _ rfl).1
  have k1 := (B0 1 _ rfl).1
  have k2 := (B0 2 _ rfl).1
  have k3 := (B0 3 _ rfl).1
  have k4 := (B0 4 _ rfl).1
  have f0 := (B1 0 _ rfl).1
  have f1 := (B1 1 _ rfl).1
  go_wp2_with fail
  refine (hO.out _).mono ?_
  rintro r w2 ⟨rfl, hw2⟩
  replace hE := hE.trans hw2
  clear hw2
  go_wp2
  go_ret
  exact ⟨rfl, hE⟩

theorem specEdOk_at (P D L bx cy : Int) (hP1 : P ≤ 9223372036854775807) (hL1 : L ≤ 9223372036854775807) (ok : Bool) (hk : ok = true ↔ EvOk P D L bx cy) (w : World) : Calls Tryd.prog 40 #[.agg #[.int .i64 P, .int .i64 D, .int .i64 L, .int .i64 bx, .int .i64 cy]] w fun r w' => r = .returned (.bool ok) ∧ Ext w w' := by
  have no : ¬ EvOk P D L bx cy → (∀ w : World, Calls Tryd.prog 40 #[.agg #[.int .i64 P, .int .i64 D, .int .i64 L, .int .i64 bx, .int .i64 cy]] w fun r w' => r = .returned (.bool false) ∧ Ext w w') → Calls Tryd.prog 40 #[.agg #[.int .i64 P, .int .i64 D, .int .i64 L, .int .i64 bx, .int .i64 cy]] w fun r w' => r = .returned (.bool ok) ∧ Ext w w' := fun h c => by
    have e : ok = false := by cases ok; rfl; exact absurd (hk.1 rfl) h
    rw [e]; exact c w
  by_cases c0 : 13 ≤ P ∧ P ≤ 1048576
  rotate_left
  · exact no (fun h => c0 ⟨h.p13, h.pM⟩) (specEdOk_no0 P D L bx cy hP1 hL1 c0)
  obtain ⟨p, rfl⟩ := Int.eq_ofNat_of_zero_le (show 0 ≤ P by omega)
  have a1 : (p : Int) ≤ 9223372036854775807 := by omega
  have a2 : 0 ≤ (p : Int) := by omega
  by_cases c1 : (p : Int) % 8 = 5
  rotate_left
  · exact no (fun h => c1 h.p8) (specEdOk_no1 p D L bx cy a1 a2 hL1 c0 c1)
  by_cases c2 : Prime p
  rotate_left
  · exact no (fun h => c2 (by simpa using h.pp)) (specEdOk_no2 p D L bx cy a1 a2 hL1 c0 c1 c2)
  by_cases c3 : 2 ≤ D ∧ D ≤ (p : Int) - 1
  rotate_left
  · exact no (fun h => c3 ⟨h.d2, h.d1⟩) (specEdOk_no3 p D L bx cy a1 a2 hL1 c0 c1 c2 c3)
  by_cases c4 : D.toNat ^ ((p - 1) / 2) % p = p - 1
  rotate_left
  · exact no (fun h => c4 (by simpa using h.pw)) (specEdOk_no4 p D L bx cy a1 a2 hL1 c0 c1 c2 c3 c4)
  by_cases c5 : 5 ≤ L ∧ L ≤ 2097152
  rotate_left
  · exact no (fun h => c5 ⟨h.l5, h.lM⟩) (specEdOk_no5 p D L bx cy a1 a2 hL1 c0 c1 c2 c3 c4 c5)
  by_cases c6 : Prime L.toNat
  rotate_left
  · exact no (fun h => c6 h.lp) (specEdOk_no6 p D L bx cy a1 a2 hL1 c0 c1 c2 c3 c4 c5 c6)
  by_cases ho : OnE p D ⟨bx, cy⟩
  rotate_left
  · exact no (fun h => ho (by simpa using h.on)) (specEdOk_off p D L bx cy a1 a2 hL1 c0 c1 c2 c3 c4 c5 c6 ho)
  by_cases hn : bx = 0 ∧ cy = 1
  · exact no (fun h => h.ne hn) (specEdOk_unit p D L bx cy a1 a2 hL1 c0 c1 c2 c3 c4 c5 c6 ho hn)
  by_cases hm : mulE p D L.toNat ⟨bx, cy⟩ = oneE
  rotate_left
  · exact no (fun h => hm (by simpa using h.fold)) (specEdOk_other p D L bx cy a1 a2 hL1 c0 c1 c2 c3 c4 c5 c6 ho hn hm)
  have e : ok = true := hk.2 ⟨c0.1, c0.2, c1, by simpa using c2, c3.1, c3.2, by simpa using c4, c5.1, c5.2, c6, by simpa using ho, hn, by simpa using hm⟩
  rw [e]
  exact specEdOk_yes p D L bx cy a1 a2 hL1 c0 c1 c2 c3 c4 c5 c6 ho hn hm w

theorem l4On_ok {P D L bx cy : Int} (h : EvOk P D L bx cy) (a : Pr) (ok : Bool) (hk : ok = true ↔ OnE P.toNat D a) (w : World) : Calls Tryd.prog 26 #[.agg #[.int .i64 P, .int .i64 D, .int .i64 L, .int .i64 bx, .int .i64 cy], .agg #[.int .i64 a.x, .int .i64 a.y]] w fun r w' => r = .returned (.bool ok) ∧ Ext w w' := by
  have h13 := h.p13; have hM := h.pM; have h2 := h.d2; have h1 := h.d1
  have := l4On_at P.toNat D L bx cy a ok hk (by omega) (by omega) (by omega) (by omega) w
  rwa [h.nat] at this

theorem specPairOk_at (P D L bx cy : Int) (a : Pr) (hP1 : P ≤ 9223372036854775807) (hL1 : L ≤ 9223372036854775807) (ok : Bool) (hk : ok = true ↔ EvOk P D L bx cy ∧ OnE P.toNat D a) (w : World) : Calls Tryd.prog 25 #[.agg #[.int .i64 P, .int .i64 D, .int .i64 L, .int .i64 bx, .int .i64 cy], .agg #[.int .i64 a.x, .int .i64 a.y]] w fun r w' => r = .returned (.bool ok) ∧ Ext w w' := by
  by_cases h : EvOk P D L bx cy
  · have hE := specEdOk_at P D L bx cy hP1 hL1 true ⟨fun _ => h, fun _ => rfl⟩
    by_cases ha : OnE P.toNat D a
    · rw [hk.2 ⟨h, ha⟩]
      exact sPairOk_yes P D L bx cy a hE (l4On_ok h a true ⟨fun _ => ha, fun _ => rfl⟩) w
    · have e : ok = false := by cases ok; rfl; exact absurd (hk.1 rfl).2 ha
      rw [e]
      exact sPairOk_no2 P D L bx cy a hE (l4On_ok h a false ⟨fun k => by simp at k, fun k => absurd k ha⟩) w
  · have e : ok = false := by cases ok; rfl; exact absurd (hk.1 rfl).1 h
    rw [e]
    exact sPairOk_no1 P D L bx cy a (specEdOk_at P D L bx cy hP1 hL1 false ⟨fun k => by simp at k, fun k => absurd k h⟩) w

theorem l4Mul_ok {P D L bx cy : Int} (h : EvOk P D L bx cy) {a : Pr} (ha : OnE P.toNat D a) {n : Int} (n0 : 0 ≤ n) (n1 : n ≤ 1099511627776) (w : World) : Calls Tryd.prog 33 #[.agg #[.int .i64 P, .int .i64 D, .int .i64 L, .int .i64 bx, .int .i64 cy], .int .i64 n, .agg #[.int .i64 a.x, .int .i64 a.y]] w fun r w' => r = .returned (.agg #[.int .i64 (mulE P.toNat D n.toNat a).x, .int .i64 (mulE P.toNat D n.toNat a).y]) ∧ Ext w w' := by
  have h13 := h.p13; have hM := h.pM; have h2 := h.d2; have h1 := h.d1
  have := l4Mul_any P.toNat D L bx cy n.toNat a w h.pp (by omega) (by omega) (by omega) (by omega) ha.inE (by omega)
  rwa [h.nat, show ((n.toNat : Nat) : Int) = n by omega] at this

theorem l4Add_ok {P D L bx cy : Int} (h : EvOk P D L bx cy) {a b : Pr} (ha : OnE P.toNat D a) (hb : OnE P.toNat D b) (w : World) : Calls Tryd.prog 27 #[.agg #[.int .i64 P, .int .i64 D, .int .i64 L, .int .i64 bx, .int .i64 cy], .agg #[.int .i64 a.x, .int .i64 a.y], .agg #[.int .i64 b.x, .int .i64 b.y]] w fun r w' => r = .returned (.agg #[.int .i64 (addE P.toNat D a b).x, .int .i64 (addE P.toNat D a b).y]) ∧ Ext w w' := by
  have h13 := h.p13; have hM := h.pM; have h2 := h.d2; have h1 := h.d1
  have := l4Add_any P.toNat D L bx cy a b w h.pp (by omega) (by omega) (by omega) (by omega) ha.inE hb.inE
  rwa [h.nat] at this

def AddE (P D L bx cy : Int) (a b : Pr) : Prop := EvOk P D L bx cy ∧ OnE P.toNat D a ∧ OnE P.toNat D b

theorem specEdAdd_yes {P D L bx cy : Int} {a b : Pr} (h : AddE P D L bx cy a b) (w : World) : Calls Tryd.prog 8 #[.agg #[.int .i64 P, .int .i64 D, .int .i64 L, .int .i64 bx, .int .i64 cy], .agg #[.int .i64 a.x, .int .i64 a.y], .agg #[.int .i64 b.x, .int .i64 b.y]] w fun r w' => r = .returned (.tuple #[.agg #[.int .i64 (addE P.toNat D a b).x, .int .i64 (addE P.toNat D a b).y], .bool true]) ∧ Ext w w' :=
  sEdAdd_yes P D L bx cy a b _ (specPairOk_at P D L bx cy a h.1.p63 h.1.l63 true ⟨fun _ => ⟨h.1, h.2.1⟩, fun _ => rfl⟩) (l4On_ok h.1 b true ⟨fun _ => h.2.2, fun _ => rfl⟩) (l4Add_ok h.1 h.2.1 h.2.2) w

theorem specEdAdd_no (P D L bx cy : Int) (a b : Pr) (hP1 : P ≤ 9223372036854775807) (hL1 : L ≤ 9223372036854775807) (h : ¬ AddE P D L bx cy a b) (w : World) : Calls Tryd.prog 8 #[.agg #[.int .i64 P, .int .i64 D, .int .i64 L, .int .i64 bx, .int .i64 cy], .agg #[.int .i64 a.x, .int .i64 a.y], .agg #[.int .i64 b.x, .int .i64 b.y]] w fun r w' => r = .returned (.tuple #[.agg #[.int .i64 0, .int .i64 0], .bool false]) ∧ Ext w w' := by
  by_cases ha : EvOk P D L bx cy ∧ OnE P.toNat D a
  · exact sEdAdd_no2 P D L bx cy a b (specPairOk_at P D L bx cy a hP1 hL1 true ⟨fun _ => ha, fun _ => rfl⟩) (l4On_ok ha.1 b false ⟨fun k => by simp at k, fun k => absurd ⟨ha.1, ha.2, k⟩ h⟩) w
  · exact sEdAdd_no1 P D L bx cy a b (specPairOk_at P D L bx cy a hP1 hL1 false ⟨fun k => by simp at k, fun k => absurd k ha⟩) w

def MulEQ (P D L bx cy n : Int) (a : Pr) : Prop := (EvOk P D L bx cy ∧ OnE P.toNat D a) ∧ 0 ≤ n ∧ n ≤ 1099511627776

theorem specEdMul_yes {P D L bx cy n : Int} {a : Pr} (h : MulEQ P D L bx cy n a) (w : World) : Calls Tryd.prog 13 #[.agg #[.int .i64 P, .int .i64 D, .int .i64 L, .int .i64 bx, .int .i64 cy], .int .i64 n, .agg #[.int .i64 a.x, .int .i64 a.y]] w fun r w' => r = .returned (.tuple #[.agg #[.int .i64 (mulE P.toNat D n.toNat a).x, .int .i64 (mulE P.toNat D n.toNat a).y], .bool true]) ∧ Ext w w' :=
  sEdMul_yes P D L bx cy n a _ (specPairOk_at P D L bx cy a h.1.1.p63 h.1.1.l63 true ⟨fun _ => h.1, fun _ => rfl⟩) (fun W => l1In_ext n 0 1099511627776 true W (by have := h.2.1; have := h.2.2; simp; omega)) (l4Mul_ok h.1.1 h.1.2 h.2.1 h.2.2) w

theorem specEdMul_no (P D L bx cy n : Int) (a : Pr) (hP1 : P ≤ 9223372036854775807) (hL1 : L ≤ 9223372036854775807) (h : ¬ MulEQ P D L bx cy n a) (w : World) : Calls Tryd.prog 13 #[.agg #[.int .i64 P, .int .i64 D, .int .i64 L, .int .i64 bx, .int .i64 cy], .int .i64 n, .agg #[.int .i64 a.x, .int .i64 a.y]] w fun r w' => r = .returned (.tuple #[.agg #[.int .i64 0, .int .i64 0], .bool false]) ∧ Ext w w' := by
  by_cases ha : EvOk P D L bx cy ∧ OnE P.toNat D a
  · have hn : ¬ (0 ≤ n ∧ n ≤ 1099511627776) := fun k => h ⟨ha, k⟩
    exact sEdMul_no2 P D L bx cy n a (specPairOk_at P D L bx cy a hP1 hL1 true ⟨fun _ => ha, fun _ => rfl⟩) (fun W => l1In_ext n 0 1099511627776 false W (by simp; omega)) w
  · exact sEdMul_no1 P D L bx cy n a (specPairOk_at P D L bx cy a hP1 hL1 false ⟨fun k => by simp at k, fun k => absurd k ha⟩) w

theorem specEdCof_yes {P D L bx cy : Int} {a : Pr} (h : EvOk P D L bx cy ∧ OnE P.toNat D a) (w : World) : Calls Tryd.prog 23 #[.agg #[.int .i64 P, .int .i64 D, .int .i64 L, .int .i64 bx, .int .i64 cy], .agg #[.int .i64 a.x, .int .i64 a.y]] w fun r w' => r = .returned (.tuple #[.agg #[.int .i64 (mulE P.toNat D 8 a).x, .int .i64 (mulE P.toNat D 8 a).y], .bool true]) ∧ Ext w w' :=
  sEdCof_yes P D L bx cy a _ (specPairOk_at P D L bx cy a h.1.p63 h.1.l63 true ⟨fun _ => h, fun _ => rfl⟩) (l4Mul_ok h.1 h.2 (n := 8) (by omega) (by omega)) w

theorem specEdCof_no (P D L bx cy : Int) (a : Pr) (hP1 : P ≤ 9223372036854775807) (hL1 : L ≤ 9223372036854775807) (h : ¬ (EvOk P D L bx cy ∧ OnE P.toNat D a)) (w : World) : Calls Tryd.prog 23 #[.agg #[.int .i64 P, .int .i64 D, .int .i64 L, .int .i64 bx, .int .i64 cy], .agg #[.int .i64 a.x, .int .i64 a.y]] w fun r w' => r = .returned (.tuple #[.agg #[.int .i64 0, .int .i64 0], .bool false]) ∧ Ext w w' :=
  sEdCof_no P D L bx cy a (specPairOk_at P D L bx cy a hP1 hL1 false ⟨fun k => by simp at k, fun k => absurd k h⟩) w

end Go.Proofs.YtejlgcnhfomadacDoor
