/- Walks: the model's PairOk, EdAdd, EdMul, EdCofactor. -/
import Derived.Test.YtejlgcnhfomadacDoorEdW
namespace Go.Proofs.YtejlgcnhfomadacDoor
set_option linter.unusedVariables false
open Go.RowKit

set_option maxHeartbeats 1600000 in
set_option maxRecDepth 100000 in
theorem sEdAdd_yes (P D L bx cy : Int) (a b r : Pr) (hP : Hid (∀ W : World, Calls Tryd.prog 25 #[.agg #[.int .i64 P, .int .i64 D, .int .i64 L, .int .i64 bx, .int .i64 cy], .agg #[.int .i64 a.x, .int .i64 a.y]] W fun e w' => e = .returned (.bool true) ∧ Ext W w')) (hO : Hid (∀ W : World, Calls Tryd.prog 26 #[.agg #[.int .i64 P, .int .i64 D, .int .i64 L, .int .i64 bx, .int .i64 cy], .agg #[.int .i64 b.x, .int .i64 b.y]] W fun e w' => e = .returned (.bool true) ∧ Ext W w')) (hA : Hid (∀ W : World, Calls Tryd.prog 27 #[.agg #[.int .i64 P, .int .i64 D, .int .i64 L, .int .i64 bx, .int .i64 cy], .agg #[.int .i64 a.x, .int .i64 a.y], .agg #[.int .i64 b.x, .int .i64 b.y]] W fun e w' => e = .returned (.agg #[.int .i64 r.x, .int .i64 r.y]) ∧ Ext W w')) (w : World) :
    Calls Tryd.prog 8 #[.agg #[.int .i64 P, .int .i64 D, .int .i64 L, .int .i64 bx, .int .i64 cy], .agg #[.int .i64 a.x, .int .i64 a.y], .agg #[.int .i64 b.x, .int .i64 b.y]] w fun e w' => e = .returned (.tuple #[.agg #[.int .i64 r.x, .int .i64 r.y], .bool true]) ∧ Ext w w' := by
  go_enter Tryd.func8, Tryd.ntmps8
  go_wp2_with fail
  refine (hP.out _).mono ?_
  rintro r w1 ⟨rfl, hw1⟩
  obtain ⟨B0, B1, B2, B3, hE, hz⟩ := box4 w [.int .i64 P, .int .i64 D, .int .i64 L, .int .i64 bx, .int .i64 cy] [.int .i64 a.x, .int .i64 a.y] [.int .i64 b.x, .int .i64 b.y] [.int .i64 0, .int .i64 0] 29 26 26 26 hw1
  clear hw1
  have k0 := (B0 0 _ rfl).1
  have k1 := (B0 1 _ rfl).1
  have k2 := (B0 2 _ rfl).1
  have k3 := (B0 3 _ rfl).1
  have k4 := (B0 4 _ rfl).1
  have f0 := (B1 0 _ rfl).1
  have f1 := (B1 1 _ rfl).1
  have g0 := (B2 0 _ rfl).1
  have g1 := (B2 1 _ rfl).1
  have d0 := (B3 0 _ rfl).1
  have d1 := (B3 1 _ rfl).1
  have z0 := (B3 0 _ rfl).2
  have z1 := (B3 1 _ rfl).2
  go_wp2_with fail
  refine (hO.out _).mono ?_
  rintro r w2 ⟨rfl, hw2⟩
  clear k0 k1 k2 k3 k4 f0 f1 g0 g1 d0 d1 z0 z1
  replace B0 := B0.ext hw2 (by omega)
  replace B1 := B1.ext hw2 (by omega)
  replace B2 := B2.ext hw2 (by omega)
  replace B3 := B3.ext hw2 (by omega)
  replace hE := hE.trans hw2
  replace hz : w.heap.size + 4 ≤ w2.heap.size := Nat.le_trans hz (Below.size hw2)
  clear hw2
  have k0 := (B0 0 _ rfl).1
  have k1 := (B0 1 _ rfl).1
  have k2 := (B0 2 _ rfl).1
  have k3 := (B0 3 _ rfl).1
  have k4 := (B0 4 _ rfl).1
  have f0 := (B1 0 _ rfl).1
  have f1 := (B1 1 _ rfl).1
  have g0 := (B2 0 _ rfl).1
  have g1 := (B2 1 _ rfl).1
  have d0 := (B3 0 _ rfl).1
  have d1 := (B3 1 _ rfl).1
  have z0 := (B3 0 _ rfl).2
  have z1 := (B3 1 _ rfl).2
  go_wp2_with fail
  refine (hA.out _).mono ?_
  rintro r w3 ⟨rfl, hw3⟩
  clear k0 k1 k2 k3 k4 f0 f1 g0 g1 d0 d1 z0 z1
  replace B0 := B0.ext hw3 (by omega)
  replace B1 := B1.ext hw3 (by omega)
  replace B2 := B2.ext hw3 (by omega)
  replace B3 := B3.ext hw3 (by omega)
  replace hE := hE.trans hw3
  replace hz : w.heap.size + 4 ≤ w3.heap.size := Nat.le_trans hz (Below.size hw3)
  clear hw3
  have k0 := (B0 0 _ rfl).1
  have k1 := (B0 1 _ rfl).1
  have k2 := (B0 2 _ rfl).1
  have k3 := (B0 3 _ rfl).1
  have k4 := (B0 4 _ rfl).1
  have f0 := (B1 0 _ rfl).1
  have f1 := (B1 1 _ rfl).1
  have g0 := (B2 0 _ rfl).1
  have g1 := (B2 1 _ rfl).1
  have d0 := (B3 0 _ rfl).1
  have d1 := (B3 1 _ rfl).1
  have z0 := (B3 0 _ rfl).2
  have z1 := (B3 1 _ rfl).2
  go_wp2
  obtain ⟨W, hW⟩ : ∃ W, putL (w.heap.size + 1 + 1 + 1) 0 [.int .i64 r.x, .int .i64 r.y] w3 = W := ⟨_, rfl⟩
  have BW := Blk.put B3 [.int .i64 r.x, .int .i64 r.y] rfl
  rw [hW] at BW
  have hF : Ext w W := hW ▸ hE.putL (by omega) _
  simp only [putL, Nat.zero_add] at hW
  simp only [hW]
  have s0 := (BW 0 _ rfl).1
  have s1 := (BW 1 _ rfl).1
  refine bodyPost_ret (v := .tuple #[.agg #[.int .i64 r.x, .int .i64 r.y], .bool true]) (by simp [results, Tryd.results8, go_sem, s0, s1]) rfl ⟨rfl, hF⟩

set_option maxHeartbeats 1600000 in
set_option maxRecDepth 100000 in
theorem sEdAdd_no1 (P D L bx cy : Int) (a b : Pr) (hP : Hid (∀ W : World, Calls Tryd.prog 25 #[.agg #[.int .i64 P, .int .i64 D, .int .i64 L, .int .i64 bx, .int .i64 cy], .agg #[.int .i64 a.x, .int .i64 a.y]] W fun e w' => e = .returned (.bool false) ∧ Ext W w')) (w : World) :
    Calls Tryd.prog 8 #[.agg #[.int .i64 P, .int .i64 D, .int .i64 L, .int .i64 bx, .int .i64 cy], .agg #[.int .i64 a.x, .int .i64 a.y], .agg #[.int .i64 b.x, .int .i64 b.y]] w fun e w' => e = .returned (.tuple #[.agg #[.int .i64 0, .int .i64 0], .bool false]) ∧ Ext w w' := by
  go_enter Tryd.func8, Tryd.ntmps8
  go_wp2_with fail
  refine (hP.out _).mono ?_
  rintro r w1 ⟨rfl, hw1⟩
  obtain ⟨B0, B1, B2, B3, hE, hz⟩ := box4 w [.int .i64 P, .int .i64 D, .int .i64 L, .int .i64 bx, .int .i64 cy] [.int .i64 a.x, .int .i64 a.y] [.int .i64 b.x, .int .i64 b.y] [.int .i64 0, .int .i64 0] 29 26 26 26 hw1
  clear hw1
  have k0 := (B0 0 _ rfl).1
  have k1 := (B0 1 _ rfl).1
  have k2 := (B0 2 _ rfl).1
  have k3 := (B0 3 _ rfl).1
  have k4 := (B0 4 _ rfl).1
  have f0 := (B1 0 _ rfl).1
  have f1 := (B1 1 _ rfl).1
  have g0 := (B2 0 _ rfl).1
  have g1 := (B2 1 _ rfl).1
  have d0 := (B3 0 _ rfl).1
  have d1 := (B3 1 _ rfl).1
  have z0 := (B3 0 _ rfl).2
  have z1 := (B3 1 _ rfl).2
  go_wp2
  obtain ⟨W, hW⟩ : ∃ W, putL (w.heap.size + 1 + 1 + 1) 0 [.int .i64 0, .int .i64 0] w1 = W := ⟨_, rfl⟩
  have BW := Blk.put B3 [.int .i64 0, .int .i64 0] rfl
  rw [hW] at BW
  have hF : Ext w W := hW ▸ hE.putL (by omega) _
  simp only [putL, Nat.zero_add] at hW
  simp only [hW]
  have s0 := (BW 0 _ rfl).1
  have s1 := (BW 1 _ rfl).1
  refine bodyPost_ret (v := .tuple #[.agg #[.int .i64 0, .int .i64 0], .bool false]) (by simp [results, Tryd.results8, go_sem, s0, s1]) rfl ⟨rfl, hF⟩

set_option maxHeartbeats 1600000 in
set_option maxRecDepth 100000 in
theorem sEdAdd_no2 (P D L bx cy : Int) (a b : Pr) (hP : Hid (∀ W : World, Calls Tryd.prog 25 #[.agg #[.int .i64 P, .int .i64 D, .int .i64 L, .int .i64 bx, .int .i64 cy], .agg #[.int .i64 a.x, .int .i64 a.y]] W fun e w' => e = .returned (.bool true) ∧ Ext W w')) (hO : Hid (∀ W : World, Calls Tryd.prog 26 #[.agg #[.int .i64 P, .int .i64 D, .int .i64 L, .int .i64 bx, .int .i64 cy], .agg #[.int .i64 b.x, .int .i64 b.y]] W fun e w' => e = .returned (.bool false) ∧ Ext W w')) (w : World) :
    Calls Tryd.prog 8 #[.agg #[.int .i64 P, .int .i64 D, .int .i64 L, .int .i64 bx, .int .i64 cy], .agg #[.int .i64 a.x, .int .i64 a.y], .agg #[.int .i64 b.x, .int .i64 b.y]] w fun e w' => e = .returned (.tuple #[.agg #[.int .i64 0, .int .i64 0], .bool false]) ∧ Ext w w' := by
  go_enter Tryd.func8, Tryd.ntmps8
  go_wp2_with fail
  refine (hP.out _).mono ?_
  rintro r w1 ⟨rfl, hw1⟩
  obtain ⟨B0, B1, B2, B3, hE, hz⟩ := box4 w [.int .i64 P, .int .i64 D, .int .i64 L, .int .i64 bx, .int .i64 cy] [.int .i64 a.x, .int .i64 a.y] [.int .i64 b.x, .int .i64 b.y] [.int .i64 0, .int .i64 0] 29 26 26 26 hw1
  clear hw1
  have k0 := (B0 0 _ rfl).1
  have k1 := (B0 1 _ rfl).1
  have k2 := (B0 2 _ rfl).1
  have k3 := (B0 3 _ rfl).1
  have k4 := (B0 4 _ rfl).1
  have f0 := (B1 0 _ rfl).1
  have f1 := (B1 1 _ rfl).1
  have g0 := (B2 0 _ rfl).1
  have g1 := (B2 1 _ rfl).1
  have d0 := (B3 0 _ rfl).1
  have d1 := (B3 1 _ rfl).1
  have z0 := (B3 0 _ rfl).2
  have z1 := (B3 1 _ rfl).2
  go_wp2_with fail
  refine (hO.out _).mono ?_
  rintro r w2 ⟨rfl, hw2⟩
  clear k0 k1 k2 k3 k4 f0 f1 g0 g1 d0 d1 z0 z1
  replace B0 := B0.ext hw2 (by omega)
  replace B1 := B1.ext hw2 (by omega)
  replace B2 := B2.ext hw2 (by omega)
  replace B3 := B3.ext hw2 (by omega)
  replace hE := hE.trans hw2
  replace hz : w.heap.size + 4 ≤ w2.heap.size := Nat.le_trans hz (Below.size hw2)
  clear hw2
  have k0 := (B0 0 _ rfl).1
  have k1 := (B0 1 _ rfl).1
  have k2 := (B0 2 _ rfl).1
  have k3 := (B0 3 _ rfl).1
  have k4 := (B0 4 _ rfl).1
  have f0 := (B1 0 _ rfl).1
  have f1 := (B1 1 _ rfl).1
  have g0 := (B2 0 _ rfl).1
  have g1 := (B2 1 _ rfl).1
  have d0 := (B3 0 _ rfl).1
  have d1 := (B3 1 _ rfl).1
  have z0 := (B3 0 _ rfl).2
  have z1 := (B3 1 _ rfl).2
  go_wp2
  obtain ⟨W, hW⟩ : ∃ W, putL (w.heap.size + 1 + 1 + 1) 0 [.int .i64 0, .int .i64 0] w2 = W := ⟨_, rfl⟩
  have BW := Blk.put B3 [.int .i64 0, .int .i64 0] rfl
  rw [hW] at BW
  have hF : Ext w W := hW ▸ hE.putL (by omega) _
  simp only [putL, Nat.zero_add] at hW
  simp only [hW]
  have s0 := (BW 0 _ rfl).1
  have s1 := (BW 1 _ rfl).1
  refine bodyPost_ret (v := .tuple #[.agg #[.int .i64 0, .int .i64 0], .bool false]) (by simp [results, Tryd.results8, go_sem, s0, s1]) rfl ⟨rfl, hF⟩

set_option maxHeartbeats 1600000 in
set_option maxRecDepth 100000 in
theorem sEdMul_yes (P D L bx cy : Int) (n : Int) (a r : Pr) (hP : Hid (∀ W : World, Calls Tryd.prog 25 #[.agg #[.int .i64 P, .int .i64 D, .int .i64 L, .int .i64 bx, .int .i64 cy], .agg #[.int .i64 a.x, .int .i64 a.y]] W fun e w' => e = .returned (.bool true) ∧ Ext W w')) (hI : Hid (∀ W : World, Calls Tryd.prog 32 #[.int .i64 n, .int .i64 0, .int .i64 1099511627776] W fun e w' => e = .returned (.bool true) ∧ Ext W w')) (hM : Hid (∀ W : World, Calls Tryd.prog 33 #[.agg #[.int .i64 P, .int .i64 D, .int .i64 L, .int .i64 bx, .int .i64 cy], .int .i64 n, .agg #[.int .i64 a.x, .int .i64 a.y]] W fun e w' => e = .returned (.agg #[.int .i64 r.x, .int .i64 r.y]) ∧ Ext W w')) (w : World) :
    Calls Tryd.prog 13 #[.agg #[.int .i64 P, .int .i64 D, .int .i64 L, .int .i64 bx, .int .i64 cy], .int .i64 n, .agg #[.int .i64 a.x, .int .i64 a.y]] w fun e w' => e = .returned (.tuple #[.agg #[.int .i64 r.x, .int .i64 r.y], .bool true]) ∧ Ext w w' := by
  go_enter Tryd.func13, Tryd.ntmps13
  go_wp2_with fail
  refine (hP.out _).mono ?_
  rintro r w1 ⟨rfl, hw1⟩
  obtain ⟨B0, B1, B2, hE, hz⟩ := box3 w [.int .i64 P, .int .i64 D, .int .i64 L, .int .i64 bx, .int .i64 cy] [.int .i64 a.x, .int .i64 a.y] [.int .i64 0, .int .i64 0] 29 26 26 hw1
  clear hw1
  have k0 := (B0 0 _ rfl).1
  have k1 := (B0 1 _ rfl).1
  have k2 := (B0 2 _ rfl).1
  have k3 := (B0 3 _ rfl).1
  have k4 := (B0 4 _ rfl).1
  have f0 := (B1 0 _ rfl).1
  have f1 := (B1 1 _ rfl).1
  have d0 := (B2 0 _ rfl).1
  have d1 := (B2 1 _ rfl).1
  have z0 := (B2 0 _ rfl).2
  have z1 := (B2 1 _ rfl).2
  go_wp2_with fail
  refine (hI.out _).mono ?_
  rintro r w2 ⟨rfl, hw2⟩
  clear k0 k1 k2 k3 k4 f0 f1 d0 d1 z0 z1
  replace B0 := B0.ext hw2 (by omega)
  replace B1 := B1.ext hw2 (by omega)
  replace B2 := B2.ext hw2 (by omega)
  replace hE := hE.trans hw2
  replace hz : w.heap.size + 3 ≤ w2.heap.size := Nat.le_trans hz (Below.size hw2)
  clear hw2
  have k0 := (B0 0 _ rfl).1
  have k1 := (B0 1 _ rfl).1
  have k2 := (B0 2 _ rfl).1
  have k3 := (B0 3 _ rfl).1
  have k4 := (B0 4 _ rfl).1
  have f0 := (B1 0 _ rfl).1
  have f1 := (B1 1 _ rfl).1
  have d0 := (B2 0 _ rfl).1
  have d1 := (B2 1 _ rfl).1
  have z0 := (B2 0 _ rfl).2
  have z1 := (B2 1 _ rfl).2
  go_wp2_with fail
  refine (hM.out _).mono ?_
  rintro r w3 ⟨rfl, hw3⟩
  clear k0 k1 k2 k3 k4 f0 f1 d0 d1 z0 z1
  replace B0 := B0.ext hw3 (by omega)
  replace B1 := B1.ext hw3 (by omega)
  replace B2 := B2.ext hw3 (by omega)
  replace hE := hE.trans hw3
  replace hz : w.heap.size + 3 ≤ w3.heap.size := Nat.le_trans hz (Below.size hw3)
  clear hw3
  have k0 := (B0 0 _ rfl).1
  have k1 := (B0 1 _ rfl).1
  have k2 := (B0 2 _ rfl).1
  have k3 := (B0 3 _ rfl).1
  have k4 := (B0 4 _ rfl).1
  have f0 := (B1 0 _ rfl).1
  have f1 := (B1 1 _ rfl).1
  have d0 := (B2 0 _ rfl).1
  have d1 := (B2 1 _ rfl).1
  have z0 := (B2 0 _ rfl).2
  have z1 := (B2 1 _ rfl).2
  go_wp2
  obtain ⟨W, hW⟩ : ∃ W, putL (w.heap.size + 1 + 1) 0 [.int .i64 r.x, .int .i64 r.y] w3 = W := ⟨_, rfl⟩
  have BW := Blk.put B2 [.int .i64 r.x, .int .i64 r.y] rfl
  rw [hW] at BW
  have hF : Ext w W := hW ▸ hE.putL (by omega) _
  simp only [putL, Nat.zero_add] at hW
  simp only [hW]
  have s0 := (BW 0 _ rfl).1
  have s1 := (BW 1 _ rfl).1
  refine bodyPost_ret (v := .tuple #[.agg #[.int .i64 r.x, .int .i64 r.y], .bool true]) (by simp [results, Tryd.results13, go_sem, s0, s1]) rfl ⟨rfl, hF⟩

set_option maxHeartbeats 1600000 in
set_option maxRecDepth 100000 in
theorem sEdMul_no1 (P D L bx cy : Int) (n : Int) (a : Pr) (hP : Hid (∀ W : World, Calls Tryd.prog 25 #[.agg #[.int .i64 P, .int .i64 D, .int .i64 L, .int .i64 bx, .int .i64 cy], .agg #[.int .i64 a.x, .int .i64 a.y]] W fun e w' => e = .returned (.bool false) ∧ Ext W w')) (w : World) :
    Calls Tryd.prog 13 #[.agg #[.int .i64 P, .int .i64 D, .int .i64 L, .int .i64 bx, .int .i64 cy], .int .i64 n, .agg #[.int .i64 a.x, .int .i64 a.y]] w fun e w' => e = .returned (.tuple #[.agg #[.int .i64 0, .int .i64 0], .bool false]) ∧ Ext w w' := by
  go_enter Tryd.func13, Tryd.ntmps13
  go_wp2_with fail
  refine (hP.out _).mono ?_
  rintro r w1 ⟨rfl, hw1⟩
  obtain ⟨B0, B1, B2, hE, hz⟩ := box3 w [.int .i64 P, .int .i64 D, .int .i64 L, .int .i64 bx, .int .i64 cy] [.int .i64 a.x, .int .i64 a.y] [.int .i64 0, .int .i64 0] 29 26 26 hw1
  clear hw1
  have k0 := (B0 0 _ rfl).1
  have k1 := (B0 1 _ rfl).1
  have k2 := (B0 2 _ rfl).1
  have k3 := (B0 3 _ rfl).1
  have k4 := (B0 4 _ rfl).1
  have f0 := (B1 0 _ rfl).1
  have f1 := (B1 1 _ rfl).1
  have d0 := (B2 0 _ rfl).1
  have d1 := (B2 1 _ rfl).1
  have z0 := (B2 0 _ rfl).2
  have z1 := (B2 1 _ rfl).2
  go_wp2
  obtain ⟨W, hW⟩ : ∃ W, putL (w.heap.size + 1 + 1) 0 [.int .i64 0, .int .i64 0] w1 = W := ⟨_, rfl⟩
  have BW := Blk.put B2 [.int .i64 0, .int .i64 0] rfl
  rw [hW] at BW
  have hF : Ext w W := hW ▸ hE.putL (by omega) _
  simp only [putL, Nat.zero_add] at hW
  simp only [hW]
  have s0 := (BW 0 _ rfl).1
  have s1 := (BW 1 _ rfl).1
  refine bodyPost_ret (v := .tuple #[.agg #[.int .i64 0, .int .i64 0], .bool false]) (by simp [results, Tryd.results13, go_sem, s0, s1]) rfl ⟨rfl, hF⟩

set_option maxHeartbeats 1600000 in
set_option maxRecDepth 100000 in
theorem sEdMul_no2 (P D L bx cy : Int) (n : Int) (a : Pr) (hP : Hid (∀ W : World, Calls Tryd.prog 25 #[.agg #[.int .i64 P, .int .i64 D, .int .i64 L, .int .i64 bx, .int .i64 cy], .agg #[.int .i64 a.x, .int .i64 a.y]] W fun e w' => e = .returned (.bool true) ∧ Ext W w')) (hI : Hid (∀ W : World, Calls Tryd.prog 32 #[.int .i64 n, .int .i64 0, .int .i64 1099511627776] W fun e w' => e = .returned (.bool false) ∧ Ext W w')) (w : World) :
    Calls Tryd.prog 13 #[.agg #[.int .i64 P, .int .i64 D, .int .i64 L, .int .i64 bx, .int .i64 cy], .int .i64 n, .agg #[.int .i64 a.x, .int .i64 a.y]] w fun e w' => e = .returned (.tuple #[.agg #[.int .i64 0, .int .i64 0], .bool false]) ∧ Ext w w' := by
  go_enter Tryd.func13, Tryd.ntmps13
  go_wp2_with fail
  refine (hP.out _).mono ?_
  rintro r w1 ⟨rfl, hw1⟩
  obtain ⟨B0, B1, B2, hE, hz⟩ := box3 w [.int .i64 P, .int .i64 D, .int .i64 L, .int .i64 bx, .int .i64 cy] [.int .i64 a.x, .int .i64 a.y] [.int .i64 0, .int .i64 0] 29 26 26 hw1
  clear hw1
  have k0 := (B0 0 _ rfl).1
  have k1 := (B0 1 _ rfl).1
  have k2 := (B0 2 _ rfl).1
  have k3 := (B0 3 _ rfl).1
  have k4 := (B0 4 _ rfl).1
  have f0 := (B1 0 _ rfl).1
  have f1 := (B1 1 _ rfl).1
  have d0 := (B2 0 _ rfl).1
  have d1 := (B2 1 _ rfl).1
  have z0 := (B2 0 _ rfl).2
  have z1 := (B2 1 _ rfl).2
  go_wp2_with fail
  refine (hI.out _).mono ?_
  rintro r w2 ⟨rfl, hw2⟩
  clear k0 k1 k2 k3 k4 f0 f1 d0 d1 z0 z1
  replace B0 := B0.ext hw2 (by omega)
  replace B1 := B1.ext hw2 (by omega)
  replace B2 := B2.ext hw2 (by omega)
  replace hE := hE.trans hw2
  replace hz : w.heap.size + 3 ≤ w2.heap.size := Nat.le_trans hz (Below.size hw2)
  clear hw2
  have k0 := (B0 0 _ rfl).1
  have k1 := (B0 1 _ rfl).1
  have k2 := (B0 2 _ rfl).1
  have k3 := (B0 3 _ rfl).1
  have k4 := (B0 4 _ rfl).1
  have f0 := (B1 0 _ rfl).1
  have f1 := (B1 1 _ rfl).1
  have d0 := (B2 0 _ rfl).1
  have d1 := (B2 1 _ rfl).1
  have z0 := (B2 0 _ rfl).2
  have z1 := (B2 1 _ rfl).2
  go_wp2
  obtain ⟨W, hW⟩ : ∃ W, putL (w.heap.size + 1 + 1) 0 [.int .i64 0, .int .i64 0] w2 = W := ⟨_, rfl⟩
  have BW := Blk.put B2 [.int .i64 0, .int .i64 0] rfl
  rw [hW] at BW
  have hF : Ext w W := hW ▸ hE.putL (by omega) _
  simp only [putL, Nat.zero_add] at hW
  simp only [hW]
  have s0 := (BW 0 _ rfl).1
  have s1 := (BW 1 _ rfl).1
  refine bodyPost_ret (v := .tuple #[.agg #[.int .i64 0, .int .i64 0], .bool false]) (by simp [results, Tryd.results13, go_sem, s0, s1]) rfl ⟨rfl, hF⟩

set_option maxHeartbeats 1600000 in
set_option maxRecDepth 100000 in
theorem sEdCof_yes (P D L bx cy : Int) (a r : Pr) (hP : Hid (∀ W : World, Calls Tryd.prog 25 #[.agg #[.int .i64 P, .int .i64 D, .int .i64 L, .int .i64 bx, .int .i64 cy], .agg #[.int .i64 a.x, .int .i64 a.y]] W fun e w' => e = .returned (.bool true) ∧ Ext W w')) (hM : Hid (∀ W : World, Calls Tryd.prog 33 #[.agg #[.int .i64 P, .int .i64 D, .int .i64 L, .int .i64 bx, .int .i64 cy], .int .i64 8, .agg #[.int .i64 a.x, .int .i64 a.y]] W fun e w' => e = .returned (.agg #[.int .i64 r.x, .int .i64 r.y]) ∧ Ext W w')) (w : World) :
    Calls Tryd.prog 23 #[.agg #[.int .i64 P, .int .i64 D, .int .i64 L, .int .i64 bx, .int .i64 cy], .agg #[.int .i64 a.x, .int .i64 a.y]] w fun e w' => e = .returned (.tuple #[.agg #[.int .i64 r.x, .int .i64 r.y], .bool true]) ∧ Ext w w' := by
  go_enter Tryd.func23, Tryd.ntmps23
  go_wp2_with fail
  refine (hP.out _).mono ?_
  rintro r w1 ⟨rfl, hw1⟩
  obtain ⟨B0, B1, B2, hE, hz⟩ := box3 w [.int .i64 P, .int .i64 D, .int .i64 L, .int .i64 bx, .int .i64 cy] [.int .i64 a.x, .int .i64 a.y] [.int .i64 0, .int .i64 0] 29 26 26 hw1
  clear hw1
  have k0 := (B0 0 _ rfl).1
  have k1 := (B0 1 _ rfl).1
  have k2 := (B0 2 _ rfl).1
  have k3 := (B0 3 _ rfl).1
  have k4 := (B0 4 _ rfl).1
  have f0 := (B1 0 _ rfl).1
  have f1 := (B1 1 _ rfl).1
  have d0 := (B2 0 _ rfl).1
  have d1 := (B2 1 _ rfl).1
  have z0 := (B2 0 _ rfl).2
  have z1 := (B2 1 _ rfl).2
  go_wp2_with fail
  refine (hM.out _).mono ?_
  rintro r w2 ⟨rfl, hw2⟩
  clear k0 k1 k2 k3 k4 f0 f1 d0 d1 z0 z1
  replace B0 := B0.ext hw2 (by omega)
  replace B1 := B1.ext hw2 (by omega)
  replace B2 := B2.ext hw2 (by omega)
  replace hE := hE.trans hw2
  replace hz : w.heap.size + 3 ≤ w2.heap.size := Nat.le_trans hz (Below.size hw2)
  clear hw2
  have k0 := (B0 0 _ rfl).1
  have k1 := (B0 1 _ rfl).1
  have k2 := (B0 2 _ rfl).1
  have k3 := (B0 3 _ rfl).1
  have k4 := (B0 4 _ rfl).1
  have f0 := (B1 0 _ rfl).1
  have f1 := (B1 1 _ rfl).1
  have d0 := (B2 0 _ rfl).1
  have d1 := (B2 1 _ rfl).1
  have z0 := (B2 0 _ rfl).2
  have z1 := (B2 1 _ rfl).2
  go_wp2
  obtain ⟨W, hW⟩ : ∃ W, putL (w.heap.size + 1 + 1) 0 [.int .i64 r.x, .int .i64 r.y] w2 = W := ⟨_, rfl⟩
  have BW := Blk.put B2 [.int .i64 r.x, .int .i64 r.y] rfl
  rw [hW] at BW
  have hF : Ext w W := hW ▸ hE.putL (by omega) _
  simp only [putL, Nat.zero_add] at hW
  simp only [hW]
  have s0 := (BW 0 _ rfl).1
  have s1 := (BW 1 _ rfl).1
  refine bodyPost_ret (v := .tuple #[.agg #[.int .i64 r.x, .int .i64 r.y], .bool true]) (by simp [results, Tryd.results23, go_sem, s0, s1]) rfl ⟨rfl, hF⟩

set_option maxHeartbeats 1600000 in
set_option maxRecDepth 100000 in
theorem sEdCof_no (P D L bx cy : Int) (a : Pr) (hP : Hid (∀ W : World, Calls Tryd.prog 25 #[.agg #[.int .i64 P, .int .i64 D, .int .i64 L, .int .i64 bx, .int .i64 cy], .agg #[.int .i64 a.x, .int .i64 a.y]] W fun e w' => e = .returned (.bool false) ∧ Ext W w')) (w : World) :
    Calls Tryd.prog 23 #[.agg #[.int .i64 P, .int .i64 D, .int .i64 L, .int .i64 bx, .int .i64 cy], .agg #[.int .i64 a.x, .int .i64 a.y]] w fun e w' => e = .returned (.tuple #[.agg #[.int .i64 0, .int .i64 0], .bool false]) ∧ Ext w w' := by
  go_enter Tryd.func23, Tryd.ntmps23
  go_wp2_with fail
  refine (hP.out _).mono ?_
  rintro r w1 ⟨rfl, hw1⟩
  obtain ⟨B0, B1, B2, hE, hz⟩ := box3 w [.int .i64 P, .int .i64 D, .int .i64 L, .int .i64 bx, .int .i64 cy] [.int .i64 a.x, .int .i64 a.y] [.int .i64 0, .int .i64 0] 29 26 26 hw1
  clear hw1
  have k0 := (B0 0 _ rfl).1
  have k1 := (B0 1 _ rfl).1
  have k2 := (B0 2 _ rfl).1
  have k3 := (B0 3 _ rfl).1
  have k4 := (B0 4 _ rfl).1
  have f0 := (B1 0 _ rfl).1
  have f1 := (B1 1 _ rfl).1
  have d0 := (B2 0 _ rfl).1
  have d1 := (B2 1 _ rfl).1
  have z0 := (B2 0 _ rfl).2
  have z1 := (B2 1 _ rfl).2
  go_wp2
  obtain ⟨W, hW⟩ : ∃ W, putL (w.heap.size + 1 + 1) 0 [.int .i64 0, .int .i64 0] w1 = W := ⟨_, rfl⟩
  have BW := Blk.put B2 [.int .i64 0, .int .i64 0] rfl
  rw [hW] at BW
  have hF : Ext w W := hW ▸ hE.putL (by omega) _
  simp only [putL, Nat.zero_add] at hW
  simp only [hW]
  have s0 := (BW 0 _ rfl).1
  have s1 := (BW 1 _ rfl).1
  refine bodyPost_ret (v := .tuple #[.agg #[.int .i64 0, .int .i64 0], .bool false]) (by simp [results, Tryd.results23, go_sem, s0, s1]) rfl ⟨rfl, hF⟩

set_option maxHeartbeats 1600000 in
theorem sPairOk_yes (P D L bx cy : Int) (a : Pr) (hE' : Hid (∀ W : World, Calls Tryd.prog 40 #[.agg #[.int .i64 P, .int .i64 D, .int .i64 L, .int .i64 bx, .int .i64 cy]] W fun e w' => e = .returned (.bool true) ∧ Ext W w')) (hO : Hid (∀ W : World, Calls Tryd.prog 26 #[.agg #[.int .i64 P, .int .i64 D, .int .i64 L, .int .i64 bx, .int .i64 cy], .agg #[.int .i64 a.x, .int .i64 a.y]] W fun e w' => e = .returned (.bool true) ∧ Ext W w')) (w : World) :
    Calls Tryd.prog 25 #[.agg #[.int .i64 P, .int .i64 D, .int .i64 L, .int .i64 bx, .int .i64 cy], .agg #[.int .i64 a.x, .int .i64 a.y]] w fun e w' => e = .returned (.bool true) ∧ Ext w w' := by
  go_enter Tryd.func25, Tryd.ntmps25
  go_wp2_with fail
  refine (hE'.out _).mono ?_
  rintro r w1 ⟨rfl, hw1⟩
  obtain ⟨B0, B1, hE, hz⟩ := box2 w [.int .i64 P, .int .i64 D, .int .i64 L, .int .i64 bx, .int .i64 cy] [.int .i64 a.x, .int .i64 a.y] 29 26 hw1
  clear hw1
  have k0 := (B0 0 _ rfl).1
  have k1 := (B0 1 _ rfl).1
  have k2 := (B0 2 _ rfl).1
  have k3 := (B0 3 _ rfl).1
  have k4 := (B0 4 _ rfl).1
  have f0 := (B1 0 _ rfl).1
  have f1 := (B1 1 _ rfl).1
  go_wp2_with fail
  refine (hO.out _).mono ?_
  rintro r w2 ⟨rfl, hw2⟩
  replace hE := hE.trans hw2
  clear hw2
  go_wp2
  go_ret
  exact ⟨rfl, hE⟩

set_option maxHeartbeats 1600000 in
theorem sPairOk_no1 (P D L bx cy : Int) (a : Pr) (hE' : Hid (∀ W : World, Calls Tryd.prog 40 #[.agg #[.int .i64 P, .int .i64 D, .int .i64 L, .int .i64 bx, .int .i64 cy]] W fun e w' => e = .returned (.bool false) ∧ Ext W w')) (w : World) :
    Calls Tryd.prog 25 #[.agg #[.int .i64 P, .int .i64 D, .int .i64 L, .int .i64 bx, .int .i64 cy], .agg #[.int .i64 a.x, .int .i64 a.y]] w fun e w' => e = .returned (.bool false) ∧ Ext w w' := by
  go_enter Tryd.func25, Tryd.ntmps25
  go_wp2_with fail
  refine (hE'.out _).mono ?_
  rintro r w1 ⟨rfl, hw1⟩
  obtain ⟨B0, B1, hE, hz⟩ := box2 w [.int .i64 P, .int .i64 D, .int .i64 L, .int .i64 bx, .int .i64 cy] [.int .i64 a.x, .int .i64 a.y] 29 26 hw1
  clear hw1
  have k0 := (B0 0 _ rfl).1
  have k1 := (B0 1 _ rfl).1
  have k2 := (B0 2 _ rfl).1
  have k3 := (B0 3 _ rfl).1
  have k4 := (B0 4 _ rfl).1
  have f0 := (B1 0 _ rfl).1
  have f1 := (B1 1 _ rfl).1
  go_wp2
  go_ret
  exact ⟨rfl, hE⟩

set_option maxHeartbeats 1600000 in
theorem sPairOk_no2 (P D L bx cy : Int) (a : Pr) (hE' : Hid (∀ W : World, Calls Tryd.prog 40 #[.agg #[.int .i64 P, .int .i64 D, .int .i64 L, .int .i64 bx, .int .i64 cy]] W fun e w' => e = .returned (.bool true) ∧ Ext W w')) (hO : Hid (∀ W : World, Calls Tryd.prog 26 #[.agg #[.int .i64 P, .int .i64 D, .int .i64 L, .int .i64 bx, .int .i64 cy], .agg #[.int .i64 a.x, .int .i64 a.y]] W fun e w' => e = .returned (.bool false) ∧ Ext W w')) (w : World) :
    Calls Tryd.prog 25 #[.agg #[.int .i64 P, .int .i64 D, .int .i64 L, .int .i64 bx, .int .i64 cy], .agg #[.int .i64 a.x, .int .i64 a.y]] w fun e w' => e = .returned (.bool false) ∧ Ext w w' := by
  go_enter Tryd.func25, Tryd.ntmps25
  go_wp2_with fail
  refine (hE'.out _).mono ?_
  rintro r w1 ⟨rfl, hw1⟩
  obtain ⟨B0, B1, hE, hz⟩ := box2 w [.int .i64 P, .int .i64 D, .int .i64 L, .int .i64 bx, .int .i64 cy] [.int .i64 a.x, .int .i64 a.y] 29 26 hw1
  clear hw1
  have k0 := (B0 0 _ rfl).1
  have k1 := (B0 1 _ rfl).1
  have k2 := (B0 2 _ rfl).1
  have k3 := (B0 3 _ rfl).1
  have k4 := (B0 4 _ rfl).1
  have f0 := (B1 0 _ rfl).1
  have f1 := (B1 1 _ rfl).1
  go_wp2_with fail
  refine (hO.out _).mono ?_
  rintro r w2 ⟨rfl, hw2⟩
  replace hE := hE.trans hw2
  clear hw2
  go_wp2
  go_ret
  exact ⟨rfl, hE⟩

end Go.Proofs.YtejlgcnhfomadacDoor
