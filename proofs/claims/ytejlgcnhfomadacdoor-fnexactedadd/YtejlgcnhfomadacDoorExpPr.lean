/- Walks: the program's functions over curves (impl.Pair): what is handed to answered, and the face. -/
import Derived.Test.YtejlgcnhfomadacDoorCloPr
import Derived.Test.YtejlgcnhfomadacDoorFacePr
namespace Go.Proofs.YtejlgcnhfomadacDoor
set_option linter.unusedVariables false
open Go.RowKit

set_option maxHeartbeats 1600000 in
set_option maxRecDepth 100000 in
theorem expEdAdd_yes (P D L bx cy : Int) (a : Pr) (b : Pr) (r : Pr) (hC : Hid (∀ (C0 C1 C2 : Nat) (w : World), Blk w C0 [.int .i64 P, .int .i64 D, .int .i64 L, .int .i64 bx, .int .i64 cy] → C0 < w.heap.size → Blk w C1 [.int .i64 a.x, .int .i64 a.y] → C1 < w.heap.size → Blk w C2 [.int .i64 b.x, .int .i64 b.y] → C2 < w.heap.size → Calls Tryd.prog 29 #[.pointer (some ⟨C0, 0, none⟩), .pointer (some ⟨C1, 0, none⟩), .pointer (some ⟨C2, 0, none⟩)] w fun e w' => e = .returned (.agg #[.int .i64 r.x, .int .i64 r.y]) ∧ Ext w w')) (w : World) :
    Calls Tryd.prog 11 #[.agg #[.int .i64 P, .int .i64 D, .int .i64 L, .int .i64 bx, .int .i64 cy], .agg #[.int .i64 a.x, .int .i64 a.y], .agg #[.int .i64 b.x, .int .i64 b.y]] w fun e w' => e = .returned (.tuple #[.agg #[.int .i64 r.x, .int .i64 r.y], .bool true]) ∧ Ext w w' := by
  have hmf : ∀ (fn : Fn) (first cap : Array Value) (w : World), (Instr.makeFunc fn first cap).run Tryd.prog w = .ok (.func fn first cap) w := fun _ _ _ _ => rfl
  go_enter Tryd.func11, Tryd.ntmps11
  go_wp2_with fail
  refine (answPr_yes 29 #[.pointer (some ⟨w.heap.size, 0, none⟩), .pointer (some ⟨w.heap.size + 1, 0, none⟩), .pointer (some ⟨w.heap.size + 1 + 1, 0, none⟩)] (fun _ _ => rfl) r _ (fun W hW => ?_)).mono ?_
  · obtain ⟨B0, B1, B2, B3, hE, hz⟩ := box4 w [.int .i64 P, .int .i64 D, .int .i64 L, .int .i64 bx, .int .i64 cy] [.int .i64 a.x, .int .i64 a.y] [.int .i64 b.x, .int .i64 b.y] [.int .i64 0, .int .i64 0] 29 26 26 26 hW
    exact hC.out _ _ _ _ B0 (by omega) B1 (by omega) B2 (by omega)
  rintro e w1 ⟨rfl, hw1⟩
  obtain ⟨B0, B1, B2, B3, hE, hz⟩ := box4 w [.int .i64 P, .int .i64 D, .int .i64 L, .int .i64 bx, .int .i64 cy] [.int .i64 a.x, .int .i64 a.y] [.int .i64 b.x, .int .i64 b.y] [.int .i64 0, .int .i64 0] 29 26 26 26 hw1
  clear hw1 hC
  have d0 := (B3 0 _ rfl).1
  have d1 := (B3 1 _ rfl).1
  have z0 := (B3 0 _ rfl).2
  have z1 := (B3 1 _ rfl).2
  go_wp2
  obtain ⟨W, hW⟩ : ∃ W, putL (w.heap.size + 1 + 1 + 1) 0 [.int .i64 r.x, .int .i64 r.y] w1 = W := ⟨_, rfl⟩
  have BW := Blk.put B3 [.int .i64 r.x, .int .i64 r.y] rfl
  rw [hW] at BW
  have hF : Ext w W := hW ▸ hE.putL (by omega) _
  simp only [putL, Nat.zero_add] at hW
  simp only [hW]
  have q0 := (BW 0 _ rfl).1
  have q1 := (BW 1 _ rfl).1
  refine bodyPost_ret (v := .tuple #[.agg #[.int .i64 r.x, .int .i64 r.y], .bool true]) (by simp [results, Tryd.results11, go_sem, q0, q1]) rfl ⟨rfl, hF⟩

set_option maxHeartbeats 1600000 in
set_option maxRecDepth 100000 in
theorem expEdAdd_no (P D L bx cy : Int) (a : Pr) (b : Pr) (hC : Hid (∀ (C0 C1 C2 : Nat) (w : World), Blk w C0 [.int .i64 P, .int .i64 D, .int .i64 L, .int .i64 bx, .int .i64 cy] → C0 < w.heap.size → Blk w C1 [.int .i64 a.x, .int .i64 a.y] → C1 < w.heap.size → Blk w C2 [.int .i64 b.x, .int .i64 b.y] → C2 < w.heap.size → Calls Tryd.prog 29 #[.pointer (some ⟨C0, 0, none⟩), .pointer (some ⟨C1, 0, none⟩), .pointer (some ⟨C2, 0, none⟩)] w fun e w' => e = .panicked [nrE] ∧ Ext w w')) (w : World) :
    Calls Tryd.prog 11 #[.agg #[.int .i64 P, .int .i64 D, .int .i64 L, .int .i64 bx, .int .i64 cy], .agg #[.int .i64 a.x, .int .i64 a.y], .agg #[.int .i64 b.x, .int .i64 b.y]] w fun e w' => e = .returned (.tuple #[.agg #[.int .i64 0, .int .i64 0], .bool false]) ∧ Ext w w' := by
  have hmf : ∀ (fn : Fn) (first cap : Array Value) (w : World), (Instr.makeFunc fn first cap).run Tryd.prog w = .ok (.func fn first cap) w := fun _ _ _ _ => rfl
  go_enter Tryd.func11, Tryd.ntmps11
  go_wp2_with fail
  refine (answPr_no 29 #[.pointer (some ⟨w.heap.size, 0, none⟩), .pointer (some ⟨w.heap.size + 1, 0, none⟩), .pointer (some ⟨w.heap.size + 1 + 1, 0, none⟩)] (fun _ _ => rfl) _ (fun W hW => ?_)).mono ?_
  · obtain ⟨B0, B1, B2, B3, hE, hz⟩ := box4 w [.int .i64 P, .int .i64 D, .int .i64 L, .int .i64 bx, .int .i64 cy] [.int .i64 a.x, .int .i64 a.y] [.int .i64 b.x, .int .i64 b.y] [.int .i64 0, .int .i64 0] 29 26 26 26 hW
    exact hC.out _ _ _ _ B0 (by omega) B1 (by omega) B2 (by omega)
  rintro e w1 ⟨rfl, hw1⟩
  obtain ⟨B0, B1, B2, B3, hE, hz⟩ := box4 w [.int .i64 P, .int .i64 D, .int .i64 L, .int .i64 bx, .int .i64 cy] [.int .i64 a.x, .int .i64 a.y] [.int .i64 b.x, .int .i64 b.y] [.int .i64 0, .int .i64 0] 29 26 26 26 hw1
  clear hw1 hC
  have d0 := (B3 0 _ rfl).1
  have d1 := (B3 1 _ rfl).1
  have z0 := (B3 0 _ rfl).2
  have z1 := (B3 1 _ rfl).2
  go_wp2
  obtain ⟨W, hW⟩ : ∃ W, putL (w.heap.size + 1 + 1 + 1) 0 [.int .i64 0, .int .i64 0] w1 = W := ⟨_, rfl⟩
  have BW := Blk.put B3 [.int .i64 0, .int .i64 0] rfl
  rw [hW] at BW
  have hF : Ext w W := hW ▸ hE.putL (by omega) _
  simp only [putL, Nat.zero_add] at hW
  simp only [hW]
  have q0 := (BW 0 _ rfl).1
  have q1 := (BW 1 _ rfl).1
  refine bodyPost_ret (v := .tuple #[.agg #[.int .i64 0, .int .i64 0], .bool false]) (by simp [results, Tryd.results11, go_sem, q0, q1]) rfl ⟨rfl, hF⟩

set_option maxHeartbeats 1600000 in
set_option maxRecDepth 100000 in
theorem expEdMul_yes (P D L bx cy : Int) (n : Int) (a : Pr) (r : Pr) (hC : Hid (∀ (C0 C1 C2 : Nat) (w : World), Blk w C0 [.int .i64 P, .int .i64 D, .int .i64 L, .int .i64 bx, .int .i64 cy] → C0 < w.heap.size → Blk w C1 [.int .i64 n] → C1 < w.heap.size → Blk w C2 [.int .i64 a.x, .int .i64 a.y] → C2 < w.heap.size → Calls Tryd.prog 34 #[.pointer (some ⟨C0, 0, none⟩), .pointer (some ⟨C1, 0, none⟩), .pointer (some ⟨C2, 0, none⟩)] w fun e w' => e = .returned (.agg #[.int .i64 r.x, .int .i64 r.y]) ∧ Ext w w')) (w : World) :
    Calls Tryd.prog 14 #[.agg #[.int .i64 P, .int .i64 D, .int .i64 L, .int .i64 bx, .int .i64 cy], .int .i64 n, .agg #[.int .i64 a.x, .int .i64 a.y]] w fun e w' => e = .returned (.tuple #[.agg #[.int .i64 r.x, .int .i64 r.y], .bool true]) ∧ Ext w w' := by
  have hmf : ∀ (fn : Fn) (first cap : Array Value) (w : World), (Instr.makeFunc fn first cap).run Tryd.prog w = .ok (.func fn first cap) w := fun _ _ _ _ => rfl
  go_enter Tryd.func14, Tryd.ntmps14
  go_wp2_with fail
  refine (answPr_yes 34 #[.pointer (some ⟨w.heap.size, 0, none⟩), .pointer (some ⟨w.heap.size + 1, 0, none⟩), .pointer (some ⟨w.heap.size + 1 + 1, 0, none⟩)] (fun _ _ => rfl) r _ (fun W hW => ?_)).mono ?_
  · obtain ⟨B0, B1, B2, B3, hE, hz⟩ := box4 w [.int .i64 P, .int .i64 D, .int .i64 L, .int .i64 bx, .int .i64 cy] [.int .i64 n] [.int .i64 a.x, .int .i64 a.y] [.int .i64 0, .int .i64 0] 29 3 26 26 hW
    exact hC.out _ _ _ _ B0 (by omega) B1 (by omega) B2 (by omega)
  rintro e w1 ⟨rfl, hw1⟩
  obtain ⟨B0, B1, B2, B3, hE, hz⟩ := box4 w [.int .i64 P, .int .i64 D, .int .i64 L, .int .i64 bx, .int .i64 cy] [.int .i64 n] [.int .i64 a.x, .int .i64 a.y] [.int .i64 0, .int .i64 0] 29 3 26 26 hw1
  clear hw1 hC
  have d0 := (B3 0 _ rfl).1
  have d1 := (B3 1 _ rfl).1
  have z0 := (B3 0 _ rfl).2
  have z1 := (B3 1 _ rfl).2
  go_wp2
  obtain ⟨W, hW⟩ : ∃ W, putL (w.heap.size + 1 + 1 + 1) 0 [.int .i64 r.x, .int .i64 r.y] w1 = W := ⟨_, rfl⟩
  have BW := Blk.put B3 [.int .i64 r.x, .int .i64 r.y] rfl
  rw [hW] at BW
  have hF : Ext w W := hW ▸ hE.putL (by omega) _
  simp only [putL, Nat.zero_add] at hW
  simp only [hW]
  have q0 := (BW 0 _ rfl).1
  have q1 := (BW 1 _ rfl).1
  refine bodyPost_ret (v := .tuple #[.agg #[.int .i64 r.x, .int .i64 r.y], .bool true]) (by simp [results, Tryd.results14, go_sem, q0, q1]) rfl ⟨rfl, hF⟩

set_option maxHeartbeats 1600000 in
set_option maxRecDepth 100000 in
theorem expEdMul_no (P D L bx cy : Int) (n : Int) (a : Pr) (hC : Hid (∀ (C0 C1 C2 : Nat) (w : World), Blk w C0 [.int .i64 P, .int .i64 D, .int .i64 L, .int .i64 bx, .int .i64 cy] → C0 < w.heap.size → Blk w C1 [.int .i64 n] → C1 < w.heap.size → Blk w C2 [.int .i64 a.x, .int .i64 a.y] → C2 < w.heap.size → Calls Tryd.prog 34 #[.pointer (some ⟨C0, 0, none⟩), .pointer (some ⟨C1, 0, none⟩), .pointer (some ⟨C2, 0, none⟩)] w fun e w' => e = .panicked [nrE] ∧ Ext w w')) (w : World) :
    Calls Tryd.prog 14 #[.agg #[.int .i64 P, .int .i64 D, .int .i64 L, .int .i64 bx, .int .i64 cy], .int .i64 n, .agg #[.int .i64 a.x, .int .i64 a.y]] w fun e w' => e = .returned (.tuple #[.agg #[.int .i64 0, .int .i64 0], .bool false]) ∧ Ext w w' := by
  have hmf : ∀ (fn : Fn) (first cap : Array Value) (w : World), (Instr.makeFunc fn first cap).run Tryd.prog w = .ok (.func fn first cap) w := fun _ _ _ _ => rfl
  go_enter Tryd.func14, Tryd.ntmps14
  go_wp2_with fail
  refine (answPr_no 34 #[.pointer (some ⟨w.heap.size, 0, none⟩), .pointer (some ⟨w.heap.size + 1, 0, none⟩), .pointer (some ⟨w.heap.size + 1 + 1, 0, none⟩)] (fun _ _ => rfl) _ (fun W hW => ?_)).mono ?_
  · obtain ⟨B0, B1, B2, B3, hE, hz⟩ := box4 w [.int .i64 P, .int .i64 D, .int .i64 L, .int .i64 bx, .int .i64 cy] [.int .i64 n] [.int .i64 a.x, .int .i64 a.y] [.int .i64 0, .int .i64 0] 29 3 26 26 hW
    exact hC.out _ _ _ _ B0 (by omega) B1 (by omega) B2 (by omega)
  rintro e w1 ⟨rfl, hw1⟩
  obtain ⟨B0, B1, B2, B3, hE, hz⟩ := box4 w [.int .i64 P, .int .i64 D, .int .i64 L, .int .i64 bx, .int .i64 cy] [.int .i64 n] [.int .i64 a.x, .int .i64 a.y] [.int .i64 0, .int .i64 0] 29 3 26 26 hw1
  clear hw1 hC
  have d0 := (B3 0 _ rfl).1
  have d1 := (B3 1 _ rfl).1
  have z0 := (B3 0 _ rfl).2
  have z1 := (B3 1 _ rfl).2
  go_wp2
  obtain ⟨W, hW⟩ : ∃ W, putL (w.heap.size + 1 + 1 + 1) 0 [.int .i64 0, .int .i64 0] w1 = W := ⟨_, rfl⟩
  have BW := Blk.put B3 [.int .i64 0, .int .i64 0] rfl
  rw [hW] at BW
  have hF : Ext w W := hW ▸ hE.putL (by omega) _
  simp only [putL, Nat.zero_add] at hW
  simp only [hW]
  have q0 := (BW 0 _ rfl).1
  have q1 := (BW 1 _ rfl).1
  refine bodyPost_ret (v := .tuple #[.agg #[.int .i64 0, .int .i64 0], .bool false]) (by simp [results, Tryd.results14, go_sem, q0, q1]) rfl ⟨rfl, hF⟩

set_option maxHeartbeats 1600000 in
set_option maxRecDepth 100000 in
theorem expEdCofactor_yes (P D L bx cy : Int) (a : Pr) (r : Pr) (hC : Hid (∀ (C0 C1 : Nat) (w : World), Blk w C0 [.int .i64 P, .int .i64 D, .int .i64 L, .int .i64 bx, .int .i64 cy] → C0 < w.heap.size → Blk w C1 [.int .i64 a.x, .int .i64 a.y] → C1 < w.heap.size → Calls Tryd.prog 44 #[.pointer (some ⟨C0, 0, none⟩), .pointer (some ⟨C1, 0, none⟩)] w fun e w' => e = .returned (.agg #[.int .i64 r.x, .int .i64 r.y]) ∧ Ext w w')) (w : World) :
    Calls Tryd.prog 24 #[.agg #[.int .i64 P, .int .i64 D, .int .i64 L, .int .i64 bx, .int .i64 cy], .agg #[.int .i64 a.x, .int .i64 a.y]] w fun e w' => e = .returned (.tuple #[.agg #[.int .i64 r.x, .int .i64 r.y], .bool true]) ∧ Ext w w' := by
  have hmf : ∀ (fn : Fn) (first cap : Array Value) (w : World), (Instr.makeFunc fn first cap).run Tryd.prog w = .ok (.func fn first cap) w := fun _ _ _ _ => rfl
  go_enter Tryd.func24, Tryd.ntmps24
  go_wp2_with fail
  refine (answPr_yes 44 #[.pointer (some ⟨w.heap.size, 0, none⟩), .pointer (some ⟨w.heap.size + 1, 0, none⟩)] (fun _ _ => rfl) r _ (fun W hW => ?_)).mono ?_
  · obtain ⟨B0, B1, B2, hE, hz⟩ := box3 w [.int .i64 P, .int .i64 D, .int .i64 L, .int .i64 bx, .int .i64 cy] [.int .i64 a.x, .int .i64 a.y] [.int .i64 0, .int .i64 0] 29 26 26 hW
    exact hC.out _ _ _ B0 (by omega) B1 (by omega)
  rintro e w1 ⟨rfl, hw1⟩
  obtain ⟨B0, B1, B2, hE, hz⟩ := box3 w [.int .i64 P, .int .i64 D, .int .i64 L, .int .i64 bx, .int .i64 cy] [.int .i64 a.x, .int .i64 a.y] [.int .i64 0, .int .i64 0] 29 26 26 hw1
  clear hw1 hC
  have d0 := (B2 0 _ rfl).1
  have d1 := (B2 1 _ rfl).1
  have z0 := (B2 0 _ rfl).2
  have z1 := (B2 1 _ rfl).2
  go_wp2
  obtain ⟨W, hW⟩ : ∃ W, putL (w.heap.size + 1 + 1) 0 [.int .i64 r.x, .int .i64 r.y] w1 = W := ⟨_, rfl⟩
  have BW := Blk.put B2 [.int .i64 r.x, .int .i64 r.y] rfl
  rw [hW] at BW
  have hF : Ext w W := hW ▸ hE.putL (by omega) _
  simp only [putL, Nat.zero_add] at hW
  simp only [hW]
  have q0 := (BW 0 _ rfl).1
  have q1 := (BW 1 _ rfl).1
  refine bodyPost_ret (v := .tuple #[.agg #[.int .i64 r.x, .int .i64 r.y], .bool true]) (by simp [results, Tryd.results24, go_sem, q0, q1]) rfl ⟨rfl, hF⟩

set_option maxHeartbeats 1600000 in
set_option maxRecDepth 100000 in
theorem expEdCofactor_no (P D L bx cy : Int) (a : Pr) (hC : Hid (∀ (C0 C1 : Nat) (w : World), Blk w C0 [.int .i64 P, .int .i64 D, .int .i64 L, .int .i64 bx, .int .i64 cy] → C0 < w.heap.size → Blk w C1 [.int .i64 a.x, .int .i64 a.y] → C1 < w.heap.size → Calls Tryd.prog 44 #[.pointer (some ⟨C0, 0, none⟩), .pointer (some ⟨C1, 0, none⟩)] w fun e w' => e = .panicked [nrE] ∧ Ext w w')) (w : World) :
    Calls Tryd.prog 24 #[.agg #[.int .i64 P, .int .i64 D, .int .i64 L, .int .i64 bx, .int .i64 cy], .agg #[.int .i64 a.x, .int .i64 a.y]] w fun e w' => e = .returned (.tuple #[.agg #[.int .i64 0, .int .i64 0], .bool false]) ∧ Ext w w' := by
  have hmf : ∀ (fn : Fn) (first cap : Array Value) (w : World), (Instr.makeFunc fn first cap).run Tryd.prog w = .ok (.func fn first cap) w := fun _ _ _ _ => rfl
  go_enter Tryd.func24, Tryd.ntmps24
  go_wp2_with fail
  refine (answPr_no 44 #[.pointer (some ⟨w.heap.size, 0, none⟩), .pointer (some ⟨w.heap.size + 1, 0, none⟩)] (fun _ _ => rfl) _ (fun W hW => ?_)).mono ?_
  · obtain ⟨B0, B1, B2, hE, hz⟩ := box3 w [.int .i64 P, .int .i64 D, .int .i64 L, .int .i64 bx, .int .i64 cy] [.int .i64 a.x, .int .i64 a.y] [.int .i64 0, .int .i64 0] 29 26 26 hW
    exact hC.out _ _ _ B0 (by omega) B1 (by omega)
  rintro e w1 ⟨rfl, hw1⟩
  obtain ⟨B0, B1, B2, hE, hz⟩ := box3 w [.int .i64 P, .int .i64 D, .int .i64 L, .int .i64 bx, .int .i64 cy] [.int .i64 a.x, .int .i64 a.y] [.int .i64 0, .int .i64 0] 29 26 26 hw1
  clear hw1 hC
  have d0 := (B2 0 _ rfl).1
  have d1 := (B2 1 _ rfl).1
  have z0 := (B2 0 _ rfl).2
  have z1 := (B2 1 _ rfl).2
  go_wp2
  obtain ⟨W, hW⟩ : ∃ W, putL (w.heap.size + 1 + 1) 0 [.int .i64 0, .int .i64 0] w1 = W := ⟨_, rfl⟩
  have BW := Blk.put B2 [.int .i64 0, .int .i64 0] rfl
  rw [hW] at BW
  have hF : Ext w W := hW ▸ hE.putL (by omega) _
  simp only [putL, Nat.zero_add] at hW
  simp only [hW]
  have q0 := (BW 0 _ rfl).1
  have q1 := (BW 1 _ rfl).1
  refine bodyPost_ret (v := .tuple #[.agg #[.int .i64 0, .int .i64 0], .bool false]) (by simp [results, Tryd.results24, go_sem, q0, q1]) rfl ⟨rfl, hF⟩

end Go.Proofs.YtejlgcnhfomadacDoor
