/- Walks: the program's functions over curves (impl.Point): what is handed to answered, and the face. -/
import Derived.Test.YtejlgcnhfomadaaDoorCloPt
import Derived.Test.YtejlgcnhfomadaaDoorFacePt
namespace Go.Proofs.YtejlgcnhfomadaaDoor
set_option linter.unusedVariables false
open Go.RowKit

set_option maxHeartbeats 1600000 in
set_option maxRecDepth 100000 in
theorem expPointOk_yes (P A B N gx gy : Int) (a : Pt) (r : Pt) (hC : Hid (∀ (C0 C1 : Nat) (w : World), Blk w C0 [.int .i64 P, .int .i64 A, .int .i64 B, .int .i64 N, .int .i64 gx, .int .i64 gy] → C0 < w.heap.size → Blk w C1 [.int .i64 a.x, .int .i64 a.y, .bool a.far] → C1 < w.heap.size → Calls Tryd.prog 42 #[.pointer (some ⟨C0, 0, none⟩), .pointer (some ⟨C1, 0, none⟩)] w fun e w' => e = .returned (.agg #[.int .i64 r.x, .int .i64 r.y, .bool r.far]) ∧ Ext w w')) (w : World) :
    Calls Tryd.prog 12 #[.agg #[.int .i64 P, .int .i64 A, .int .i64 B, .int .i64 N, .int .i64 gx, .int .i64 gy], .agg #[.int .i64 a.x, .int .i64 a.y, .bool a.far]] w fun e w' => e = .returned (.bool true) ∧ Ext w w' := by
  have hmf : ∀ (fn : Fn) (first cap : Array Value) (w : World), (Instr.makeFunc fn first cap).run Tryd.prog w = .ok (.func fn first cap) w := fun _ _ _ _ => rfl
  go_enter Tryd.func12, Tryd.ntmps12
  go_wp2_with fail
  refine (answPt_yes 42 #[.pointer (some ⟨w.heap.size, 0, none⟩), .pointer (some ⟨w.heap.size + 1, 0, none⟩)] (fun _ _ => rfl) r _ (fun W hW => ?_)).mono ?_
  · obtain ⟨B0, B1, hE, hz⟩ := box2 w [.int .i64 P, .int .i64 A, .int .i64 B, .int .i64 N, .int .i64 gx, .int .i64 gy] [.int .i64 a.x, .int .i64 a.y, .bool a.far] 25 27 hW
    exact hC.out _ _ _ B0 (by omega) B1 (by omega)
  rintro e w1 ⟨rfl, hw1⟩
  obtain ⟨B0, B1, hE, hz⟩ := box2 w [.int .i64 P, .int .i64 A, .int .i64 B, .int .i64 N, .int .i64 gx, .int .i64 gy] [.int .i64 a.x, .int .i64 a.y, .bool a.far] 25 27 hw1
  clear hw1 hC
  go_wp2
  go_ret
  refine ⟨rfl, hE.trans ?_⟩
  first | exact Ext.alloc _ _ | exact (Ext.alloc _ _).putL (Nat.le_refl _) [.int .i64 r.x, .int .i64 r.y, .bool r.far]

set_option maxHeartbeats 1600000 in
set_option maxRecDepth 100000 in
theorem expPointOk_no (P A B N gx gy : Int) (a : Pt) (hC : Hid (∀ (C0 C1 : Nat) (w : World), Blk w C0 [.int .i64 P, .int .i64 A, .int .i64 B, .int .i64 N, .int .i64 gx, .int .i64 gy] → C0 < w.heap.size → Blk w C1 [.int .i64 a.x, .int .i64 a.y, .bool a.far] → C1 < w.heap.size → Calls Tryd.prog 42 #[.pointer (some ⟨C0, 0, none⟩), .pointer (some ⟨C1, 0, none⟩)] w fun e w' => e = .panicked [nrE] ∧ Ext w w')) (w : World) :
    Calls Tryd.prog 12 #[.agg #[.int .i64 P, .int .i64 A, .int .i64 B, .int .i64 N, .int .i64 gx, .int .i64 gy], .agg #[.int .i64 a.x, .int .i64 a.y, .bool a.far]] w fun e w' => e = .returned (.bool false) ∧ Ext w w' := by
  have hmf : ∀ (fn : Fn) (first cap : Array Value) (w : World), (Instr.makeFunc fn first cap).run Tryd.prog w = .ok (.func fn first cap) w := fun _ _ _ _ => rfl
  go_enter Tryd.func12, Tryd.ntmps12
  go_wp2_with fail
  refine (answPt_no 42 #[.pointer (some ⟨w.heap.size, 0, none⟩), .pointer (some ⟨w.heap.size + 1, 0, none⟩)] (fun _ _ => rfl) _ (fun W hW => ?_)).mono ?_
  · obtain ⟨B0, B1, hE, hz⟩ := box2 w [.int .i64 P, .int .i64 A, .int .i64 B, .int .i64 N, .int .i64 gx, .int .i64 gy] [.int .i64 a.x, .int .i64 a.y, .bool a.far] 25 27 hW
    exact hC.out _ _ _ B0 (by omega) B1 (by omega)
  rintro e w1 ⟨rfl, hw1⟩
  obtain ⟨B0, B1, hE, hz⟩ := box2 w [.int .i64 P, .int .i64 A, .int .i64 B, .int .i64 N, .int .i64 gx, .int .i64 gy] [.int .i64 a.x, .int .i64 a.y, .bool a.far] 25 27 hw1
  clear hw1 hC
  go_wp2
  go_ret
  refine ⟨rfl, hE.trans ?_⟩
  first | exact Ext.alloc _ _ | exact (Ext.alloc _ _).putL (Nat.le_refl _) [.int .i64 0, .int .i64 0, .bool false]

set_option maxHeartbeats 1600000 in
set_option maxRecDepth 100000 in
theorem expPointAdd_yes (P A B N gx gy : Int) (a : Pt) (b : Pt) (r : Pt) (hC : Hid (∀ (C0 C1 C2 : Nat) (w : World), Blk w C0 [.int .i64 P, .int .i64 A, .int .i64 B, .int .i64 N, .int .i64 gx, .int .i64 gy] → C0 < w.heap.size → Blk w C1 [.int .i64 a.x, .int .i64 a.y, .bool a.far] → C1 < w.heap.size → Blk w C2 [.int .i64 b.x, .int .i64 b.y, .bool b.far] → C2 < w.heap.size → Calls Tryd.prog 44 #[.pointer (some ⟨C0, 0, none⟩), .pointer (some ⟨C1, 0, none⟩), .pointer (some ⟨C2, 0, none⟩)] w fun e w' => e = .returned (.agg #[.int .i64 r.x, .int .i64 r.y, .bool r.far]) ∧ Ext w w')) (w : World) :
    Calls Tryd.prog 13 #[.agg #[.int .i64 P, .int .i64 A, .int .i64 B, .int .i64 N, .int .i64 gx, .int .i64 gy], .agg #[.int .i64 a.x, .int .i64 a.y, .bool a.far], .agg #[.int .i64 b.x, .int .i64 b.y, .bool b.far]] w fun e w' => e = .returned (.tuple #[.agg #[.int .i64 r.x, .int .i64 r.y, .bool r.far], .bool true]) ∧ Ext w w' := by
  have hmf : ∀ (fn : Fn) (first cap : Array Value) (w : World), (Instr.makeFunc fn first cap).run Tryd.prog w = .ok (.func fn first cap) w := fun _ _ _ _ => rfl
  go_enter Tryd.func13, Tryd.ntmps13
  go_wp2_with fail
  refine (answPt_yes 44 #[.pointer (some ⟨w.heap.size, 0, none⟩), .pointer (some ⟨w.heap.size + 1, 0, none⟩), .pointer (some ⟨w.heap.size + 1 + 1, 0, none⟩)] (fun _ _ => rfl) r _ (fun W hW => ?_)).mono ?_
  · obtain ⟨B0, B1, B2, B3, hE, hz⟩ := box4 w [.int .i64 P, .int .i64 A, .int .i64 B, .int .i64 N, .int .i64 gx, .int .i64 gy] [.int .i64 a.x, .int .i64 a.y, .bool a.far] [.int .i64 b.x, .int .i64 b.y, .bool b.far] [.int .i64 0, .int .i64 0, .bool false] 25 27 27 27 hW
    exact hC.out _ _ _ _ B0 (by omega) B1 (by omega) B2 (by omega)
  rintro e w1 ⟨rfl, hw1⟩
  obtain ⟨B0, B1, B2, B3, hE, hz⟩ := box4 w [.int .i64 P, .int .i64 A, .int .i64 B, .int .i64 N, .int .i64 gx, .int .i64 gy] [.int .i64 a.x, .int .i64 a.y, .bool a.far] [.int .i64 b.x, .int .i64 b.y, .bool b.far] [.int .i64 0, .int .i64 0, .bool false] 25 27 27 27 hw1
  clear hw1 hC
  have d0 := (B3 0 _ rfl).1
  have d1 := (B3 1 _ rfl).1
  have d2 := (B3 2 _ rfl).1
  have z0 := (B3 0 _ rfl).2
  have z1 := (B3 1 _ rfl).2
  have z2 := (B3 2 _ rfl).2
  go_wp2
  obtain ⟨W, hW⟩ : ∃ W, putL (w.heap.size + 1 + 1 + 1) 0 [.int .i64 r.x, .int .i64 r.y, .bool r.far] w1 = W := ⟨_, rfl⟩
  have BW := Blk.put B3 [.int .i64 r.x, .int .i64 r.y, .bool r.far] rfl
  rw [hW] at BW
  have hF : Ext w W := hW ▸ hE.putL (by omega) _
  simp only [putL, Nat.zero_add, Nat.reduceAdd] at hW
  simp only [hW]
  have q0 := (BW 0 _ rfl).1
  have q1 := (BW 1 _ rfl).1
  have q2 := (BW 2 _ rfl).1
  refine bodyPost_ret (v := .tuple #[.agg #[.int .i64 r.x, .int .i64 r.y, .bool r.far], .bool true]) (by simp [results, Tryd.results13, go_sem, q0, q1, q2]) rfl ⟨rfl, hF⟩

set_option maxHeartbeats 1600000 in
set_option maxRecDepth 100000 in
theorem expPointAdd_no (P A B N gx gy : Int) (a : Pt) (b : Pt) (hC : Hid (∀ (C0 C1 C2 : Nat) (w : World), Blk w C0 [.int .i64 P, .int .i64 A, .int .i64 B, .int .i64 N, .int .i64 gx, .int .i64 gy] → C0 < w.heap.size → Blk w C1 [.int .i64 a.x, .int .i64 a.y, .bool a.far] → C1 < w.heap.size → Blk w C2 [.int .i64 b.x, .int .i64 b.y, .bool b.far] → C2 < w.heap.size → Calls Tryd.prog 44 #[.pointer (some ⟨C0, 0, none⟩), .pointer (some ⟨C1, 0, none⟩), .pointer (some ⟨C2, 0, none⟩)] w fun e w' => e = .panicked [nrE] ∧ Ext w w')) (w : World) :
    Calls Tryd.prog 13 #[.agg #[.int .i64 P, .int .i64 A, .int .i64 B, .int .i64 N, .int .i64 gx, .int .i64 gy], .agg #[.int .i64 a.x, .int .i64 a.y, .bool a.far], .agg #[.int .i64 b.x, .int .i64 b.y, .bool b.far]] w fun e w' => e = .returned (.tuple #[.agg #[.int .i64 0, .int .i64 0, .bool false], .bool false]) ∧ Ext w w' := by
  have hmf : ∀ (fn : Fn) (first cap : Array Value) (w : World), (Instr.makeFunc fn first cap).run Tryd.prog w = .ok (.func fn first cap) w := fun _ _ _ _ => rfl
  go_enter Tryd.func13, Tryd.ntmps13
  go_wp2_with fail
  refine (answPt_no 44 #[.pointer (some ⟨w.heap.size, 0, none⟩), .pointer (some ⟨w.heap.size + 1, 0, none⟩), .pointer (some ⟨w.heap.size + 1 + 1, 0, none⟩)] (fun _ _ => rfl) _ (fun W hW => ?_)).mono ?_
  · obtain ⟨B0, B1, B2, B3, hE, hz⟩ := box4 w [.int .i64 P, .int .i64 A, .int .i64 B, .int .i64 N, .int .i64 gx, .int .i64 gy] [.int .i64 a.x, .int .i64 a.y, .bool a.far] [.int .i64 b.x, .int .i64 b.y, .bool b.far] [.int .i64 0, .int .i64 0, .bool false] 25 27 27 27 hW
    exact hC.out _ _ _ _ B0 (by omega) B1 (by omega) B2 (by omega)
  rintro e w1 ⟨rfl, hw1⟩
  obtain ⟨B0, B1, B2, B3, hE, hz⟩ := box4 w [.int .i64 P, .int .i64 A, .int .i64 B, .int .i64 N, .int .i64 gx, .int .i64 gy] [.int .i64 a.x, .int .i64 a.y, .bool a.far] [.int .i64 b.x, .int .i64 b.y, .bool b.far] [.int .i64 0, .int .i64 0, .bool false] 25 27 27 27 hw1
  clear hw1 hC
  have d0 := (B3 0 _ rfl).1
  have d1 := (B3 1 _ rfl).1
  have d2 := (B3 2 _ rfl).1
  have z0 := (B3 0 _ rfl).2
  have z1 := (B3 1 _ rfl).2
  have z2 := (B3 2 _ rfl).2
  go_wp2
  obtain ⟨W, hW⟩ : ∃ W, putL (w.heap.size + 1 + 1 + 1) 0 [.int .i64 0, .int .i64 0, .bool false] w1 = W := ⟨_, rfl⟩
  have BW := Blk.put B3 [.int .i64 0, .int .i64 0, .bool false] rfl
  rw [hW] at BW
  have hF : Ext w W := hW ▸ hE.putL (by omega) _
  simp only [putL, Nat.zero_add, Nat.reduceAdd] at hW
  simp only [hW]
  have q0 := (BW 0 _ rfl).1
  have q1 := (BW 1 _ rfl).1
  have q2 := (BW 2 _ rfl).1
  refine bodyPost_ret (v := .tuple #[.agg #[.int .i64 0, .int .i64 0, .bool false], .bool false]) (by simp [results, Tryd.results13, go_sem, q0, q1, q2]) rfl ⟨rfl, hF⟩

set_option maxHeartbeats 1600000 in
set_option maxRecDepth 100000 in
theorem expPointMul_yes (P A B N gx gy : Int) (n : Int) (a : Pt) (r : Pt) (hC : Hid (∀ (C0 C1 C2 : Nat) (w : World), Blk w C0 [.int .i64 P, .int .i64 A, .int .i64 B, .int .i64 N, .int .i64 gx, .int .i64 gy] → C0 < w.heap.size → Blk w C1 [.int .i64 n] → C1 < w.heap.size → Blk w C2 [.int .i64 a.x, .int .i64 a.y, .bool a.far] → C2 < w.heap.size → Calls Tryd.prog 46 #[.pointer (some ⟨C0, 0, none⟩), .pointer (some ⟨C1, 0, none⟩), .pointer (some ⟨C2, 0, none⟩)] w fun e w' => e = .returned (.agg #[.int .i64 r.x, .int .i64 r.y, .bool r.far]) ∧ Ext w w')) (w : World) :
    Calls Tryd.prog 15 #[.agg #[.int .i64 P, .int .i64 A, .int .i64 B, .int .i64 N, .int .i64 gx, .int .i64 gy], .int .i64 n, .agg #[.int .i64 a.x, .int .i64 a.y, .bool a.far]] w fun e w' => e = .returned (.tuple #[.agg #[.int .i64 r.x, .int .i64 r.y, .bool r.far], .bool true]) ∧ Ext w w' := by
  have hmf : ∀ (fn : Fn) (first cap : Array Value) (w : World), (Instr.makeFunc fn first cap).run Tryd.prog w = .ok (.func fn first cap) w := fun _ _ _ _ => rfl
  go_enter Tryd.func15, Tryd.ntmps15
  go_wp2_with fail
  refine (answPt_yes 46 #[.pointer (some ⟨w.heap.size, 0, none⟩), .pointer (some ⟨w.heap.size + 1, 0, none⟩), .pointer (some ⟨w.heap.size + 1 + 1, 0, none⟩)] (fun _ _ => rfl) r _ (fun W hW => ?_)).mono ?_
  · obtain ⟨B0, B1, B2, B3, hE, hz⟩ := box4 w [.int .i64 P, .int .i64 A, .int .i64 B, .int .i64 N, .int .i64 gx, .int .i64 gy] [.int .i64 n] [.int .i64 a.x, .int .i64 a.y, .bool a.far] [.int .i64 0, .int .i64 0, .bool false] 25 3 27 27 hW
    exact hC.out _ _ _ _ B0 (by omega) B1 (by omega) B2 (by omega)
  rintro e w1 ⟨rfl, hw1⟩
  obtain ⟨B0, B1, B2, B3, hE, hz⟩ := box4 w [.int .i64 P, .int .i64 A, .int .i64 B, .int .i64 N, .int .i64 gx, .int .i64 gy] [.int .i64 n] [.int .i64 a.x, .int .i64 a.y, .bool a.far] [.int .i64 0, .int .i64 0, .bool false] 25 3 27 27 hw1
  clear hw1 hC
  have d0 := (B3 0 _ rfl).1
  have d1 := (B3 1 _ rfl).1
  have d2 := (B3 2 _ rfl).1
  have z0 := (B3 0 _ rfl).2
  have z1 := (B3 1 _ rfl).2
  have z2 := (B3 2 _ rfl).2
  go_wp2
  obtain ⟨W, hW⟩ : ∃ W, putL (w.heap.size + 1 + 1 + 1) 0 [.int .i64 r.x, .int .i64 r.y, .bool r.far] w1 = W := ⟨_, rfl⟩
  have BW := Blk.put B3 [.int .i64 r.x, .int .i64 r.y, .bool r.far] rfl
  rw [hW] at BW
  have hF : Ext w W := hW ▸ hE.putL (by omega) _
  simp only [putL, Nat.zero_add, Nat.reduceAdd] at hW
  simp only [hW]
  have q0 := (BW 0 _ rfl).1
  have q1 := (BW 1 _ rfl).1
  have q2 := (BW 2 _ rfl).1
  refine bodyPost_ret (v := .tuple #[.agg #[.int .i64 r.x, .int .i64 r.y, .bool r.far], .bool true]) (by simp [results, Tryd.results15, go_sem, q0, q1, q2]) rfl ⟨rfl, hF⟩

set_option maxHeartbeats 1600000 in
set_option maxRecDepth 100000 in
theorem expPointMul_no (P A B N gx gy : Int) (n : Int) (a : Pt) (hC : Hid (∀ (C0 C1 C2 : Nat) (w : World), Blk w C0 [.int .i64 P, .int .i64 A, .int .i64 B, .int .i64 N, .int .i64 gx, .int .i64 gy] → C0 < w.heap.size → Blk w C1 [.int .i64 n] → C1 < w.heap.size → Blk w C2 [.int .i64 a.x, .int .i64 a.y, .bool a.far] → C2 < w.heap.size → Calls Tryd.prog 46 #[.pointer (some ⟨C0, 0, none⟩), .pointer (some ⟨C1, 0, none⟩), .pointer (some ⟨C2, 0, none⟩)] w fun e w' => e = .panicked [nrE] ∧ Ext w w')) (w : World) :
    Calls Tryd.prog 15 #[.agg #[.int .i64 P, .int .i64 A, .int .i64 B, .int .i64 N, .int .i64 gx, .int .i64 gy], .int .i64 n, .agg #[.int .i64 a.x, .int .i64 a.y, .bool a.far]] w fun e w' => e = .returned (.tuple #[.agg #[.int .i64 0, .int .i64 0, .bool false], .bool false]) ∧ Ext w w' := by
  have hmf : ∀ (fn : Fn) (first cap : Array Value) (w : World), (Instr.makeFunc fn first cap).run Tryd.prog w = .ok (.func fn first cap) w := fun _ _ _ _ => rfl
  go_enter Tryd.func15, Tryd.ntmps15
  go_wp2_with fail
  refine (answPt_no 46 #[.pointer (some ⟨w.heap.size, 0, none⟩), .pointer (some ⟨w.heap.size + 1, 0, none⟩), .pointer (some ⟨w.heap.size + 1 + 1, 0, none⟩)] (fun _ _ => rfl) _ (fun W hW => ?_)).mono ?_
  · obtain ⟨B0, B1, B2, B3, hE, hz⟩ := box4 w [.int .i64 P, .int .i64 A, .int .i64 B, .int .i64 N, .int .i64 gx, .int .i64 gy] [.int .i64 n] [.int .i64 a.x, .int .i64 a.y, .bool a.far] [.int .i64 0, .int .i64 0, .bool false] 25 3 27 27 hW
    exact hC.out _ _ _ _ B0 (by omega) B1 (by omega) B2 (by omega)
  rintro e w1 ⟨rfl, hw1⟩
  obtain ⟨B0, B1, B2, B3, hE, hz⟩ := box4 w [.int .i64 P, .int .i64 A, .int .i64 B, .int .i64 N, .int .i64 gx, .int .i64 gy] [.int .i64 n] [.int .i64 a.x, .int .i64 a.y, .bool a.far] [.int .i64 0, .int .i64 0, .bool false] 25 3 27 27 hw1
  clear hw1 hC
  have d0 := (B3 0 _ rfl).1
  have d1 := (B3 1 _ rfl).1
  have d2 := (B3 2 _ rfl).1
  have z0 := (B3 0 _ rfl).2
  have z1 := (B3 1 _ rfl).2
  have z2 := (B3 2 _ rfl).2
  go_wp2
  obtain ⟨W, hW⟩ : ∃ W, putL (w.heap.size + 1 + 1 + 1) 0 [.int .i64 0, .int .i64 0, .bool false] w1 = W := ⟨_, rfl⟩
  have BW := Blk.put B3 [.int .i64 0, .int .i64 0, .bool false] rfl
  rw [hW] at BW
  have hF : Ext w W := hW ▸ hE.putL (by omega) _
  simp only [putL, Nat.zero_add, Nat.reduceAdd] at hW
  simp only [hW]
  have q0 := (BW 0 _ rfl).1
  have q1 := (BW 1 _ rfl).1
  have q2 := (BW 2 _ rfl).1
  refine bodyPost_ret (v := .tuple #[.agg #[.int .i64 0, .int .i64 0, .bool false], .bool false]) (by simp [results, Tryd.results15, go_sem, q0, q1, q2]) rfl ⟨rfl, hF⟩

end Go.Proofs.YtejlgcnhfomadaaDoor
