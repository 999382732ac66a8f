/- Walks: the program's functions over curves (impl.Point): what is handed to answered, and the face. -/
import Derived.Test.YtejlgcnhfomadabDoorCloPt
import Derived.Test.YtejlgcnhfomadabDoorFacePt
namespace Go.Proofs.YtejlgcnhfomadabDoor
set_option linter.unusedVariables false
open Go.RowKit

set_option maxHeartbeats 1600000 in
set_option maxRecDepth 100000 in
theorem expPointMul_yes (P A B N gx gy : Int) (n : Int) (a : Pt) (r : Pt) (hC : Hid (∀ (C0 C1 C2 : Nat) (w : World), Blk w C0 [.int .i64 P, .int .i64 A, .int .i64 B, .int .i64 N, .int .i64 gx, .int .i64 gy] → C0 < w.heap.size → Blk w C1 [.int .i64 n] → C1 < w.heap.size → Blk w C2 [.int .i64 a.x, .int .i64 a.y, .bool a.far] → C2 < w.heap.size → Calls Tryd.prog 34 #[.pointer (some ⟨C0, 0, none⟩), .pointer (some ⟨C1, 0, none⟩), .pointer (some ⟨C2, 0, none⟩)] w fun e w' => e = .returned (.agg #[.int .i64 r.x, .int .i64 r.y, .bool r.far]) ∧ Ext w w')) (w : World) :
    Calls Tryd.prog 12 #[.agg #[.int .i64 P, .int .i64 A, .int .i64 B, .int .i64 N, .int .i64 gx, .int .i64 gy], .int .i64 n, .agg #[.int .i64 a.x, .int .i64 a.y, .bool a.far]] w fun e w' => e = .returned (.tuple #[.agg #[.int .i64 r.x, .int .i64 r.y, .bool r.far], .bool true]) ∧ Ext w w' := by
  have hmf : ∀ (fn : Fn) (first cap : Array Value) (w : World), (Instr.makeFunc fn first cap).run Tryd.prog w = .ok (.func fn first cap) w := fun _ _ _ _ => rfl
  go_enter Tryd.func12, Tryd.ntmps12
  go_wp2_with fail
  refine (answPt_yes 34 #[.pointer (some ⟨w.heap.size, 0, none⟩), .pointer (some ⟨w.heap.size + 1, 0, none⟩), .pointer (some ⟨w.heap.size + 1 + 1, 0, none⟩)] (fun _ _ => rfl) r _ (fun W hW => ?_)).mono ?_
  · obtain ⟨B0, B1, B2, B3, hE, hz⟩ := box4 w [.int .i64 P, .int .i64 A, .int .i64 B, .int .i64 N, .int .i64 gx, .int .i64 gy] [.int .i64 n] [.int .i64 a.x, .int .i64 a.y, .bool a.far] [.int .i64 0, .int .i64 0, .bool false] 29 3 26 26 hW
    exact hC.out _ _ _ _ B0 (by omega) B1 (by omega) B2 (by omega)
  rintro e w1 ⟨rfl, hw1⟩
  obtain ⟨B0, B1, B2, B3, hE, hz⟩ := box4 w [.int .i64 P, .int .i64 A, .int .i64 B, .int .i64 N, .int .i64 gx, .int .i64 gy] [.int .i64 n] [.int .i64 a.x, .int .i64 a.y, .bool a.far] [.int .i64 0, .int .i64 0, .bool false] 29 3 26 26 hw1
  clear hw1 hC
  have d0 := (B3 0 _ rfl).1
  have d1 := (B3 1 _ rfl).1
  have d2 := (B3 2 _ rfl).1
  have z0 := (B3 0 _ rfl).2
  have z1 := (B3 1 _ rfl).2
  have z2 := (B3 2 _ rfl).2
  go_wp2
  obtain ⟨W, hW⟩ : ∃ W, putL (w.heap.size + 1 + 1 + 1) 0 [.int .i64 r.x, .int .i64 r.y, .bool r.far] w1 = W := ⟨_, rfl⟩
  have BW := Blk.put B3 [.int .i64 r.x, .int .i64 r.y, .bool r.far] rfl
  rw [hW] at BW
  have hF : Ext w W := hW ▸ hE.putL (by omega) _
  simp only [putL, Nat.zero_add, Nat.reduceAdd] at hW
  simp only [hW]
  have q0 := (BW 0 _ rfl).1
  have q1 := (BW 1 _ rfl).1
  have q2 := (BW 2 _ rfl).1
  refine bodyPost_ret (v := .tuple #[.agg #[.int .i64 r.x, .int .i64 r.y, .bool r.far], .bool true]) (by simp [results, Tryd.results12, go_sem, q0, q1, q2]) rfl ⟨rfl, hF⟩

set_option maxHeartbeats 1600000 in
set_option maxRecDepth 100000 in
theorem expPointMul_no (P A B N gx gy : Int) (n : Int) (a : Pt) (hC : Hid (∀ (C0 C1 C2 : Nat) (w : World), Blk w C0 [.int .i64 P, .int .i64 A, .int .i64 B, .int .i64 N, .int .i64 gx, .int .i64 gy] → C0 < w.heap.size → Blk w C1 [.int .i64 n] → C1 < w.heap.size → Blk w C2 [.int .i64 a.x, .int .i64 a.y, .bool a.far] → C2 < w.heap.size → Calls Tryd.prog 34 #[.pointer (some ⟨C0, 0, none⟩), .pointer (some ⟨C1, 0, none⟩), .pointer (some ⟨C2, 0, none⟩)] w fun e w' => e = .panicked [nrE] ∧ Ext w w')) (w : World) :
    Calls Tryd.prog 12 #[.agg #[.int .i64 P, .int .i64 A, .int .i64 B, .int .i64 N, .int .i64 gx, .int .i64 gy], .int .i64 n, .agg #[.int .i64 a.x, .int .i64 a.y, .bool a.far]] w fun e w' => e = .returned (.tuple #[.agg #[.int .i64 0, .int .i64 0, .bool false], .bool false]) ∧ Ext w w' := by
  have hmf : ∀ (fn : Fn) (first cap : Array Value) (w : World), (Instr.makeFunc fn first cap).run Tryd.prog w = .ok (.func fn first cap) w := fun _ _ _ _ => rfl
  go_enter Tryd.func12, Tryd.ntmps12
  go_wp2_with fail
  refine (answPt_no 34 #[.pointer (some ⟨w.heap.size, 0, none⟩), .pointer (some ⟨w.heap.size + 1, 0, none⟩), .pointer (some ⟨w.heap.size + 1 + 1, 0, none⟩)] (fun _ _ => rfl) _ (fun W hW => ?_)).mono ?_
  · obtain ⟨B0, B1, B2, B3, hE, hz⟩ := box4 w [.int .i64 P, .int .i64 A, .int .i64 B, .int .i64 N, .int .i64 gx, .int .i64 gy] [.int .i64 n] [.int .i64 a.x, .int .i64 a.y, .bool a.far] [.int .i64 0, .int .i64 0, .bool false] 29 3 26 26 hW
    exact hC.out _ _ _ _ B0 (by omega) B1 (by omega) B2 (by omega)
  rintro e w1 ⟨rfl, hw1⟩
  obtain ⟨B0, B1, B2, B3, hE, hz⟩ := box4 w [.int .i64 P, .int .i64 A, .int .i64 B, .int .i64 N, .int .i64 gx, .int .i64 gy] [.int .i64 n] [.int .i64 a.x, .int .i64 a.y, .bool a.far] [.int .i64 0, .int .i64 0, .bool false] 29 3 26 26 hw1
  clear hw1 hC
  have d0 := (B3 0 _ rfl).1
  have d1 := (B3 1 _ rfl).1
  have d2 := (B3 2 _ rfl).1
  have z0 := (B3 0 _ rfl).2
  have z1 := (B3 1 _ rfl).2
  have z2 := (B3 2 _ rfl).2
  go_wp2
  obtain ⟨W, hW⟩ : ∃ W, putL (w.heap.size + 1 + 1 + 1) 0 [.int .i64 0, .int .i64 0, .bool false] w1 = W := ⟨_, rfl⟩
  have BW := Blk.put B3 [.int .i64 0, .int .i64 0, .bool false] rfl
  rw [hW] at BW
  have hF : Ext w W := hW ▸ hE.putL (by omega) _
  simp only [putL, Nat.zero_add, Nat.reduceAdd] at hW
  simp only [hW]
  have q0 := (BW 0 _ rfl).1
  have q1 := (BW 1 _ rfl).1
  have q2 := (BW 2 _ rfl).1
  refine bodyPost_ret (v := .tuple #[.agg #[.int .i64 0, .int .i64 0, .bool false], .bool false]) (by simp [results, Tryd.results12, go_sem, q0, q1, q2]) rfl ⟨rfl, hF⟩

end Go.Proofs.YtejlgcnhfomadabDoor
