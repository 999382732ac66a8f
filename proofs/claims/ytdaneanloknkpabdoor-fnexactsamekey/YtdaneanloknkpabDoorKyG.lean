/- The walk of the law FnExactSameKey (written by mkkey.py). -/
import Derived.Test.YtdaneanloknkpabDoorKyF
namespace Go.Proofs.YtdaneanloknkpabDoor
set_option linter.unusedVariables false
set_option linter.unusedSimpArgs false
open Go.RowKit

set_option maxHeartbeats 6400000 in
set_option maxRecDepth 100000 in
theorem lawSameKey_at (k l : Ky) (ad : Option Addr) (b off cap : Nat) (ad2 : Option Addr) (b2 off2 cap2 : Nat) (R : Bool) (w : World) (hsm : k.n ≤ 9223372036854775807) (hsm2 : l.n ≤ 9223372036854775807)
    (HTo : Hid (k.n ≤ 1048576 → ∀ W, Ext w W → Calls Tryd.prog 10 #[.agg #[.int .i64 k.kind, .slice ad k.n cap, .int .i64 k.e, .int .i64 k.cP, .int .i64 k.cA, .int .i64 k.cB, .int .i64 k.cN, .int .i64 k.cX, .int .i64 k.cY, .int .i64 k.q.x, .int .i64 k.q.y, .bool k.q.far, .int .i64 k.dP, .int .i64 k.dD, .int .i64 k.dL, .int .i64 k.dX, .int .i64 k.dY, .int .i64 k.a.x, .int .i64 k.a.y]] W fun e w' => GivesKy W k e w'))
    (HTo2 : Hid (l.n ≤ 1048576 → ∀ W, Ext w W → Calls Tryd.prog 10 #[.agg #[.int .i64 l.kind, .slice ad2 l.n cap2, .int .i64 l.e, .int .i64 l.cP, .int .i64 l.cA, .int .i64 l.cB, .int .i64 l.cN, .int .i64 l.cX, .int .i64 l.cY, .int .i64 l.q.x, .int .i64 l.q.y, .bool l.q.far, .int .i64 l.dP, .int .i64 l.dD, .int .i64 l.dL, .int .i64 l.dX, .int .i64 l.dY, .int .i64 l.a.x, .int .i64 l.a.y]] W fun e w' => GivesKy W l e w'))
    (HSp : Hid (k.n ≤ 1048576 → l.n ≤ 1048576 → ∀ (R1 R2 : Nat) (W : World), Seg W (some ⟨R1, 0, none⟩) R1 0 k.n k.f → Seg W (some ⟨R2, 0, none⟩) R2 0 l.n l.f → Calls Tryd.prog 13 #[.agg #[.int .i64 k.kind, .slice (some ⟨R1, 0, none⟩) k.n k.n, .int .i64 k.e, .int .i64 k.cP, .int .i64 k.cA, .int .i64 k.cB, .int .i64 k.cN, .int .i64 k.cX, .int .i64 k.cY, .int .i64 k.q.x, .int .i64 k.q.y, .bool k.q.far, .int .i64 k.dP, .int .i64 k.dD, .int .i64 k.dL, .int .i64 k.dX, .int .i64 k.dY, .int .i64 k.a.x, .int .i64 k.a.y], .agg #[.int .i64 l.kind, .slice (some ⟨R2, 0, none⟩) l.n l.n, .int .i64 l.e, .int .i64 l.cP, .int .i64 l.cA, .int .i64 l.cB, .int .i64 l.cN, .int .i64 l.cX, .int .i64 l.cY, .int .i64 l.q.x, .int .i64 l.q.y, .bool l.q.far, .int .i64 l.dP, .int .i64 l.dD, .int .i64 l.dL, .int .i64 l.dX, .int .i64 l.dY, .int .i64 l.a.x, .int .i64 l.a.y]] W fun e w' => e = .returned (.bool R) ∧ Ext W w'))
    (HIm : Hid (k.n ≤ 1048576 → l.n ≤ 1048576 → ∀ (R1 R2 : Nat) (W : World), Seg W (some ⟨R1, 0, none⟩) R1 0 k.n k.f → Seg W (some ⟨R2, 0, none⟩) R2 0 l.n l.f → Calls Tryd.prog 14 #[.agg #[.int .i64 k.kind, .slice (some ⟨R1, 0, none⟩) k.n k.n, .int .i64 k.e, .int .i64 k.cP, .int .i64 k.cA, .int .i64 k.cB, .int .i64 k.cN, .int .i64 k.cX, .int .i64 k.cY, .int .i64 k.q.x, .int .i64 k.q.y, .bool k.q.far, .int .i64 k.dP, .int .i64 k.dD, .int .i64 k.dL, .int .i64 k.dX, .int .i64 k.dY, .int .i64 k.a.x, .int .i64 k.a.y], .agg #[.int .i64 l.kind, .slice (some ⟨R2, 0, none⟩) l.n l.n, .int .i64 l.e, .int .i64 l.cP, .int .i64 l.cA, .int .i64 l.cB, .int .i64 l.cN, .int .i64 l.cX, .int .i64 l.cY, .int .i64 l.q.x, .int .i64 l.q.y, .bool l.q.far, .int .i64 l.dP, .int .i64 l.dD, .int .i64 l.dL, .int .i64 l.dX, .int .i64 l.dY, .int .i64 l.a.x, .int .i64 l.a.y]] W fun e w' => e = .returned (.bool R) ∧ Ext W w'))
    (HEq : Hid (k.n ≤ 1048576 → ∀ (R R2 : Nat) (W : World), Seg W (some ⟨R, 0, none⟩) R 0 k.n k.f → Seg W (some ⟨R2, 0, none⟩) R2 0 k.n k.f → Calls Tryd.prog 12 #[.agg #[.int .i64 k.kind, .slice (some ⟨R, 0, none⟩) k.n k.n, .int .i64 k.e, .int .i64 k.cP, .int .i64 k.cA, .int .i64 k.cB, .int .i64 k.cN, .int .i64 k.cX, .int .i64 k.cY, .int .i64 k.q.x, .int .i64 k.q.y, .bool k.q.far, .int .i64 k.dP, .int .i64 k.dD, .int .i64 k.dL, .int .i64 k.dX, .int .i64 k.dY, .int .i64 k.a.x, .int .i64 k.a.y], .agg #[.int .i64 k.kind, .slice (some ⟨R2, 0, none⟩) k.n k.n, .int .i64 k.e, .int .i64 k.cP, .int .i64 k.cA, .int .i64 k.cB, .int .i64 k.cN, .int .i64 k.cX, .int .i64 k.cY, .int .i64 k.q.x, .int .i64 k.q.y, .bool k.q.far, .int .i64 k.dP, .int .i64 k.dD, .int .i64 k.dL, .int .i64 k.dX, .int .i64 k.dY, .int .i64 k.a.x, .int .i64 k.a.y]] W fun e w' => e = .returned (.bool true) ∧ Ext W w'))
    (HEq2 : Hid (l.n ≤ 1048576 → ∀ (R R2 : Nat) (W : World), Seg W (some ⟨R, 0, none⟩) R 0 l.n l.f → Seg W (some ⟨R2, 0, none⟩) R2 0 l.n l.f → Calls Tryd.prog 12 #[.agg #[.int .i64 l.kind, .slice (some ⟨R, 0, none⟩) l.n l.n, .int .i64 l.e, .int .i64 l.cP, .int .i64 l.cA, .int .i64 l.cB, .int .i64 l.cN, .int .i64 l.cX, .int .i64 l.cY, .int .i64 l.q.x, .int .i64 l.q.y, .bool l.q.far, .int .i64 l.dP, .int .i64 l.dD, .int .i64 l.dL, .int .i64 l.dX, .int .i64 l.dY, .int .i64 l.a.x, .int .i64 l.a.y], .agg #[.int .i64 l.kind, .slice (some ⟨R2, 0, none⟩) l.n l.n, .int .i64 l.e, .int .i64 l.cP, .int .i64 l.cA, .int .i64 l.cB, .int .i64 l.cN, .int .i64 l.cX, .int .i64 l.cY, .int .i64 l.q.x, .int .i64 l.q.y, .bool l.q.far, .int .i64 l.dP, .int .i64 l.dD, .int .i64 l.dL, .int .i64 l.dX, .int .i64 l.dY, .int .i64 l.a.x, .int .i64 l.a.y]] W fun e w' => e = .returned (.bool true) ∧ Ext W w')) :
    Calls Tryd.prog 4 #[.agg #[.int .i64 k.kind, .slice ad k.n cap, .int .i64 k.e, .int .i64 k.cP, .int .i64 k.cA, .int .i64 k.cB, .int .i64 k.cN, .int .i64 k.cX, .int .i64 k.cY, .int .i64 k.q.x, .int .i64 k.q.y, .bool k.q.far, .int .i64 k.dP, .int .i64 k.dD, .int .i64 k.dL, .int .i64 k.dX, .int .i64 k.dY, .int .i64 k.a.x, .int .i64 k.a.y], .agg #[.int .i64 l.kind, .slice ad2 l.n cap2, .int .i64 l.e, .int .i64 l.cP, .int .i64 l.cA, .int .i64 l.cB, .int .i64 l.cN, .int .i64 l.cX, .int .i64 l.cY, .int .i64 l.q.x, .int .i64 l.q.y, .bool l.q.far, .int .i64 l.dP, .int .i64 l.dD, .int .i64 l.dL, .int .i64 l.dX, .int .i64 l.dY, .int .i64 l.a.x, .int .i64 l.a.y]] w fun e w' => e = .returned (.bool true) ∧ Ext w w' := by
  obtain ⟨V, hV⟩ : ∃ V, (w.alloc (.cells #[.int .i64 k.kind, .slice ad k.n cap, .int .i64 k.e, .int .i64 k.cP, .int .i64 k.cA, .int .i64 k.cB, .int .i64 k.cN, .int .i64 k.cX, .int .i64 k.cY, .int .i64 k.q.x, .int .i64 k.q.y, .bool k.q.far, .int .i64 k.dP, .int .i64 k.dD, .int .i64 k.dL, .int .i64 k.dX, .int .i64 k.dY, .int .i64 k.a.x, .int .i64 k.a.y] 32)).alloc (.cells #[.int .i64 l.kind, .slice ad2 l.n cap2, .int .i64 l.e, .int .i64 l.cP, .int .i64 l.cA, .int .i64 l.cB, .int .i64 l.cN, .int .i64 l.cX, .int .i64 l.cY, .int .i64 l.q.x, .int .i64 l.q.y, .bool l.q.far, .int .i64 l.dP, .int .i64 l.dD, .int .i64 l.dL, .int .i64 l.dX, .int .i64 l.dY, .int .i64 l.a.x, .int .i64 l.a.y] 32) = V := ⟨_, rfl⟩
  obtain ⟨B0, B1, hE, -⟩ := box2 w [.int .i64 k.kind, .slice ad k.n cap, .int .i64 k.e, .int .i64 k.cP, .int .i64 k.cA, .int .i64 k.cB, .int .i64 k.cN, .int .i64 k.cX, .int .i64 k.cY, .int .i64 k.q.x, .int .i64 k.q.y, .bool k.q.far, .int .i64 k.dP, .int .i64 k.dD, .int .i64 k.dL, .int .i64 k.dX, .int .i64 k.dY, .int .i64 k.a.x, .int .i64 k.a.y] [.int .i64 l.kind, .slice ad2 l.n cap2, .int .i64 l.e, .int .i64 l.cP, .int .i64 l.cA, .int .i64 l.cB, .int .i64 l.cN, .int .i64 l.cX, .int .i64 l.cY, .int .i64 l.q.x, .int .i64 l.q.y, .bool l.q.far, .int .i64 l.dP, .int .i64 l.dD, .int .i64 l.dL, .int .i64 l.dX, .int .i64 l.dY, .int .i64 l.a.x, .int .i64 l.a.y] 32 32 (w1 := V) (by rw [← hV]; exact Ext.refl _)
  have HA := hide B0
  have HB := hide B1
  have HE := hide hE
  clear B0 B1 hE
  have hldA := run_loadKeyL [.int .i64 k.kind, .slice ad k.n cap, .int .i64 k.e, .int .i64 k.cP, .int .i64 k.cA, .int .i64 k.cB, .int .i64 k.cN, .int .i64 k.cX, .int .i64 k.cY, .int .i64 k.q.x, .int .i64 k.q.y, .bool k.q.far, .int .i64 k.dP, .int .i64 k.dD, .int .i64 k.dL, .int .i64 k.dX, .int .i64 k.dY, .int .i64 k.a.x, .int .i64 k.a.y] rfl w.heap.size _ (fun j v h => (HA.out j v h).1)
  have hldB := run_loadKeyL [.int .i64 l.kind, .slice ad2 l.n cap2, .int .i64 l.e, .int .i64 l.cP, .int .i64 l.cA, .int .i64 l.cB, .int .i64 l.cN, .int .i64 l.cX, .int .i64 l.cY, .int .i64 l.q.x, .int .i64 l.q.y, .bool l.q.far, .int .i64 l.dP, .int .i64 l.dD, .int .i64 l.dL, .int .i64 l.dX, .int .i64 l.dY, .int .i64 l.a.x, .int .i64 l.a.y] rfl (w.heap.size + 1) _ (fun j v h => (HB.out j v h).1)
  go_enter Tryd.func4, Tryd.ntmps4
  go_wp2_with (first | (refine wpList_load_on (by first | rfl | simp [Region.wanted, yielded]) 32 _ rfl ⟨w.heap.size, 0, none⟩ rfl _ hldA ?_) | (refine wpList_load_on (by first | rfl | simp [Region.wanted, yielded]) 32 _ rfl ⟨w.heap.size + 1, 0, none⟩ rfl _ hldB ?_))
  refine (szKey_any k ad cap 1048576 _ (by omega) (by omega) hsm).mono ?_
  rintro e w1 ⟨⟨z, rfl, z0, z1, hz⟩, HEW⟩
  replace HA := hide (Blk.ext HA.out HEW (World.block_lt_of_cell? _ _ (HA.out 0 _ rfl).1))
  replace HB := hide (Blk.ext HB.out HEW (World.block_lt_of_cell? _ _ (HB.out 0 _ rfl).1))
  replace HE := hide (Ext.trans HE.out HEW)
  clear HEW
  clear hldA hldB
  by_cases hz0 : z < 0
  · go_wp2
    go_ret
    exact ⟨rfl, HE.out⟩
  have hn : k.n ≤ 1048576 := by have := hz (by omega); omega
  clear hz
  have hldA := run_loadKeyL [.int .i64 k.kind, .slice ad k.n cap, .int .i64 k.e, .int .i64 k.cP, .int .i64 k.cA, .int .i64 k.cB, .int .i64 k.cN, .int .i64 k.cX, .int .i64 k.cY, .int .i64 k.q.x, .int .i64 k.q.y, .bool k.q.far, .int .i64 k.dP, .int .i64 k.dD, .int .i64 k.dL, .int .i64 k.dX, .int .i64 k.dY, .int .i64 k.a.x, .int .i64 k.a.y] rfl w.heap.size _ (fun j v h => (HA.out j v h).1)
  have hldB := run_loadKeyL [.int .i64 l.kind, .slice ad2 l.n cap2, .int .i64 l.e, .int .i64 l.cP, .int .i64 l.cA, .int .i64 l.cB, .int .i64 l.cN, .int .i64 l.cX, .int .i64 l.cY, .int .i64 l.q.x, .int .i64 l.q.y, .bool l.q.far, .int .i64 l.dP, .int .i64 l.dD, .int .i64 l.dL, .int .i64 l.dX, .int .i64 l.dY, .int .i64 l.a.x, .int .i64 l.a.y] rfl (w.heap.size + 1) _ (fun j v h => (HB.out j v h).1)
  go_wp2_with (first | (refine wpList_load_on (by first | rfl | simp [Region.wanted, yielded]) 32 _ rfl ⟨w.heap.size, 0, none⟩ rfl _ hldA ?_) | (refine wpList_load_on (by first | rfl | simp [Region.wanted, yielded]) 32 _ rfl ⟨w.heap.size + 1, 0, none⟩ rfl _ hldB ?_))
  refine (szKey_any l ad2 cap2 z _ (by omega) (by omega) hsm2).mono ?_
  rintro e w2 ⟨⟨y, rfl, y0, y1, hy⟩, HEW⟩
  replace HA := hide (Blk.ext HA.out HEW (World.block_lt_of_cell? _ _ (HA.out 0 _ rfl).1))
  replace HB := hide (Blk.ext HB.out HEW (World.block_lt_of_cell? _ _ (HB.out 0 _ rfl).1))
  replace HE := hide (Ext.trans HE.out HEW)
  clear HEW
  clear hldA hldB
  by_cases hy0 : y < 0
  · go_wp2
    go_ret
    exact ⟨rfl, HE.out⟩
  have hn2 : l.n ≤ 1048576 := by have := hy (by omega); omega
  clear hy
  have HT := hide (HTo.out hn)
  have HT2 := hide (HTo2.out hn2)
  have HS := hide (HSp.out hn hn2)
  have HI := hide (HIm.out hn hn2)
  have HQ := hide (HEq.out hn)
  have HQ2 := hide (HEq2.out hn2)
  clear HTo HTo2 HSp HIm HEq HEq2
  go_wp2_with fail
  have ltA : w.heap.size < w2.heap.size := World.block_lt_of_cell? _ _ (HA.out 0 _ rfl).1
  have ltB : w.heap.size + 1 < w2.heap.size := World.block_lt_of_cell? _ _ (HB.out 0 _ rfl).1
  refine anyK_begin (fun _ => False) 6 rfl (by kernel_rfl) ?_
  refine anyK_take 0 1 5 rfl (by decide) (by kernel_rfl) (fun _ _ d _ _ h => by cases d <;> exact h) ?_
  refine head_load (by first | rfl | simp [Region.wanted, yielded]) rfl rfl (fun q => run_loadKeyL [.int .i64 k.kind, .slice ad k.n cap, .int .i64 k.e, .int .i64 k.cP, .int .i64 k.cA, .int .i64 k.cB, .int .i64 k.cN, .int .i64 k.cX, .int .i64 k.cY, .int .i64 k.q.x, .int .i64 k.q.y, .bool k.q.far, .int .i64 k.dP, .int .i64 k.dD, .int .i64 k.dL, .int .i64 k.dX, .int .i64 k.dY, .int .i64 k.a.x, .int .i64 k.a.y] rfl w.heap.size _ (fun j v h => (blk_re HA.out ltA q j v h).1)) ?_
  refine headC_nil ?_
  refine anyK_take 2 1 4 rfl (by decide) (by kernel_rfl) (fun _ _ d _ _ h => by cases d <;> exact h) ?_
  refine head_load (by first | rfl | simp [Region.wanted, yielded]) rfl rfl (fun q => run_loadKeyL [.int .i64 l.kind, .slice ad2 l.n cap2, .int .i64 l.e, .int .i64 l.cP, .int .i64 l.cA, .int .i64 l.cB, .int .i64 l.cN, .int .i64 l.cX, .int .i64 l.cY, .int .i64 l.q.x, .int .i64 l.q.y, .bool l.q.far, .int .i64 l.dP, .int .i64 l.dD, .int .i64 l.dL, .int .i64 l.dX, .int .i64 l.dY, .int .i64 l.a.x, .int .i64 l.a.y] rfl (w.heap.size + 1) _ (fun j v h => (blk_re HB.out ltB q j v h).1)) ?_
  refine headC_nil ?_
  refine anyK_one 1 (by kernel_rfl) ?_
  refine stepK_run rfl ?_
  intro u1 g1 K hKK
  go_simp
  refine (HT.out _ (Ext.trans HE.out g1)).mono ?_
  rintro e u2 ⟨S1, rfl, -, hs1, hE1⟩
  have HX := hide (Ext.trans g1 hE1)
  go_simp
  refine hKK _ _ (Grw.of_ext HX.out) ?_
  clear hKK K g1 hE1
  refine anyK_one 3 (by kernel_rfl) ?_
  refine stepK_run rfl ?_
  intro u3 g3 K hKK
  go_simp
  refine (HT2.out _ (Ext.trans HE.out (Ext.trans HX.out g3))).mono ?_
  rintro e u4 ⟨S2, rfl, -, hs2, hE2⟩
  replace hs1 := hs1.of_all (Ext.trans g3 hE2)
  replace HX := hide (Ext.trans HX.out (Ext.trans g3 hE2))
  go_simp
  refine hKK _ _ (Grw.of_ext HX.out) ?_
  clear hKK K g3 hE2
  refine anyK_one 4 (by kernel_rfl) ?_
  refine stepK_run rfl ?_
  intro u5 g5 K hKK
  go_simp
  refine (HS.out S1 S2 _ (hs1.of_all g5) (hs2.of_all g5)).mono ?_
  rintro e u6 ⟨rfl, hE3⟩
  replace HX := hide (Ext.trans HX.out (Ext.trans g5 hE3))
  go_simp
  refine hKK _ _ (Grw.of_ext HX.out) ?_
  clear hKK K g5 hE3 hs1 hs2
  refine anyK_one 5 (by kernel_rfl) ?_
  refine stepK_run rfl ?_
  intro u7 g7 K hKK
  go_simp
  refine hKK _ _ (Grw.of_ext (Ext.trans HX.out g7)) ?_
  clear hKK K
  refine anyK_done (by kernel_rfl) ?_ 0
  intro u8 g8
  have HEW := Ext.trans HX.out (Ext.trans g7 g8)
  clear g7 g8 HX
  replace HA := hide (Blk.ext HA.out HEW (World.block_lt_of_cell? _ _ (HA.out 0 _ rfl).1))
  replace HB := hide (Blk.ext HB.out HEW (World.block_lt_of_cell? _ _ (HB.out 0 _ rfl).1))
  replace HE := hide (Ext.trans HE.out HEW)
  clear HEW
  have hldA := run_loadKeyL [.int .i64 k.kind, .slice ad k.n cap, .int .i64 k.e, .int .i64 k.cP, .int .i64 k.cA, .int .i64 k.cB, .int .i64 k.cN, .int .i64 k.cX, .int .i64 k.cY, .int .i64 k.q.x, .int .i64 k.q.y, .bool k.q.far, .int .i64 k.dP, .int .i64 k.dD, .int .i64 k.dL, .int .i64 k.dX, .int .i64 k.dY, .int .i64 k.a.x, .int .i64 k.a.y] rfl w.heap.size _ (fun j v h => (HA.out j v h).1)
  have hldB := run_loadKeyL [.int .i64 l.kind, .slice ad2 l.n cap2, .int .i64 l.e, .int .i64 l.cP, .int .i64 l.cA, .int .i64 l.cB, .int .i64 l.cN, .int .i64 l.cX, .int .i64 l.cY, .int .i64 l.q.x, .int .i64 l.q.y, .bool l.q.far, .int .i64 l.dP, .int .i64 l.dD, .int .i64 l.dL, .int .i64 l.dX, .int .i64 l.dY, .int .i64 l.a.x, .int .i64 l.a.y] rfl (w.heap.size + 1) _ (fun j v h => (HB.out j v h).1)
  go_wp2_with (first | (refine wpList_load_on (by first | rfl | simp [Region.wanted, yielded]) 32 _ rfl ⟨w.heap.size, 0, none⟩ rfl _ hldA ?_) | (refine wpList_load_on (by first | rfl | simp [Region.wanted, yielded]) 32 _ rfl ⟨w.heap.size + 1, 0, none⟩ rfl _ hldB ?_))
  refine (HT.out _ HE.out).mono ?_
  rintro e w4 ⟨R4, rfl, -, hsk, HEW⟩
  replace HA := hide (Blk.ext HA.out HEW (World.block_lt_of_cell? _ _ (HA.out 0 _ rfl).1))
  replace HB := hide (Blk.ext HB.out HEW (World.block_lt_of_cell? _ _ (HB.out 0 _ rfl).1))
  replace HE := hide (Ext.trans HE.out HEW)
  clear HEW
  clear hldA hldB
  have hst := run_storeKey [.int .i64 k.kind, .slice (some ⟨R4, 0, none⟩) k.n k.n, .int .i64 k.e, .int .i64 k.cP, .int .i64 k.cA, .int .i64 k.cB, .int .i64 k.cN, .int .i64 k.cX, .int .i64 k.cY, .int .i64 k.q.x, .int .i64 k.q.y, .bool k.q.far, .int .i64 k.dP, .int .i64 k.dD, .int .i64 k.dL, .int .i64 k.dX, .int .i64 k.dY, .int .i64 k.a.x, .int .i64 k.a.y] rfl (by simp [Value.oneCell']) w4.heap.size (w4.alloc (.cells #[.int .i64 0, .slice none 0 0, .int .i64 0, .int .i64 0, .int .i64 0, .int .i64 0, .int .i64 0, .int .i64 0, .int .i64 0, .int .i64 0, .int .i64 0, .bool false, .int .i64 0, .int .i64 0, .int .i64 0, .int .i64 0, .int .i64 0, .int .i64 0, .int .i64 0] 40)) (Blk.alloc w4 [.int .i64 0, .slice none 0 0, .int .i64 0, .int .i64 0, .int .i64 0, .int .i64 0, .int .i64 0, .int .i64 0, .int .i64 0, .int .i64 0, .int .i64 0, .bool false, .int .i64 0, .int .i64 0, .int .i64 0, .int .i64 0, .int .i64 0, .int .i64 0, .int .i64 0] 40) rfl
  have hB5 := Blk.putAll (vs := [.int .i64 k.kind, .slice (some ⟨R4, 0, none⟩) k.n k.n, .int .i64 k.e, .int .i64 k.cP, .int .i64 k.cA, .int .i64 k.cB, .int .i64 k.cN, .int .i64 k.cX, .int .i64 k.cY, .int .i64 k.q.x, .int .i64 k.q.y, .bool k.q.far, .int .i64 k.dP, .int .i64 k.dD, .int .i64 k.dL, .int .i64 k.dX, .int .i64 k.dY, .int .i64 k.a.x, .int .i64 k.a.y]) (Blk.alloc w4 [.int .i64 0, .slice none 0 0, .int .i64 0, .int .i64 0, .int .i64 0, .int .i64 0, .int .i64 0, .int .i64 0, .int .i64 0, .int .i64 0, .int .i64 0, .bool false, .int .i64 0, .int .i64 0, .int .i64 0, .int .i64 0, .int .i64 0, .int .i64 0, .int .i64 0] 40) rfl
  have HEW : Ext w4 (putL w4.heap.size 0 [.int .i64 k.kind, .slice (some ⟨R4, 0, none⟩) k.n k.n, .int .i64 k.e, .int .i64 k.cP, .int .i64 k.cA, .int .i64 k.cB, .int .i64 k.cN, .int .i64 k.cX, .int .i64 k.cY, .int .i64 k.q.x, .int .i64 k.q.y, .bool k.q.far, .int .i64 k.dP, .int .i64 k.dD, .int .i64 k.dL, .int .i64 k.dX, .int .i64 k.dY, .int .i64 k.a.x, .int .i64 k.a.y] (w4.alloc (.cells #[.int .i64 0, .slice none 0 0, .int .i64 0, .int .i64 0, .int .i64 0, .int .i64 0, .int .i64 0, .int .i64 0, .int .i64 0, .int .i64 0, .int .i64 0, .bool false, .int .i64 0, .int .i64 0, .int .i64 0, .int .i64 0, .int .i64 0, .int .i64 0, .int .i64 0] 40))) := below_putL (Nat.le_refl _) _ 0 _ (Ext.alloc _ _)
  obtain ⟨V5, hVn⟩ : ∃ V5, putL w4.heap.size 0 [.int .i64 k.kind, .slice (some ⟨R4, 0, none⟩) k.n k.n, .int .i64 k.e, .int .i64 k.cP, .int .i64 k.cA, .int .i64 k.cB, .int .i64 k.cN, .int .i64 k.cX, .int .i64 k.cY, .int .i64 k.q.x, .int .i64 k.q.y, .bool k.q.far, .int .i64 k.dP, .int .i64 k.dD, .int .i64 k.dL, .int .i64 k.dX, .int .i64 k.dY, .int .i64 k.a.x, .int .i64 k.a.y] (w4.alloc (.cells #[.int .i64 0, .slice none 0 0, .int .i64 0, .int .i64 0, .int .i64 0, .int .i64 0, .int .i64 0, .int .i64 0, .int .i64 0, .int .i64 0, .int .i64 0, .bool false, .int .i64 0, .int .i64 0, .int .i64 0, .int .i64 0, .int .i64 0, .int .i64 0, .int .i64 0] 40)) = V5 := ⟨_, rfl⟩
  rw [hVn] at hst hB5 HEW
  replace HA := hide (Blk.ext HA.out HEW (World.block_lt_of_cell? _ _ (HA.out 0 _ rfl).1))
  replace HB := hide (Blk.ext HB.out HEW (World.block_lt_of_cell? _ _ (HB.out 0 _ rfl).1))
  replace HE := hide (Ext.trans HE.out HEW)
  have HB5 := hide hB5
  replace hsk := hsk.of_all HEW
  clear HEW hB5 hVn
  have hldA := run_loadKeyL [.int .i64 k.kind, .slice ad k.n cap, .int .i64 k.e, .int .i64 k.cP, .int .i64 k.cA, .int .i64 k.cB, .int .i64 k.cN, .int .i64 k.cX, .int .i64 k.cY, .int .i64 k.q.x, .int .i64 k.q.y, .bool k.q.far, .int .i64 k.dP, .int .i64 k.dD, .int .i64 k.dL, .int .i64 k.dX, .int .i64 k.dY, .int .i64 k.a.x, .int .i64 k.a.y] rfl w.heap.size _ (fun j v h => (HA.out j v h).1)
  have hldB := run_loadKeyL [.int .i64 l.kind, .slice ad2 l.n cap2, .int .i64 l.e, .int .i64 l.cP, .int .i64 l.cA, .int .i64 l.cB, .int .i64 l.cN, .int .i64 l.cX, .int .i64 l.cY, .int .i64 l.q.x, .int .i64 l.q.y, .bool l.q.far, .int .i64 l.dP, .int .i64 l.dD, .int .i64 l.dL, .int .i64 l.dX, .int .i64 l.dY, .int .i64 l.a.x, .int .i64 l.a.y] rfl (w.heap.size + 1) _ (fun j v h => (HB.out j v h).1)
  go_wp2_with (first | (refine wpList_store_on (by first | rfl | simp [Region.wanted, yielded]) 40 _ _ rfl _ rfl _ rfl _ hst ?_) | (first | (refine wpList_load_on (by first | rfl | simp [Region.wanted, yielded]) 32 _ rfl ⟨w.heap.size, 0, none⟩ rfl _ hldA ?_) | (refine wpList_load_on (by first | rfl | simp [Region.wanted, yielded]) 32 _ rfl ⟨w.heap.size + 1, 0, none⟩ rfl _ hldB ?_)))
  refine (HT2.out _ HE.out).mono ?_
  rintro e w6 ⟨R6, rfl, -, hsl, HEW⟩
  replace HB5 := hide (Blk.ext HB5.out HEW (World.block_lt_of_cell? _ _ (HB5.out 0 _ rfl).1))
  replace hsk := hsk.of_all HEW
  replace HA := hide (Blk.ext HA.out HEW (World.block_lt_of_cell? _ _ (HA.out 0 _ rfl).1))
  replace HB := hide (Blk.ext HB.out HEW (World.block_lt_of_cell? _ _ (HB.out 0 _ rfl).1))
  replace HE := hide (Ext.trans HE.out HEW)
  clear HEW
  clear hldA hldB hst
  have hst := run_storeKey [.int .i64 l.kind, .slice (some ⟨R6, 0, none⟩) l.n l.n, .int .i64 l.e, .int .i64 l.cP, .int .i64 l.cA, .int .i64 l.cB, .int .i64 l.cN, .int .i64 l.cX, .int .i64 l.cY, .int .i64 l.q.x, .int .i64 l.q.y, .bool l.q.far, .int .i64 l.dP, .int .i64 l.dD, .int .i64 l.dL, .int .i64 l.dX, .int .i64 l.dY, .int .i64 l.a.x, .int .i64 l.a.y] rfl (by simp [Value.oneCell']) w6.heap.size (w6.alloc (.cells #[.int .i64 0, .slice none 0 0, .int .i64 0, .int .i64 0, .int .i64 0, .int .i64 0, .int .i64 0, .int .i64 0, .int .i64 0, .int .i64 0, .int .i64 0, .bool false, .int .i64 0, .int .i64 0, .int .i64 0, .int .i64 0, .int .i64 0, .int .i64 0, .int .i64 0] 40)) (Blk.alloc w6 [.int .i64 0, .slice none 0 0, .int .i64 0, .int .i64 0, .int .i64 0, .int .i64 0, .int .i64 0, .int .i64 0, .int .i64 0, .int .i64 0, .int .i64 0, .bool false, .int .i64 0, .int .i64 0, .int .i64 0, .int .i64 0, .int .i64 0, .int .i64 0, .int .i64 0] 40) rfl
  have hB7 := Blk.putAll (vs := [.int .i64 l.kind, .slice (some ⟨R6, 0, none⟩) l.n l.n, .int .i64 l.e, .int .i64 l.cP, .int .i64 l.cA, .int .i64 l.cB, .int .i64 l.cN, .int .i64 l.cX, .int .i64 l.cY, .int .i64 l.q.x, .int .i64 l.q.y, .bool l.q.far, .int .i64 l.dP, .int .i64 l.dD, .int .i64 l.dL, .int .i64 l.dX, .int .i64 l.dY, .int .i64 l.a.x, .int .i64 l.a.y]) (Blk.alloc w6 [.int .i64 0, .slice none 0 0, .int .i64 0, .int .i64 0, .int .i64 0, .int .i64 0, .int .i64 0, .int .i64 0, .int .i64 0, .int .i64 0, .int .i64 0, .bool false, .int .i64 0, .int .i64 0, .int .i64 0, .int .i64 0, .int .i64 0, .int .i64 0, .int .i64 0] 40) rfl
  have HEW : Ext w6 (putL w6.heap.size 0 [.int .i64 l.kind, .slice (some ⟨R6, 0, none⟩) l.n l.n, .int .i64 l.e, .int .i64 l.cP, .int .i64 l.cA, .int .i64 l.cB, .int .i64 l.cN, .int .i64 l.cX, .int .i64 l.cY, .int .i64 l.q.x, .int .i64 l.q.y, .bool l.q.far, .int .i64 l.dP, .int .i64 l.dD, .int .i64 l.dL, .int .i64 l.dX, .int .i64 l.dY, .int .i64 l.a.x, .int .i64 l.a.y] (w6.alloc (.cells #[.int .i64 0, .slice none 0 0, .int .i64 0, .int .i64 0, .int .i64 0, .int .i64 0, .int .i64 0, .int .i64 0, .int .i64 0, .int .i64 0, .int .i64 0, .bool false, .int .i64 0, .int .i64 0, .int .i64 0, .int .i64 0, .int .i64 0, .int .i64 0, .int .i64 0] 40))) := below_putL (Nat.le_refl _) _ 0 _ (Ext.alloc _ _)
  obtain ⟨V7, hVn⟩ : ∃ V5, putL w6.heap.size 0 [.int .i64 l.kind, .slice (some ⟨R6, 0, none⟩) l.n l.n, .int .i64 l.e, .int .i64 l.cP, .int .i64 l.cA, .int .i64 l.cB, .int .i64 l.cN, .int .i64 l.cX, .int .i64 l.cY, .int .i64 l.q.x, .int .i64 l.q.y, .bool l.q.far, .int .i64 l.dP, .int .i64 l.dD, .int .i64 l.dL, .int .i64 l.dX, .int .i64 l.dY, .int .i64 l.a.x, .int .i64 l.a.y] (w6.alloc (.cells #[.int .i64 0, .slice none 0 0, .int .i64 0, .int .i64 0, .int .i64 0, .int .i64 0, .int .i64 0, .int .i64 0, .int .i64 0, .int .i64 0, .int .i64 0, .bool false, .int .i64 0, .int .i64 0, .int .i64 0, .int .i64 0, .int .i64 0, .int .i64 0, .int .i64 0] 40)) = V5 := ⟨_, rfl⟩
  rw [hVn] at hst hB7 HEW
  replace HB5 := hide (Blk.ext HB5.out HEW (World.block_lt_of_cell? _ _ (HB5.out 0 _ rfl).1))
  replace hsk := hsk.of_all HEW
  replace hsl := hsl.of_all HEW
  have HB7 := hide hB7
  replace HA := hide (Blk.ext HA.out HEW (World.block_lt_of_cell? _ _ (HA.out 0 _ rfl).1))
  replace HB := hide (Blk.ext HB.out HEW (World.block_lt_of_cell? _ _ (HB.out 0 _ rfl).1))
  replace HE := hide (Ext.trans HE.out HEW)
  clear HEW
  clear hB7 hVn
  have hldK := run_loadKey [.int .i64 k.kind, .slice (some ⟨R4, 0, none⟩) k.n k.n, .int .i64 k.e, .int .i64 k.cP, .int .i64 k.cA, .int .i64 k.cB, .int .i64 k.cN, .int .i64 k.cX, .int .i64 k.cY, .int .i64 k.q.x, .int .i64 k.q.y, .bool k.q.far, .int .i64 k.dP, .int .i64 k.dD, .int .i64 k.dL, .int .i64 k.dX, .int .i64 k.dY, .int .i64 k.a.x, .int .i64 k.a.y] rfl w4.heap.size _ (fun j v h => (HB5.out j v h).1)
  have hldM := run_loadKey [.int .i64 l.kind, .slice (some ⟨R6, 0, none⟩) l.n l.n, .int .i64 l.e, .int .i64 l.cP, .int .i64 l.cA, .int .i64 l.cB, .int .i64 l.cN, .int .i64 l.cX, .int .i64 l.cY, .int .i64 l.q.x, .int .i64 l.q.y, .bool l.q.far, .int .i64 l.dP, .int .i64 l.dD, .int .i64 l.dL, .int .i64 l.dX, .int .i64 l.dY, .int .i64 l.a.x, .int .i64 l.a.y] rfl w6.heap.size _ (fun j v h => (HB7.out j v h).1)
  go_wp2_with (first | (refine wpList_store_on (by first | rfl | simp [Region.wanted, yielded]) 40 _ _ rfl _ rfl _ rfl _ hst ?_) | (refine wpList_load_on (by first | rfl | simp [Region.wanted, yielded]) 40 _ rfl ⟨w4.heap.size, 0, none⟩ rfl _ hldK ?_) | (refine wpList_load_on (by first | rfl | simp [Region.wanted, yielded]) 40 _ rfl ⟨w6.heap.size, 0, none⟩ rfl _ hldM ?_))
  refine (HI.out R4 R6 _ hsk hsl).mono ?_
  rintro e w8 ⟨rfl, HEW⟩
  replace HB5 := hide (Blk.ext HB5.out HEW (World.block_lt_of_cell? _ _ (HB5.out 0 _ rfl).1))
  replace HB7 := hide (Blk.ext HB7.out HEW (World.block_lt_of_cell? _ _ (HB7.out 0 _ rfl).1))
  replace hsk := hsk.of_all HEW
  replace hsl := hsl.of_all HEW
  replace HA := hide (Blk.ext HA.out HEW (World.block_lt_of_cell? _ _ (HA.out 0 _ rfl).1))
  replace HB := hide (Blk.ext HB.out HEW (World.block_lt_of_cell? _ _ (HB.out 0 _ rfl).1))
  replace HE := hide (Ext.trans HE.out HEW)
  clear HEW
  clear hldK hldM hst HI
  have hne : (R != R) = false := by simp
  go_wp2_with fail
  have ltpa : w4.heap.size < w8.heap.size := World.block_lt_of_cell? _ _ (HB5.out 0 _ rfl).1
  have ltpb : w.heap.size < w8.heap.size := World.block_lt_of_cell? _ _ (HA.out 0 _ rfl).1
  refine anyK_begin (fun _ => False) 5 rfl (by kernel_rfl) ?_
  refine anyK_take 0 2 3 rfl (by decide) (by kernel_rfl) (fun _ _ d _ _ h => by cases d <;> exact h) ?_
  refine head_load (by first | rfl | simp [Region.wanted, yielded]) rfl rfl (fun q => run_loadKey [.int .i64 k.kind, .slice (some ⟨R4, 0, none⟩) k.n k.n, .int .i64 k.e, .int .i64 k.cP, .int .i64 k.cA, .int .i64 k.cB, .int .i64 k.cN, .int .i64 k.cX, .int .i64 k.cY, .int .i64 k.q.x, .int .i64 k.q.y, .bool k.q.far, .int .i64 k.dP, .int .i64 k.dD, .int .i64 k.dL, .int .i64 k.dX, .int .i64 k.dY, .int .i64 k.a.x, .int .i64 k.a.y] rfl w4.heap.size _ (fun j v h => (blk_re HB5.out ltpa q j v h).1)) ?_
  refine head_load (by first | rfl | simp [Region.wanted, yielded]) rfl rfl (fun q => run_loadKeyL [.int .i64 k.kind, .slice ad k.n cap, .int .i64 k.e, .int .i64 k.cP, .int .i64 k.cA, .int .i64 k.cB, .int .i64 k.cN, .int .i64 k.cX, .int .i64 k.cY, .int .i64 k.q.x, .int .i64 k.q.y, .bool k.q.far, .int .i64 k.dP, .int .i64 k.dD, .int .i64 k.dL, .int .i64 k.dX, .int .i64 k.dY, .int .i64 k.a.x, .int .i64 k.a.y] rfl (w.heap.size) _ (fun j v h => (blk_re HA.out ltpb q j v h).1)) ?_
  refine headC_nil ?_
  refine anyK_one 2 (by kernel_rfl) ?_
  refine stepK_run rfl ?_
  intro u1 g1 K hKK
  go_simp
  refine (HT.out _ (Ext.trans HE.out g1)).mono ?_
  rintro e u2 ⟨S8, rfl, -, hs8, hE8⟩
  have HX := hide (Ext.trans g1 hE8)
  have hs9 := hsk.of_all HX.out
  go_simp
  refine hKK _ _ (Grw.of_ext HX.out) ?_
  clear hKK K g1 hE8
  refine anyK_one 3 (by kernel_rfl) ?_
  refine stepK_run rfl ?_
  intro u3 g3 K hKK
  go_simp
  refine (HQ.out R4 S8 _ (hs9.of_all g3) (hs8.of_all g3)).mono ?_
  rintro e u4 ⟨rfl, hE10⟩
  replace HX := hide (Ext.trans HX.out (Ext.trans g3 hE10))
  go_simp
  refine hKK _ _ (Grw.of_ext HX.out) ?_
  clear hKK K g3 hE10 hs8 hs9
  refine anyK_one 4 (by kernel_rfl) ?_
  refine stepK_run rfl ?_
  intro u5 g5 K hKK
  go_simp
  refine hKK _ _ (Grw.of_ext (Ext.trans HX.out g5)) ?_
  clear hKK K
  refine anyK_done (by kernel_rfl) ?_ 0
  intro u6 g6
  have HEW := Ext.trans HX.out (Ext.trans g5 g6)
  clear g5 g6 HX
  replace HB7 := hide (Blk.ext HB7.out HEW (World.block_lt_of_cell? _ _ (HB7.out 0 _ rfl).1))
  replace hsl := hsl.of_all HEW
  replace HA := hide (Blk.ext HA.out HEW (World.block_lt_of_cell? _ _ (HA.out 0 _ rfl).1))
  replace HB := hide (Blk.ext HB.out HEW (World.block_lt_of_cell? _ _ (HB.out 0 _ rfl).1))
  replace HE := hide (Ext.trans HE.out HEW)
  clear HEW
  clear ltpa ltpb hsk HB5
  go_wp2_with fail
  have ltra : w6.heap.size < u6.heap.size := World.block_lt_of_cell? _ _ (HB7.out 0 _ rfl).1
  have ltrb : w.heap.size + 1 < u6.heap.size := World.block_lt_of_cell? _ _ (HB.out 0 _ rfl).1
  refine anyK_begin (fun _ => False) 5 rfl (by kernel_rfl) ?_
  refine anyK_take 0 2 3 rfl (by decide) (by kernel_rfl) (fun _ _ d _ _ h => by cases d <;> exact h) ?_
  refine head_load (by first | rfl | simp [Region.wanted, yielded]) rfl rfl (fun q => run_loadKey [.int .i64 l.kind, .slice (some ⟨R6, 0, none⟩) l.n l.n, .int .i64 l.e, .int .i64 l.cP, .int .i64 l.cA, .int .i64 l.cB, .int .i64 l.cN, .int .i64 l.cX, .int .i64 l.cY, .int .i64 l.q.x, .int .i64 l.q.y, .bool l.q.far, .int .i64 l.dP, .int .i64 l.dD, .int .i64 l.dL, .int .i64 l.dX, .int .i64 l.dY, .int .i64 l.a.x, .int .i64 l.a.y] rfl w6.heap.size _ (fun j v h => (blk_re HB7.out ltra q j v h).1)) ?_
  refine head_load (by first | rfl | simp [Region.wanted, yielded]) rfl rfl (fun q => run_loadKeyL [.int .i64 l.kind, .slice ad2 l.n cap2, .int .i64 l.e, .int .i64 l.cP, .int .i64 l.cA, .int .i64 l.cB, .int .i64 l.cN, .int .i64 l.cX, .int .i64 l.cY, .int .i64 l.q.x, .int .i64 l.q.y, .bool l.q.far, .int .i64 l.dP, .int .i64 l.dD, .int .i64 l.dL, .int .i64 l.dX, .int .i64 l.dY, .int .i64 l.a.x, .int .i64 l.a.y] rfl (w.heap.size + 1) _ (fun j v h => (blk_re HB.out ltrb q j v h).1)) ?_
  refine headC_nil ?_
  refine anyK_one 2 (by kernel_rfl) ?_
  refine stepK_run rfl ?_
  intro u1 g1 K hKK
  go_simp
  refine (HT2.out _ (Ext.trans HE.out g1)).mono ?_
  rintro e u2 ⟨S8, rfl, -, hs8, hE8⟩
  have HX := hide (Ext.trans g1 hE8)
  have hs9 := hsl.of_all HX.out
  go_simp
  refine hKK _ _ (Grw.of_ext HX.out) ?_
  clear hKK K g1 hE8
  refine anyK_one 3 (by kernel_rfl) ?_
  refine stepK_run rfl ?_
  intro u3 g3 K hKK
  go_simp
  refine (HQ2.out R6 S8 _ (hs9.of_all g3) (hs8.of_all g3)).mono ?_
  rintro e u4 ⟨rfl, hE10⟩
  replace HX := hide (Ext.trans HX.out (Ext.trans g3 hE10))
  go_simp
  refine hKK _ _ (Grw.of_ext HX.out) ?_
  clear hKK K g3 hE10 hs8 hs9
  refine anyK_one 4 (by kernel_rfl) ?_
  refine stepK_run rfl ?_
  intro u5 g5 K hKK
  go_simp
  refine hKK _ _ (Grw.of_ext (Ext.trans HX.out g5)) ?_
  clear hKK K
  refine anyK_done (by kernel_rfl) ?_ 0
  intro u6 g6
  have HEW := Ext.trans HX.out (Ext.trans g5 g6)
  clear g5 g6 HX
  replace HA := hide (Blk.ext HA.out HEW (World.block_lt_of_cell? _ _ (HA.out 0 _ rfl).1))
  replace HB := hide (Blk.ext HB.out HEW (World.block_lt_of_cell? _ _ (HB.out 0 _ rfl).1))
  replace HE := hide (Ext.trans HE.out HEW)
  clear HEW
  go_wp2
  go_ret
  exact ⟨rfl, HE.out⟩

theorem drawn_ext {w w' : World} (h : Drawn w w') : Ext w w' := by
  obtain ⟨q, rfl⟩ := h
  exact ⟨rfl, rfl, rfl, Nat.le_refl _, fun _ _ => rfl⟩

theorem lawSameKey_any (m m2 : KyM) (w : World) (hI : KeyIn w m) (hJ : KeyIn w m2) : Calls Tryd.prog 4 #[.agg #[.int .i64 m.k.kind, .slice m.ad m.k.n m.cap, .int .i64 m.k.e, .int .i64 m.k.cP, .int .i64 m.k.cA, .int .i64 m.k.cB, .int .i64 m.k.cN, .int .i64 m.k.cX, .int .i64 m.k.cY, .int .i64 m.k.q.x, .int .i64 m.k.q.y, .bool m.k.q.far, .int .i64 m.k.dP, .int .i64 m.k.dD, .int .i64 m.k.dL, .int .i64 m.k.dX, .int .i64 m.k.dY, .int .i64 m.k.a.x, .int .i64 m.k.a.y], .agg #[.int .i64 m2.k.kind, .slice m2.ad m2.k.n m2.cap, .int .i64 m2.k.e, .int .i64 m2.k.cP, .int .i64 m2.k.cA, .int .i64 m2.k.cB, .int .i64 m2.k.cN, .int .i64 m2.k.cX, .int .i64 m2.k.cY, .int .i64 m2.k.q.x, .int .i64 m2.k.q.y, .bool m2.k.q.far, .int .i64 m2.k.dP, .int .i64 m2.k.dD, .int .i64 m2.k.dL, .int .i64 m2.k.dX, .int .i64 m2.k.dY, .int .i64 m2.k.a.x, .int .i64 m2.k.a.y]] w fun e w' => e = .returned (.bool true) ∧ Ext w w' := by
  obtain ⟨o1, h1⟩ := tell (KeyP m.k)
  obtain ⟨o2, h2⟩ := tell (KeyP m2.k)
  exact lawSameKey_at m.k m2.k m.ad m.b m.off m.cap m2.ad m2.b m2.off m2.cap (o1 && (o2 && alkB m.k m2.k)) w hI.small hJ.small
    (hide fun hn W hW => toKey_any m.k m.ad m.b m.off m.cap W (hI.seg.of_all hW) hn) (hide fun hn W hW => toKey_any m2.k m2.ad m2.b m2.off m2.cap W (hJ.seg.of_all hW) hn)
    (hide fun hn hn2 R1 R2 W hs hs2 => specSame_at m.k m2.k _ R1 0 _ _ R2 0 _ o1 o2 _ (cmpV (val m.k.f m.k.n) (val m2.k.f m2.k.n)) W (hide fun W2 hW => specKeyOk_at m.k _ R1 0 _ o1 h1 W2 (hs.of_all hW) (hI.ky hn)) (hide fun W2 hW => specKeyOk_at m2.k _ R2 0 _ o2 h2 W2 (hs2.of_all hW) (hJ.ky hn2))
      (hide fun e1 e2 W2 hW => (l1Compare_any _ R1 0 m.k.n _ m.k.f _ R2 0 m2.k.n _ m2.k.f W2 (hs.of_all hW) (hs2.of_all hW) hn hn2 (h1.1 e1).canon (h2.1 e2).canon).mono fun e w' h => ⟨h.1, drawn_ext h.2⟩) (hide fun e1 e2 => cmp_ns (h1.1 e1).canon (h2.1 e2).canon) (hide rfl))
    (hide fun hn hn2 R1 R2 W hs hs2 => implSame_at m.k m2.k _ R1 0 _ _ R2 0 _ o1 o2 (alkB m.k m2.k) W (hide fun W2 hW => implKeyOk_at m.k _ R1 0 _ o1 h1 W2 (hs.of_all hW) (hI.ky hn)) (hide fun W2 hW => implKeyOk_at m2.k _ R2 0 _ o2 h2 W2 (hs2.of_all hW) (hJ.ky hn2)) (hide fun W2 hW => alike_any m.k m2.k _ R1 0 _ _ R2 0 _ W2 (hs.of_all hW) (hs2.of_all hW) hn))
    (hide fun hn R R2 W hs hs2 => eqKey_same m.k _ R 0 _ _ R2 0 _ W hs hs2 hn) (hide fun hn R R2 W hs hs2 => eqKey_same m2.k _ R 0 _ _ R2 0 _ W hs hs2 hn)

end Go.Proofs.YtdaneanloknkpabDoor
