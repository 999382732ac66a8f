/- The walk of the law FnExactKeyTree. -/
import Derived.Test.YtnnandjphlajnaaGreatDoorKt02
import Derived.Test.YtnnandjphlajnaaGreatDoorKt36
import Derived.Test.YtnnandjphlajnaaGreatDoorKt37
import Derived.Test.YtnnandjphlajnaaGreatDoorKt38
import Derived.Test.YtnnandjphlajnaaGreatDoorKt45
import Derived.Test.YtnnandjphlajnaaGreatDoorKt46
namespace Go.Proofs.YtnnandjphlajnaaGreatDoor

section
set_option linter.unusedVariables false
set_option linter.unusedSimpArgs false

open Go.RowKit

set_option maxHeartbeats 6400000 in
set_option maxRecDepth 100000 in
theorem lawKeyTree_at (k : Ky) (ad : Option Addr) (b off cap : Nat) (ok : Bool) (C : List Ic) (hC : k.n ≤ 1048576 → SmC C) (w : World) (hsm : k.n ≤ 9223372036854775807)
    (HTo : Hid (k.n ≤ 1048576 → ∀ W, Ext w W → Calls Tryz.prog 11 #[.agg #[.int .i64 k.kind, .slice ad k.n cap, .int .i64 k.e, .int .i64 k.cP, .int .i64 k.cA, .int .i64 k.cB, .int .i64 k.cN, .int .i64 k.cX, .int .i64 k.cY, .int .i64 k.q.x, .int .i64 k.q.y, .bool k.q.far, .int .i64 k.dP, .int .i64 k.dD, .int .i64 k.dL, .int .i64 k.dX, .int .i64 k.dY, .int .i64 k.a.x, .int .i64 k.a.y]] W fun e w' => GivesKyO W k e w'))
    (HSp : Hid (k.n ≤ 1048576 → ∀ (R : Nat) (W : World), Seg W (some ⟨R, 0, none⟩) R 0 k.n k.f → Calls Tryz.prog 10 #[.agg #[.int .i64 k.kind, .slice (some ⟨R, 0, none⟩) k.n k.n, .int .i64 k.e, .int .i64 k.cP, .int .i64 k.cA, .int .i64 k.cB, .int .i64 k.cN, .int .i64 k.cX, .int .i64 k.cY, .int .i64 k.q.x, .int .i64 k.q.y, .bool k.q.far, .int .i64 k.dP, .int .i64 k.dD, .int .i64 k.dL, .int .i64 k.dX, .int .i64 k.dY, .int .i64 k.a.x, .int .i64 k.a.y]] W fun e w' => GivesK7 W C ok e w'))
    (HIm : Hid (k.n ≤ 1048576 → ∀ (R : Nat) (W : World), Seg W (some ⟨R, 0, none⟩) R 0 k.n k.f → Calls Tryz.prog 12 #[.agg #[.int .i64 k.kind, .slice (some ⟨R, 0, none⟩) k.n k.n, .int .i64 k.e, .int .i64 k.cP, .int .i64 k.cA, .int .i64 k.cB, .int .i64 k.cN, .int .i64 k.cX, .int .i64 k.cY, .int .i64 k.q.x, .int .i64 k.q.y, .bool k.q.far, .int .i64 k.dP, .int .i64 k.dD, .int .i64 k.dL, .int .i64 k.dX, .int .i64 k.dY, .int .i64 k.a.x, .int .i64 k.a.y]] W fun e w' => GivesK7 W C ok e w'))
    (HEq : Hid (k.n ≤ 1048576 → ∀ (R R2 : Nat) (W : World), Seg W (some ⟨R, 0, none⟩) R 0 k.n k.f → Seg W (some ⟨R2, 0, none⟩) R2 0 k.n k.f → Calls Tryz.prog 14 #[.agg #[.int .i64 k.kind, .slice (some ⟨R, 0, none⟩) k.n k.n, .int .i64 k.e, .int .i64 k.cP, .int .i64 k.cA, .int .i64 k.cB, .int .i64 k.cN, .int .i64 k.cX, .int .i64 k.cY, .int .i64 k.q.x, .int .i64 k.q.y, .bool k.q.far, .int .i64 k.dP, .int .i64 k.dD, .int .i64 k.dL, .int .i64 k.dX, .int .i64 k.dY, .int .i64 k.a.x, .int .i64 k.a.y], .agg #[.int .i64 k.kind, .slice (some ⟨R2, 0, none⟩) k.n k.n, .int .i64 k.e, .int .i64 k.cP, .int .i64 k.cA, .int .i64 k.cB, .int .i64 k.cN, .int .i64 k.cX, .int .i64 k.cY, .int .i64 k.q.x, .int .i64 k.q.y, .bool k.q.far, .int .i64 k.dP, .int .i64 k.dD, .int .i64 k.dL, .int .i64 k.dX, .int .i64 k.dY, .int .i64 k.a.x, .int .i64 k.a.y]] W fun e w' => e = .returned (.bool true) ∧ Ext W w')) :
    Calls Tryz.prog 3 #[.agg #[.int .i64 k.kind, .slice ad k.n cap, .int .i64 k.e, .int .i64 k.cP, .int .i64 k.cA, .int .i64 k.cB, .int .i64 k.cN, .int .i64 k.cX, .int .i64 k.cY, .int .i64 k.q.x, .int .i64 k.q.y, .bool k.q.far, .int .i64 k.dP, .int .i64 k.dD, .int .i64 k.dL, .int .i64 k.dX, .int .i64 k.dY, .int .i64 k.a.x, .int .i64 k.a.y]] w fun e w' => e = .returned (.bool true) ∧ Ext w w' := by
  obtain ⟨V, hV⟩ : ∃ V, w.alloc (.cells #[.int .i64 k.kind, .slice ad k.n cap, .int .i64 k.e, .int .i64 k.cP, .int .i64 k.cA, .int .i64 k.cB, .int .i64 k.cN, .int .i64 k.cX, .int .i64 k.cY, .int .i64 k.q.x, .int .i64 k.q.y, .bool k.q.far, .int .i64 k.dP, .int .i64 k.dD, .int .i64 k.dL, .int .i64 k.dX, .int .i64 k.dY, .int .i64 k.a.x, .int .i64 k.a.y] 32) = V := ⟨_, rfl⟩
  obtain ⟨B0, hE, -⟩ := box1 w [.int .i64 k.kind, .slice ad k.n cap, .int .i64 k.e, .int .i64 k.cP, .int .i64 k.cA, .int .i64 k.cB, .int .i64 k.cN, .int .i64 k.cX, .int .i64 k.cY, .int .i64 k.q.x, .int .i64 k.q.y, .bool k.q.far, .int .i64 k.dP, .int .i64 k.dD, .int .i64 k.dL, .int .i64 k.dX, .int .i64 k.dY, .int .i64 k.a.x, .int .i64 k.a.y] 32 (w1 := V) (by rw [hV]; exact Ext.refl _)
  have HBk := hide B0
  have HE := hide hE
  have HSz := hide (szKey_any k ad cap 1048576 V (by omega) (by omega) hsm)
  have hldL := run_loadKeyL [.int .i64 k.kind, .slice ad k.n cap, .int .i64 k.e, .int .i64 k.cP, .int .i64 k.cA, .int .i64 k.cB, .int .i64 k.cN, .int .i64 k.cX, .int .i64 k.cY, .int .i64 k.q.x, .int .i64 k.q.y, .bool k.q.far, .int .i64 k.dP, .int .i64 k.dD, .int .i64 k.dL, .int .i64 k.dX, .int .i64 k.dY, .int .i64 k.a.x, .int .i64 k.a.y] rfl w.heap.size V (fun j v h => (HBk.out j v h).1)
  clear B0 hE
  go_enter Tryz.func3, Tryz.ntmps3
  go_wp2_with (refine wpList_load_on (by first | rfl | simp [Region.wanted, yielded]) 32 _ rfl _ rfl _ hldL ?_)
  refine HSz.out.mono ?_
  rintro e w1 ⟨⟨z, rfl, z0, z1, hz⟩, HEW⟩
  replace HBk := hide (Blk.ext HBk.out HEW (World.block_lt_of_cell? _ _ (HBk.out 0 _ rfl).1))
  replace HE := hide (Ext.trans HE.out HEW)
  clear HEW hldL HSz
  by_cases hz0 : z < 0
  · go_wp2
    go_ret
    exact ⟨rfl, HE.out⟩
  have hn : k.n ≤ 1048576 := by have := hz (by omega); omega
  have HT := hide (HTo.out hn)
  have HS := hide (HSp.out hn)
  have HI := hide (HIm.out hn)
  have HQ := hide (HEq.out hn)
  have HXl : Hid (∀ L, SameC L C → (∀ i, i < C.length → (L.getD i dI).len ≤ 1048576) ∧ sumL (fun i => L.getD i dI) C.length ≤ 1048576) := fun L h => h.small (hC hn)
  have HXe : Hid (∀ L L', SameC L C → SameC L' C → itsEq (fun i => L.getD i dI) (fun i => L'.getD i dI) C.length = true) := fun L L' h h' => itsEq_C h h'
  have hM : C.length ≤ 1048576 := by have := (hC hn).1; omega
  unfold GivesK7 at HS HI
  clear hz HTo HSp HIm HEq hC
  generalize C.length = M at *
  have hldL := run_loadKeyL [.int .i64 k.kind, .slice ad k.n cap, .int .i64 k.e, .int .i64 k.cP, .int .i64 k.cA, .int .i64 k.cB, .int .i64 k.cN, .int .i64 k.cX, .int .i64 k.cY, .int .i64 k.q.x, .int .i64 k.q.y, .bool k.q.far, .int .i64 k.dP, .int .i64 k.dD, .int .i64 k.dL, .int .i64 k.dX, .int .i64 k.dY, .int .i64 k.a.x, .int .i64 k.a.y] rfl w.heap.size _ (fun j v h => (HBk.out j v h).1)
  go_wp2_with (refine wpList_load_on (by first | rfl | simp [Region.wanted, yielded]) 32 _ rfl _ rfl _ hldL ?_)
  refine (HT.out _ HE.out).mono ?_
  rintro e w2 ⟨R2, rfl, -, hs2, HEW⟩
  replace HBk := hide (Blk.ext HBk.out HEW (World.block_lt_of_cell? _ _ (HBk.out 0 _ rfl).1))
  replace HE := hide (Ext.trans HE.out HEW)
  clear HEW hldL
  go_wp2_with fail
  refine (HS.out R2 _ hs2.toSeg).mono ?_
  rintro e w3 ⟨aw, Sw, cw, Lw, rfl, ow, kw, HEW⟩
  replace HBk := hide (Blk.ext HBk.out HEW (World.block_lt_of_cell? _ _ (HBk.out 0 _ rfl).1))
  replace HE := hide (Ext.trans HE.out HEW)
  have Low := hide ow.lw
  have Kw := hide kw
  have hS3 : w.heap.size ≤ w3.heap.size := Below.size HE.out
  have hwb : w.heap.size < w3.heap.size := World.block_lt_of_cell? _ _ (HBk.out 0 _ rfl).1
  clear HEW hs2 HS ow kw
  have hldL := run_loadKeyL [.int .i64 k.kind, .slice ad k.n cap, .int .i64 k.e, .int .i64 k.cP, .int .i64 k.cA, .int .i64 k.cB, .int .i64 k.cN, .int .i64 k.cX, .int .i64 k.cY, .int .i64 k.q.x, .int .i64 k.q.y, .bool k.q.far, .int .i64 k.dP, .int .i64 k.dD, .int .i64 k.dL, .int .i64 k.dX, .int .i64 k.dY, .int .i64 k.a.x, .int .i64 k.a.y] rfl w.heap.size _ (fun j v h => (HBk.out j v h).1)
  go_wp2_with (refine wpList_load_on (by first | rfl | simp [Region.wanted, yielded]) 32 _ rfl _ rfl _ hldL ?_)
  refine (HT.out _ HE.out).mono ?_
  rintro e w4 ⟨R4, rfl, hR4, hs4, HEW⟩
  replace HBk := hide (Blk.ext HBk.out HEW (World.block_lt_of_cell? _ _ (HBk.out 0 _ rfl).1))
  replace HE := hide (Ext.trans HE.out HEW)
  replace Low := hide (Low.out.below HEW (Nat.le_refl _))
  have hE34 := Below.size HEW
  clear HEW hldL
  have hst := run_storeKey [.int .i64 k.kind, .slice (some ⟨R4, 0, none⟩) k.n k.n, .int .i64 k.e, .int .i64 k.cP, .int .i64 k.cA, .int .i64 k.cB, .int .i64 k.cN, .int .i64 k.cX, .int .i64 k.cY, .int .i64 k.q.x, .int .i64 k.q.y, .bool k.q.far, .int .i64 k.dP, .int .i64 k.dD, .int .i64 k.dL, .int .i64 k.dX, .int .i64 k.dY, .int .i64 k.a.x, .int .i64 k.a.y] rfl (by simp [Value.oneCell']) w4.heap.size (w4.alloc (.cells #[.int .i64 0, .slice none 0 0, .int .i64 0, .int .i64 0, .int .i64 0, .int .i64 0, .int .i64 0, .int .i64 0, .int .i64 0, .int .i64 0, .int .i64 0, .bool false, .int .i64 0, .int .i64 0, .int .i64 0, .int .i64 0, .int .i64 0, .int .i64 0, .int .i64 0] 42)) (Blk.alloc w4 [.int .i64 0, .slice none 0 0, .int .i64 0, .int .i64 0, .int .i64 0, .int .i64 0, .int .i64 0, .int .i64 0, .int .i64 0, .int .i64 0, .int .i64 0, .bool false, .int .i64 0, .int .i64 0, .int .i64 0, .int .i64 0, .int .i64 0, .int .i64 0, .int .i64 0] 42) rfl
  have hB5 := Blk.putAll (vs := [.int .i64 k.kind, .slice (some ⟨R4, 0, none⟩) k.n k.n, .int .i64 k.e, .int .i64 k.cP, .int .i64 k.cA, .int .i64 k.cB, .int .i64 k.cN, .int .i64 k.cX, .int .i64 k.cY, .int .i64 k.q.x, .int .i64 k.q.y, .bool k.q.far, .int .i64 k.dP, .int .i64 k.dD, .int .i64 k.dL, .int .i64 k.dX, .int .i64 k.dY, .int .i64 k.a.x, .int .i64 k.a.y]) (Blk.alloc w4 [.int .i64 0, .slice none 0 0, .int .i64 0, .int .i64 0, .int .i64 0, .int .i64 0, .int .i64 0, .int .i64 0, .int .i64 0, .int .i64 0, .int .i64 0, .bool false, .int .i64 0, .int .i64 0, .int .i64 0, .int .i64 0, .int .i64 0, .int .i64 0, .int .i64 0] 42) rfl
  have HEW : Ext w4 (putL w4.heap.size 0 [.int .i64 k.kind, .slice (some ⟨R4, 0, none⟩) k.n k.n, .int .i64 k.e, .int .i64 k.cP, .int .i64 k.cA, .int .i64 k.cB, .int .i64 k.cN, .int .i64 k.cX, .int .i64 k.cY, .int .i64 k.q.x, .int .i64 k.q.y, .bool k.q.far, .int .i64 k.dP, .int .i64 k.dD, .int .i64 k.dL, .int .i64 k.dX, .int .i64 k.dY, .int .i64 k.a.x, .int .i64 k.a.y] (w4.alloc (.cells #[.int .i64 0, .slice none 0 0, .int .i64 0, .int .i64 0, .int .i64 0, .int .i64 0, .int .i64 0, .int .i64 0, .int .i64 0, .int .i64 0, .int .i64 0, .bool false, .int .i64 0, .int .i64 0, .int .i64 0, .int .i64 0, .int .i64 0, .int .i64 0, .int .i64 0] 42))) := below_putL (Nat.le_refl _) _ 0 _ (Ext.alloc _ _)
  obtain ⟨V5, hV5⟩ : ∃ V5, putL w4.heap.size 0 [.int .i64 k.kind, .slice (some ⟨R4, 0, none⟩) k.n k.n, .int .i64 k.e, .int .i64 k.cP, .int .i64 k.cA, .int .i64 k.cB, .int .i64 k.cN, .int .i64 k.cX, .int .i64 k.cY, .int .i64 k.q.x, .int .i64 k.q.y, .bool k.q.far, .int .i64 k.dP, .int .i64 k.dD, .int .i64 k.dL, .int .i64 k.dX, .int .i64 k.dY, .int .i64 k.a.x, .int .i64 k.a.y] (w4.alloc (.cells #[.int .i64 0, .slice none 0 0, .int .i64 0, .int .i64 0, .int .i64 0, .int .i64 0, .int .i64 0, .int .i64 0, .int .i64 0, .int .i64 0, .int .i64 0, .bool false, .int .i64 0, .int .i64 0, .int .i64 0, .int .i64 0, .int .i64 0, .int .i64 0, .int .i64 0] 42)) = V5 := ⟨_, rfl⟩
  rw [hV5] at hst hB5 HEW
  replace HBk := hide (Blk.ext HBk.out HEW (World.block_lt_of_cell? _ _ (HBk.out 0 _ rfl).1))
  replace HE := hide (Ext.trans HE.out HEW)
  replace Low := hide (Low.out.below HEW (by omega))
  have HB5 := hide hB5
  have Hs5 := hide (hs4.of_all HEW)
  have hldK := run_loadKey [.int .i64 k.kind, .slice (some ⟨R4, 0, none⟩) k.n k.n, .int .i64 k.e, .int .i64 k.cP, .int .i64 k.cA, .int .i64 k.cB, .int .i64 k.cN, .int .i64 k.cX, .int .i64 k.cY, .int .i64 k.q.x, .int .i64 k.q.y, .bool k.q.far, .int .i64 k.dP, .int .i64 k.dD, .int .i64 k.dL, .int .i64 k.dX, .int .i64 k.dY, .int .i64 k.a.x, .int .i64 k.a.y] rfl w4.heap.size _ (fun j v h => (HB5.out j v h).1)
  have lt5 : w4.heap.size < V5.heap.size := World.block_lt_of_cell? _ _ (HB5.out 0 _ rfl).1
  have hRn : 0 < k.n → R4 < w4.heap.size := fun h => hs4.lt h
  clear HEW hB5 hs4 hV5
  go_wp2_with (first | (refine wpList_store_on (by first | rfl | simp [Region.wanted, yielded]) 42 _ _ rfl _ rfl _ rfl _ hst ?_) | (refine wpList_load_on (by first | rfl | simp [Region.wanted, yielded]) 42 _ rfl _ rfl _ hldK ?_))
  refine (HI.out R4 _ Hs5.out.toSeg).mono ?_
  rintro e w6 ⟨ag, Sg, cg, Lg, rfl, og, kg, HEW⟩
  replace HBk := hide (Blk.ext HBk.out HEW (World.block_lt_of_cell? _ _ (HBk.out 0 _ rfl).1))
  replace HE := hide (Ext.trans HE.out HEW)
  replace HB5 := hide (Blk.ext HB5.out HEW (World.block_lt_of_cell? _ _ (HB5.out 0 _ rfl).1))
  replace Low := hide (Low.out.below HEW (by omega))
  have Og := hide og
  have Kg := hide kg
  have lt6 : V5.heap.size ≤ w6.heap.size := Below.size HEW
  replace Hs5 := hide (Hs5.out.of_all HEW)
  clear HEW hldK hst og kg
  have hne : (ok != ok) = false := by simp
  go_wp2_with fail
  refine (eqItemS_any ag Sg 0 M cg _ aw Sw 0 M cw _ _ Og.out.toISeg Low.out.toISeg hM (HXl.out _ Kg.out).1).mono ?_
  rintro e w7 ⟨rfl, HEW⟩
  rw [HXe.out _ _ Kg.out Kw.out, show (M == M && true) = true by simp]
  replace HBk := hide (Blk.ext HBk.out HEW (World.block_lt_of_cell? _ _ (HBk.out 0 _ rfl).1))
  replace HE := hide (Ext.trans HE.out HEW)
  replace HB5 := hide (Blk.ext HB5.out HEW (World.block_lt_of_cell? _ _ (HB5.out 0 _ rfl).1))
  replace Low := hide (Low.out.below HEW (by omega))
  replace Og := hide (Og.out.of_all HEW)
  replace Hs5 := hide (Hs5.out.of_all HEW)
  have lt7 : w6.heap.size ≤ w7.heap.size := Below.size HEW
  clear HEW
  go_wp2_with fail
  have ltA : w.heap.size < w7.heap.size := World.block_lt_of_cell? _ _ (HBk.out 0 _ rfl).1
  have ltB : w4.heap.size < w7.heap.size := World.block_lt_of_cell? _ _ (HB5.out 0 _ rfl).1
  refine anyK_begin (fun _ => False) 5 rfl (by kernel_rfl) ?_
  refine anyK_take 0 2 3 rfl (by decide) (by kernel_rfl) (fun _ _ d _ _ h => by cases d <;> exact h) ?_
  refine head_load (by first | rfl | simp [Region.wanted, yielded]) rfl rfl (fun q => run_loadKey [.int .i64 k.kind, .slice (some ⟨R4, 0, none⟩) k.n k.n, .int .i64 k.e, .int .i64 k.cP, .int .i64 k.cA, .int .i64 k.cB, .int .i64 k.cN, .int .i64 k.cX, .int .i64 k.cY, .int .i64 k.q.x, .int .i64 k.q.y, .bool k.q.far, .int .i64 k.dP, .int .i64 k.dD, .int .i64 k.dL, .int .i64 k.dX, .int .i64 k.dY, .int .i64 k.a.x, .int .i64 k.a.y] rfl w4.heap.size _ (fun j v h => (blk_re HB5.out ltB q j v h).1)) ?_
  refine head_load (by first | rfl | simp [Region.wanted, yielded]) rfl rfl (fun q => run_loadKeyL [.int .i64 k.kind, .slice ad k.n cap, .int .i64 k.e, .int .i64 k.cP, .int .i64 k.cA, .int .i64 k.cB, .int .i64 k.cN, .int .i64 k.cX, .int .i64 k.cY, .int .i64 k.q.x, .int .i64 k.q.y, .bool k.q.far, .int .i64 k.dP, .int .i64 k.dD, .int .i64 k.dL, .int .i64 k.dX, .int .i64 k.dY, .int .i64 k.a.x, .int .i64 k.a.y] rfl w.heap.size _ (fun j v h => (blk_re HBk.out ltA q j v h).1)) ?_
  refine headC_nil ?_
  refine anyK_one 2 (by kernel_rfl) ?_
  refine stepK_run rfl ?_
  intro w8 h8 K2 hKK
  go_simp
  refine (HT.out _ (Ext.trans HE.out h8)).mono ?_
  rintro e w9 ⟨R9, rfl, -, hs9, hE9⟩
  have HX := hide (Ext.trans h8 hE9)
  go_simp
  refine hKK _ _ (Grw.of_ext HX.out) ?_
  clear hKK K2 h8 hE9
  refine anyK_one 3 (by kernel_rfl) ?_
  refine stepK_run rfl ?_
  intro w10 h10 K2 hKK
  go_simp
  refine (HQ.out R4 R9 _ ((Hs5.out.of_all HX.out).of_all h10).toSeg (hs9.of_all h10).toSeg).mono ?_
  rintro e w11 ⟨rfl, hE11⟩
  replace HX := hide (Ext.trans HX.out (Ext.trans h10 hE11))
  go_simp
  refine hKK _ _ (Grw.of_ext HX.out) ?_
  clear hKK K2 h10 hE11 hs9
  refine anyK_one 4 (by kernel_rfl) ?_
  refine stepK_run rfl ?_
  intro w12 h12 K2 hKK
  go_simp
  refine hKK _ _ (Grw.of_ext (Ext.trans HX.out h12)) ?_
  clear hKK K2
  refine anyK_done (by kernel_rfl) ?_ 0
  intro w13 h13
  have HEW := Ext.trans HX.out (Ext.trans h12 h13)
  replace HBk := hide (Blk.ext HBk.out HEW (World.block_lt_of_cell? _ _ (HBk.out 0 _ rfl).1))
  replace HE := hide (Ext.trans HE.out HEW)
  replace HB5 := hide (Blk.ext HB5.out HEW (World.block_lt_of_cell? _ _ (HB5.out 0 _ rfl).1))
  replace Low := hide (Low.out.below HEW (by omega))
  replace Og := hide (Og.out.of_all HEW)
  replace Hs5 := hide (Hs5.out.of_all HEW)
  have lt13 : w7.heap.size ≤ w13.heap.size := Below.size HEW
  have hldK := run_loadKey [.int .i64 k.kind, .slice (some ⟨R4, 0, none⟩) k.n k.n, .int .i64 k.e, .int .i64 k.cP, .int .i64 k.cA, .int .i64 k.cB, .int .i64 k.cN, .int .i64 k.cX, .int .i64 k.cY, .int .i64 k.q.x, .int .i64 k.q.y, .bool k.q.far, .int .i64 k.dP, .int .i64 k.dD, .int .i64 k.dL, .int .i64 k.dX, .int .i64 k.dY, .int .i64 k.a.x, .int .i64 k.a.y] rfl w4.heap.size w13 (fun j v h => (HB5.out j v h).1)
  clear HEW h12 h13 HX ltA ltB
  have HMk := hide (markKey_any k R4 w13 Hs5.out hn)
  go_wp2_with (refine wpList_load_on (by first | rfl | simp [Region.wanted, yielded]) 42 _ rfl _ rfl _ hldK ?_)
  refine HMk.out.mono ?_
  rintro e w14 ⟨zk, rfl, hzk, hbl, hos, htp, hou, hsz⟩
  have hk1 : ¬ zk < 0 := by omega
  have hRg : ∀ q, V5.heap.size ≤ q → q < w13.heap.size → w14.heap[q]? = w13.heap[q]? := fun q h1 h2 => hbl q h2 (fun h => by have := hRn h; omega)
  have hRl : ∀ q, q < w3.heap.size → w14.heap[q]? = w13.heap[q]? := fun q h1 => hbl q (by omega) (fun h => by omega)
  replace HBk := hide (HBk.out.of_heap (hRl _ hwb))
  replace HE : Hid (Ext w w14) := hide ⟨hos.trans HE.out.os, htp.trans HE.out.tape, hou.trans HE.out.output, Nat.le_trans (Below.size HE.out) hsz, fun q hq => (hRl q (by omega)).trans (Below.block HE.out q hq)⟩
  replace Low := hide (Low.out.keep hRl)
  have OgB := Og.out
  replace Og : Hid (IOw V5.heap.size w14 ag Sg 0 M (fun i => Lg.getD i dI)) := hide (OgB.of_blkK (fun h0 => hRg _ (OgB.rowB h0) (OgB.toISeg.lt h0)) (fun i hi h0 => hRg _ (OgB.away i hi h0).2 ((OgB.own hi).lt h0)))
  clear hRg hRl hbl hos htp hou OgB HB5 Hs5 hldK HMk
  go_wp2_with fail
  refine (eqItemS_any ag Sg 0 M cg _ aw Sw 0 M cw _ _ Og.out.toISeg Low.out.toISeg hM (HXl.out _ Kg.out).1).mono ?_
  rintro e w15 ⟨rfl, HEW⟩
  rw [HXe.out _ _ Kg.out Kw.out, show (M == M && true) = true by simp]
  replace HBk := hide (Blk.ext HBk.out HEW (World.block_lt_of_cell? _ _ (HBk.out 0 _ rfl).1))
  replace HE := hide (Ext.trans HE.out HEW)
  replace Low := hide (Low.out.below HEW (by omega))
  replace Og := hide (Og.out.of_all HEW)
  have lt15 : w14.heap.size ≤ w15.heap.size := Below.size HEW
  clear HEW
  go_wp2_with fail
  refine (markItemS_own V5.heap.size ag Sg 0 M cg _ w15 Og.out (by omega) hM (HXl.out _ Kg.out).2).mono ?_
  rintro e w16 ⟨rfl, og2, hMk⟩
  replace HBk := hide (HBk.out.of_heap (Below.block hMk.below _ (by omega)))
  replace HE := hide (Below.trans HE.out (hMk.below.mono (by omega)))
  replace Low := hide (Low.out.below hMk.below (by omega))
  have Og2 := hide og2
  have lt16 : w15.heap.size ≤ w16.heap.size := by rw [hMk.size]; exact Nat.le_refl _
  clear Og hMk og2
  have HQk : Hid (¬ kqI (fun i => Lg.getD i dI) M < 0) := by show ¬ _; unfold kqI; omega
  have HHd : Hid (∀ W, ISeg W ag Sg 0 M (mkd (fun i => Lg.getD i dI) M) → Calls Tryz.prog 17 #[.slice ag M cg, .int .i64 1] W fun e w' => e = .returned (.int .i64 (kqI (fun i => Lg.getD i dI) M)) ∧ w' = W) := fun W h => heldItemS_own ag Sg 0 M cg _ W h hM (HXl.out _ Kg.out).2
  generalize kqI (fun i => Lg.getD i dI) M = Qk at *
  have hQk := HQk.out
  go_wp2_with fail
  refine (HHd.out _ Og2.out.toISeg).mono ?_
  rintro e w17 ⟨rfl, hw⟩
  obtain rfl := hw.symm
  have hldL := run_loadKeyL [.int .i64 k.kind, .slice ad k.n cap, .int .i64 k.e, .int .i64 k.cP, .int .i64 k.cA, .int .i64 k.cB, .int .i64 k.cN, .int .i64 k.cX, .int .i64 k.cY, .int .i64 k.q.x, .int .i64 k.q.y, .bool k.q.far, .int .i64 k.dP, .int .i64 k.dD, .int .i64 k.dL, .int .i64 k.dX, .int .i64 k.dY, .int .i64 k.a.x, .int .i64 k.a.y] rfl w.heap.size _ (fun j v h => (HBk.out j v h).1)
  go_wp2_with (refine wpList_load_on (by first | rfl | simp [Region.wanted, yielded]) 32 _ rfl _ rfl _ hldL ?_)
  refine (HT.out _ HE.out).mono ?_
  rintro e w18 ⟨R18, rfl, -, hs18, HEW⟩
  replace HE := hide (Ext.trans HE.out HEW)
  replace Low := hide (Low.out.below HEW (by omega))
  replace Og2 := hide (Og2.out.of_all HEW)
  have lt18 : w16.heap.size ≤ w18.heap.size := Below.size HEW
  clear HEW hldL
  go_wp2_with fail
  refine (HI.out R18 _ hs18.toSeg).mono ?_
  rintro e w19 ⟨ah, Sh, ch, Lh, rfl, oh, kh, HEW⟩
  replace HE := hide (Ext.trans HE.out HEW)
  replace Low := hide (Low.out.below HEW (by omega))
  replace Og2 := hide (Og2.out.of_all HEW)
  have Oh := hide oh
  have Kh := hide kh
  clear HEW hs18 oh kh HI
  go_wp2_with fail
  refine (eqItemS_any ah Sh 0 M ch _ aw Sw 0 M cw _ _ Oh.out.toISeg Low.out.toISeg hM (HXl.out _ Kh.out).1).mono ?_
  rintro e w20 ⟨rfl, HEW⟩
  rw [HXe.out _ _ Kh.out Kw.out, show (M == M && true) = true by simp]
  replace HE := hide (Ext.trans HE.out HEW)
  replace Og2 := hide (Og2.out.of_all HEW)
  clear HEW Low Oh
  go_wp2_with fail
  refine (HHd.out _ Og2.out.toISeg).mono ?_
  rintro e w21 ⟨rfl, hw⟩
  obtain rfl := hw.symm
  go_wp2
  go_ret
  exact ⟨rfl, HE.out⟩

theorem lawKeyTree_any (m : KyM) (w : World) (hI : KeyIn w m) : Calls Tryz.prog 3 #[.agg #[.int .i64 m.k.kind, .slice m.ad m.k.n m.cap, .int .i64 m.k.e, .int .i64 m.k.cP, .int .i64 m.k.cA, .int .i64 m.k.cB, .int .i64 m.k.cN, .int .i64 m.k.cX, .int .i64 m.k.cY, .int .i64 m.k.q.x, .int .i64 m.k.q.y, .bool m.k.q.far, .int .i64 m.k.dP, .int .i64 m.k.dD, .int .i64 m.k.dL, .int .i64 m.k.dX, .int .i64 m.k.dY, .int .i64 m.k.a.x, .int .i64 m.k.a.y]] w fun e w' => e = .returned (.bool true) ∧ Ext w w' := by
  obtain ⟨ok, hok⟩ := tell (KeyP m.k)
  exact lawKeyTree_at m.k m.ad m.b m.off m.cap ok (ktC ok m.k) (fun _ => ktC_small hok) w hI.small (hide fun hn W hW => toKeyO_any m.k m.ad m.b m.off m.cap W (hI.seg.of_all hW) hn) (hide fun hn R W hs => (specKeyTree_at m.k _ R 0 _ ok hok W hs (hI.ky hn)).mono (fun _ _ h => h.k7 (ktC_small hok))) (hide fun hn R W hs => (implKeyTree_at m.k _ R 0 _ ok hok W hs (hI.ky hn)).mono (fun _ _ h => h.k7 (ktC_small hok))) (hide fun hn R R2 W hs hs2 => eqKey_same m.k _ R 0 _ _ R2 0 _ W hs hs2 hn)
end

end Go.Proofs.YtnnandjphlajnaaGreatDoor
