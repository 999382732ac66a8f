/- The walk of the law FnExactSigSize (written by mkkey.py). -/
import Derived.Test.YtdaneanloknkpacGreatDoorKyH
namespace Go.Proofs.YtdaneanloknkpacGreatDoor
set_option linter.unusedVariables false
set_option linter.unusedSimpArgs false
open Go.RowKit

set_option maxHeartbeats 6400000 in
set_option maxRecDepth 100000 in
theorem lawSigSize_at (k : Ky) (ad : Option Addr) (b off cap : Nat) (alg ok : Int) (w : World) (hsm : k.n ≤ 9223372036854775807)
    (HTo : Hid (k.n ≤ 1048576 → ∀ W, Ext w W → Calls Tryz.prog 10 #[.agg #[.int .i64 k.kind, .slice ad k.n cap, .int .i64 k.e, .int .i64 k.cP, .int .i64 k.cA, .int .i64 k.cB, .int .i64 k.cN, .int .i64 k.cX, .int .i64 k.cY, .int .i64 k.q.x, .int .i64 k.q.y, .bool k.q.far, .int .i64 k.dP, .int .i64 k.dD, .int .i64 k.dL, .int .i64 k.dX, .int .i64 k.dY, .int .i64 k.a.x, .int .i64 k.a.y]] W fun e w' => GivesKy W k e w'))
    (HSp : Hid (k.n ≤ 1048576 → ∀ (R : Nat) (W : World), Seg W (some ⟨R, 0, none⟩) R 0 k.n k.f → Calls Tryz.prog 9 #[.agg #[.int .i64 k.kind, .slice (some ⟨R, 0, none⟩) k.n k.n, .int .i64 k.e, .int .i64 k.cP, .int .i64 k.cA, .int .i64 k.cB, .int .i64 k.cN, .int .i64 k.cX, .int .i64 k.cY, .int .i64 k.q.x, .int .i64 k.q.y, .bool k.q.far, .int .i64 k.dP, .int .i64 k.dD, .int .i64 k.dL, .int .i64 k.dX, .int .i64 k.dY, .int .i64 k.a.x, .int .i64 k.a.y], .int .i64 alg] W fun e w' => e = .returned (.int .i64 ok) ∧ Ext W w'))
    (HIm : Hid (k.n ≤ 1048576 → ∀ (R : Nat) (W : World), Seg W (some ⟨R, 0, none⟩) R 0 k.n k.f → Calls Tryz.prog 11 #[.agg #[.int .i64 k.kind, .slice (some ⟨R, 0, none⟩) k.n k.n, .int .i64 k.e, .int .i64 k.cP, .int .i64 k.cA, .int .i64 k.cB, .int .i64 k.cN, .int .i64 k.cX, .int .i64 k.cY, .int .i64 k.q.x, .int .i64 k.q.y, .bool k.q.far, .int .i64 k.dP, .int .i64 k.dD, .int .i64 k.dL, .int .i64 k.dX, .int .i64 k.dY, .int .i64 k.a.x, .int .i64 k.a.y], .int .i64 alg] W fun e w' => e = .returned (.int .i64 ok) ∧ Ext W w'))
    (HEq : Hid (k.n ≤ 1048576 → ∀ (R R2 : Nat) (W : World), Seg W (some ⟨R, 0, none⟩) R 0 k.n k.f → Seg W (some ⟨R2, 0, none⟩) R2 0 k.n k.f → Calls Tryz.prog 12 #[.agg #[.int .i64 k.kind, .slice (some ⟨R, 0, none⟩) k.n k.n, .int .i64 k.e, .int .i64 k.cP, .int .i64 k.cA, .int .i64 k.cB, .int .i64 k.cN, .int .i64 k.cX, .int .i64 k.cY, .int .i64 k.q.x, .int .i64 k.q.y, .bool k.q.far, .int .i64 k.dP, .int .i64 k.dD, .int .i64 k.dL, .int .i64 k.dX, .int .i64 k.dY, .int .i64 k.a.x, .int .i64 k.a.y], .agg #[.int .i64 k.kind, .slice (some ⟨R2, 0, none⟩) k.n k.n, .int .i64 k.e, .int .i64 k.cP, .int .i64 k.cA, .int .i64 k.cB, .int .i64 k.cN, .int .i64 k.cX, .int .i64 k.cY, .int .i64 k.q.x, .int .i64 k.q.y, .bool k.q.far, .int .i64 k.dP, .int .i64 k.dD, .int .i64 k.dL, .int .i64 k.dX, .int .i64 k.dY, .int .i64 k.a.x, .int .i64 k.a.y]] W fun e w' => e = .returned (.bool true) ∧ Ext W w')) :
    Calls Tryz.prog 3 #[.agg #[.int .i64 k.kind, .slice ad k.n cap, .int .i64 k.e, .int .i64 k.cP, .int .i64 k.cA, .int .i64 k.cB, .int .i64 k.cN, .int .i64 k.cX, .int .i64 k.cY, .int .i64 k.q.x, .int .i64 k.q.y, .bool k.q.far, .int .i64 k.dP, .int .i64 k.dD, .int .i64 k.dL, .int .i64 k.dX, .int .i64 k.dY, .int .i64 k.a.x, .int .i64 k.a.y], .int .i64 alg] w fun e w' => e = .returned (.bool true) ∧ Ext w w' := by
  obtain ⟨V, hV⟩ : ∃ V, w.alloc (.cells #[.int .i64 k.kind, .slice ad k.n cap, .int .i64 k.e, .int .i64 k.cP, .int .i64 k.cA, .int .i64 k.cB, .int .i64 k.cN, .int .i64 k.cX, .int .i64 k.cY, .int .i64 k.q.x, .int .i64 k.q.y, .bool k.q.far, .int .i64 k.dP, .int .i64 k.dD, .int .i64 k.dL, .int .i64 k.dX, .int .i64 k.dY, .int .i64 k.a.x, .int .i64 k.a.y] 32) = V := ⟨_, rfl⟩
  obtain ⟨B0, hE, -⟩ := box1 w [.int .i64 k.kind, .slice ad k.n cap, .int .i64 k.e, .int .i64 k.cP, .int .i64 k.cA, .int .i64 k.cB, .int .i64 k.cN, .int .i64 k.cX, .int .i64 k.cY, .int .i64 k.q.x, .int .i64 k.q.y, .bool k.q.far, .int .i64 k.dP, .int .i64 k.dD, .int .i64 k.dL, .int .i64 k.dX, .int .i64 k.dY, .int .i64 k.a.x, .int .i64 k.a.y] 32 (w1 := V) (by rw [← hV]; exact Ext.refl _)
  have HBk := hide B0
  have HE := hide hE
  have HSz := hide (szKey_any k ad cap 1048576 V (by omega) (by omega) hsm)
  have hldL := run_loadKeyL [.int .i64 k.kind, .slice ad k.n cap, .int .i64 k.e, .int .i64 k.cP, .int .i64 k.cA, .int .i64 k.cB, .int .i64 k.cN, .int .i64 k.cX, .int .i64 k.cY, .int .i64 k.q.x, .int .i64 k.q.y, .bool k.q.far, .int .i64 k.dP, .int .i64 k.dD, .int .i64 k.dL, .int .i64 k.dX, .int .i64 k.dY, .int .i64 k.a.x, .int .i64 k.a.y] rfl w.heap.size _ (fun j v h => (HBk.out j v h).1)
  clear B0 hE
  go_enter Tryz.func3, Tryz.ntmps3
  go_wp2_with (refine wpList_load_on (by first | rfl | simp [Region.wanted, yielded]) 32 _ rfl _ rfl _ hldL ?_)
  refine HSz.out.mono ?_
  rintro e w1 ⟨⟨z, rfl, z0, z1, hz⟩, HEW⟩
  replace HBk := hide (Blk.ext HBk.out HEW (World.block_lt_of_cell? _ _ (HBk.out 0 _ rfl).1))
  replace HE := hide (Ext.trans HE.out HEW)
  clear HEW hldL HSz
  by_cases hz0 : z < 0
  · go_wp2
    go_ret
    exact ⟨rfl, HE.out⟩
  have hn : k.n ≤ 1048576 := by have := hz (by omega); omega
  have HT := hide (HTo.out hn)
  have HS := hide (HSp.out hn)
  have HI := hide (HIm.out hn)
  have HQ := hide (HEq.out hn)
  clear hz HTo HSp HIm HEq
  have hldL := run_loadKeyL [.int .i64 k.kind, .slice ad k.n cap, .int .i64 k.e, .int .i64 k.cP, .int .i64 k.cA, .int .i64 k.cB, .int .i64 k.cN, .int .i64 k.cX, .int .i64 k.cY, .int .i64 k.q.x, .int .i64 k.q.y, .bool k.q.far, .int .i64 k.dP, .int .i64 k.dD, .int .i64 k.dL, .int .i64 k.dX, .int .i64 k.dY, .int .i64 k.a.x, .int .i64 k.a.y] rfl w.heap.size _ (fun j v h => (HBk.out j v h).1)
  go_wp2_with (refine wpList_load_on (by first | rfl | simp [Region.wanted, yielded]) 32 _ rfl _ rfl _ hldL ?_)
  refine (HT.out _ HE.out).mono ?_
  rintro e w2 ⟨R2, rfl, -, hs2, HEW⟩
  replace HBk := hide (Blk.ext HBk.out HEW (World.block_lt_of_cell? _ _ (HBk.out 0 _ rfl).1))
  replace HE := hide (Ext.trans HE.out HEW)
  clear HEW hldL
  go_wp2_with fail
  refine (HS.out R2 _ hs2).mono ?_
  rintro e w3 ⟨rfl, HEW⟩
  replace HBk := hide (Blk.ext HBk.out HEW (World.block_lt_of_cell? _ _ (HBk.out 0 _ rfl).1))
  replace HE := hide (Ext.trans HE.out HEW)
  clear HEW hs2 HS
  have hldL := run_loadKeyL [.int .i64 k.kind, .slice ad k.n cap, .int .i64 k.e, .int .i64 k.cP, .int .i64 k.cA, .int .i64 k.cB, .int .i64 k.cN, .int .i64 k.cX, .int .i64 k.cY, .int .i64 k.q.x, .int .i64 k.q.y, .bool k.q.far, .int .i64 k.dP, .int .i64 k.dD, .int .i64 k.dL, .int .i64 k.dX, .int .i64 k.dY, .int .i64 k.a.x, .int .i64 k.a.y] rfl w.heap.size _ (fun j v h => (HBk.out j v h).1)
  go_wp2_with (refine wpList_load_on (by first | rfl | simp [Region.wanted, yielded]) 32 _ rfl _ rfl _ hldL ?_)
  refine (HT.out _ HE.out).mono ?_
  rintro e w4 ⟨R4, rfl, -, hs4, HEW⟩
  replace HBk := hide (Blk.ext HBk.out HEW (World.block_lt_of_cell? _ _ (HBk.out 0 _ rfl).1))
  replace HE := hide (Ext.trans HE.out HEW)
  clear HEW hldL
  have hst := run_storeKey [.int .i64 k.kind, .slice (some ⟨R4, 0, none⟩) k.n k.n, .int .i64 k.e, .int .i64 k.cP, .int .i64 k.cA, .int .i64 k.cB, .int .i64 k.cN, .int .i64 k.cX, .int .i64 k.cY, .int .i64 k.q.x, .int .i64 k.q.y, .bool k.q.far, .int .i64 k.dP, .int .i64 k.dD, .int .i64 k.dL, .int .i64 k.dX, .int .i64 k.dY, .int .i64 k.a.x, .int .i64 k.a.y] rfl (by simp [Value.oneCell']) w4.heap.size (w4.alloc (.cells #[.int .i64 0, .slice none 0 0, .int .i64 0, .int .i64 0, .int .i64 0, .int .i64 0, .int .i64 0, .int .i64 0, .int .i64 0, .int .i64 0, .int .i64 0, .bool false, .int .i64 0, .int .i64 0, .int .i64 0, .int .i64 0, .int .i64 0, .int .i64 0, .int .i64 0] 40)) (Blk.alloc w4 [.int .i64 0, .slice none 0 0, .int .i64 0, .int .i64 0, .int .i64 0, .int .i64 0, .int .i64 0, .int .i64 0, .int .i64 0, .int .i64 0, .int .i64 0, .bool false, .int .i64 0, .int .i64 0, .int .i64 0, .int .i64 0, .int .i64 0, .int .i64 0, .int .i64 0] 40) rfl
  have hB5 := Blk.putAll (vs := [.int .i64 k.kind, .slice (some ⟨R4, 0, none⟩) k.n k.n, .int .i64 k.e, .int .i64 k.cP, .int .i64 k.cA, .int .i64 k.cB, .int .i64 k.cN, .int .i64 k.cX, .int .i64 k.cY, .int .i64 k.q.x, .int .i64 k.q.y, .bool k.q.far, .int .i64 k.dP, .int .i64 k.dD, .int .i64 k.dL, .int .i64 k.dX, .int .i64 k.dY, .int .i64 k.a.x, .int .i64 k.a.y]) (Blk.alloc w4 [.int .i64 0, .slice none 0 0, .int .i64 0, .int .i64 0, .int .i64 0, .int .i64 0, .int .i64 0, .int .i64 0, .int .i64 0, .int .i64 0, .int .i64 0, .bool false, .int .i64 0, .int .i64 0, .int .i64 0, .int .i64 0, .int .i64 0, .int .i64 0, .int .i64 0] 40) rfl
  have HEW : Ext w4 (putL w4.heap.size 0 [.int .i64 k.kind, .slice (some ⟨R4, 0, none⟩) k.n k.n, .int .i64 k.e, .int .i64 k.cP, .int .i64 k.cA, .int .i64 k.cB, .int .i64 k.cN, .int .i64 k.cX, .int .i64 k.cY, .int .i64 k.q.x, .int .i64 k.q.y, .bool k.q.far, .int .i64 k.dP, .int .i64 k.dD, .int .i64 k.dL, .int .i64 k.dX, .int .i64 k.dY, .int .i64 k.a.x, .int .i64 k.a.y] (w4.alloc (.cells #[.int .i64 0, .slice none 0 0, .int .i64 0, .int .i64 0, .int .i64 0, .int .i64 0, .int .i64 0, .int .i64 0, .int .i64 0, .int .i64 0, .int .i64 0, .bool false, .int .i64 0, .int .i64 0, .int .i64 0, .int .i64 0, .int .i64 0, .int .i64 0, .int .i64 0] 40))) := below_putL (Nat.le_refl _) _ 0 _ (Ext.alloc _ _)
  obtain ⟨V5, hV5⟩ : ∃ V5, putL w4.heap.size 0 [.int .i64 k.kind, .slice (some ⟨R4, 0, none⟩) k.n k.n, .int .i64 k.e, .int .i64 k.cP, .int .i64 k.cA, .int .i64 k.cB, .int .i64 k.cN, .int .i64 k.cX, .int .i64 k.cY, .int .i64 k.q.x, .int .i64 k.q.y, .bool k.q.far, .int .i64 k.dP, .int .i64 k.dD, .int .i64 k.dL, .int .i64 k.dX, .int .i64 k.dY, .int .i64 k.a.x, .int .i64 k.a.y] (w4.alloc (.cells #[.int .i64 0, .slice none 0 0, .int .i64 0, .int .i64 0, .int .i64 0, .int .i64 0, .int .i64 0, .int .i64 0, .int .i64 0, .int .i64 0, .int .i64 0, .bool false, .int .i64 0, .int .i64 0, .int .i64 0, .int .i64 0, .int .i64 0, .int .i64 0, .int .i64 0] 40)) = V5 := ⟨_, rfl⟩
  rw [hV5] at hst hB5 HEW
  replace HBk := hide (Blk.ext HBk.out HEW (World.block_lt_of_cell? _ _ (HBk.out 0 _ rfl).1))
  replace HE := hide (Ext.trans HE.out HEW)
  have HB5 := hide hB5
  have hs5 := hs4.of_all HEW
  have hldK := run_loadKey [.int .i64 k.kind, .slice (some ⟨R4, 0, none⟩) k.n k.n, .int .i64 k.e, .int .i64 k.cP, .int .i64 k.cA, .int .i64 k.cB, .int .i64 k.cN, .int .i64 k.cX, .int .i64 k.cY, .int .i64 k.q.x, .int .i64 k.q.y, .bool k.q.far, .int .i64 k.dP, .int .i64 k.dD, .int .i64 k.dL, .int .i64 k.dX, .int .i64 k.dY, .int .i64 k.a.x, .int .i64 k.a.y] rfl w4.heap.size _ (fun j v h => (HB5.out j v h).1)
  have lt5 : w4.heap.size < V5.heap.size := World.block_lt_of_cell? _ _ (HB5.out 0 _ rfl).1
  clear HEW hB5 hs4 hV5
  go_wp2_with (first | (refine wpList_store_on (by first | rfl | simp [Region.wanted, yielded]) 40 _ _ rfl _ rfl _ rfl _ hst ?_) | (refine wpList_load_on (by first | rfl | simp [Region.wanted, yielded]) 40 _ rfl _ rfl _ hldK ?_))
  refine (HI.out R4 _ hs5).mono ?_
  rintro e w6 ⟨rfl, HEW⟩
  replace HBk := hide (Blk.ext HBk.out HEW (World.block_lt_of_cell? _ _ (HBk.out 0 _ rfl).1))
  replace HE := hide (Ext.trans HE.out HEW)
  replace HB5 := hide (Blk.ext HB5.out HEW lt5)
  have lt6 : w4.heap.size < w6.heap.size := Nat.lt_of_lt_of_le lt5 (Below.size HEW)
  replace hs5 := hs5.of_all HEW
  clear HEW hldK hst HI lt5
  have hne : (ok != ok) = false := by simp
  go_wp2_with fail
  have ltA : w.heap.size < w6.heap.size := World.block_lt_of_cell? _ _ (HBk.out 0 _ rfl).1
  refine anyK_begin (fun _ => False) 5 rfl (by kernel_rfl) ?_
  refine anyK_take 0 2 3 rfl (by decide) (by kernel_rfl) (fun _ _ d _ _ h => by cases d <;> exact h) ?_
  refine head_load (by first | rfl | simp [Region.wanted, yielded]) rfl rfl (fun q => run_loadKey [.int .i64 k.kind, .slice (some ⟨R4, 0, none⟩) k.n k.n, .int .i64 k.e, .int .i64 k.cP, .int .i64 k.cA, .int .i64 k.cB, .int .i64 k.cN, .int .i64 k.cX, .int .i64 k.cY, .int .i64 k.q.x, .int .i64 k.q.y, .bool k.q.far, .int .i64 k.dP, .int .i64 k.dD, .int .i64 k.dL, .int .i64 k.dX, .int .i64 k.dY, .int .i64 k.a.x, .int .i64 k.a.y] rfl w4.heap.size _ (fun j v h => (blk_re HB5.out lt6 q j v h).1)) ?_
  refine head_load (by first | rfl | simp [Region.wanted, yielded]) rfl rfl (fun q => run_loadKeyL [.int .i64 k.kind, .slice ad k.n cap, .int .i64 k.e, .int .i64 k.cP, .int .i64 k.cA, .int .i64 k.cB, .int .i64 k.cN, .int .i64 k.cX, .int .i64 k.cY, .int .i64 k.q.x, .int .i64 k.q.y, .bool k.q.far, .int .i64 k.dP, .int .i64 k.dD, .int .i64 k.dL, .int .i64 k.dX, .int .i64 k.dY, .int .i64 k.a.x, .int .i64 k.a.y] rfl w.heap.size _ (fun j v h => (blk_re HBk.out ltA q j v h).1)) ?_
  refine headC_nil ?_
  refine anyK_one 2 (by kernel_rfl) ?_
  refine stepK_run rfl ?_
  intro w7 h7 K hKK
  go_simp
  refine (HT.out _ (Ext.trans HE.out h7)).mono ?_
  rintro e w8 ⟨R8, rfl, -, hs8, hE8⟩
  have HX := hide (Ext.trans h7 hE8)
  have hs9 := hs5.of_all HX.out
  go_simp
  refine hKK _ _ (Grw.of_ext HX.out) ?_
  clear hKK K h7 hE8
  refine anyK_one 3 (by kernel_rfl) ?_
  refine stepK_run rfl ?_
  intro w9 h9 K hKK
  go_simp
  refine (HQ.out R4 R8 _ (hs9.of_all h9) (hs8.of_all h9)).mono ?_
  rintro e w10 ⟨rfl, hE10⟩
  replace HX := hide (Ext.trans HX.out (Ext.trans h9 hE10))
  go_simp
  refine hKK _ _ (Grw.of_ext HX.out) ?_
  clear hKK K h9 hE10 hs8 hs9
  refine anyK_one 4 (by kernel_rfl) ?_
  refine stepK_run rfl ?_
  intro w11 h11 K hKK
  go_simp
  refine hKK _ _ (Grw.of_ext (Ext.trans HX.out h11)) ?_
  clear hKK K
  refine anyK_done (by kernel_rfl) ?_ 0
  intro w12 h12
  have HY := hide (Ext.trans HE.out (Ext.trans HX.out (Ext.trans h11 h12)))
  clear h11 h12 HX HE
  go_wp2
  go_ret
  exact ⟨rfl, HY.out⟩

theorem sig_bits {k : Ky} {ok : Bool} (hk : ok = true ↔ KeyP k) : (ok = true → k.kind = 1 → natOk k.n k.f = true ∧ 0 ≤ bitsOf k.n k.f ∧ bitsOf k.n k.f ≤ 512 ∧ bitsQ k.n k.f = bitsOf k.n k.f) ∧ (ok = true → k.kind = 1 ∨ k.kind = 2 ∨ k.kind = 3) := by
  refine ⟨fun h h1 => ?_, fun h => ?_⟩
  · rcases hk.1 h with h2 | h2 | h2
    · have h4 := h2.2.2.2
      unfold rsB at h4
      simp only [Bool.and_eq_true, decide_eq_true_eq] at h4
      obtain ⟨a1, -, -, -, a5⟩ := bitsQ_pos h4.1
      rw [a5] at h4
      exact ⟨a1, by omega, h4.2.1, a5⟩
    · omega
    · omega
  · rcases hk.1 h with h2 | h2 | h2
    · exact .inl h2.1
    · exact .inr (.inl h2.1)
    · exact .inr (.inr h2.1)

theorem lawSigSize_any (m : KyM) (alg : Int) (w : World) (hI : KeyIn w m) (hz : -9223372036854775808 ≤ alg ∧ alg ≤ 9223372036854775807) : Calls Tryz.prog 3 #[.agg #[.int .i64 m.k.kind, .slice m.ad m.k.n m.cap, .int .i64 m.k.e, .int .i64 m.k.cP, .int .i64 m.k.cA, .int .i64 m.k.cB, .int .i64 m.k.cN, .int .i64 m.k.cX, .int .i64 m.k.cY, .int .i64 m.k.q.x, .int .i64 m.k.q.y, .bool m.k.q.far, .int .i64 m.k.dP, .int .i64 m.k.dD, .int .i64 m.k.dL, .int .i64 m.k.dX, .int .i64 m.k.dY, .int .i64 m.k.a.x, .int .i64 m.k.a.y], .int .i64 alg] w fun e w' => e = .returned (.bool true) ∧ Ext w w' := by
  obtain ⟨ok, hok⟩ := tell (KeyP m.k)
  obtain ⟨s1, s2⟩ := sig_bits hok
  exact lawSigSize_at m.k m.ad m.b m.off m.cap alg (sgV ok m.k.kind alg (bitsOf m.k.n m.k.f)) w hI.small (hide fun hn W hW => toKey_any m.k m.ad m.b m.off m.cap W (hI.seg.of_all hW) hn)
    (hide fun hn R W hs => specSig_at m.k _ R 0 _ alg ok (bitsOf m.k.n m.k.f) W (hide fun W2 hW => specKeyOk_at m.k _ R 0 _ ok hok W2 (hs.of_all hW) (hI.ky hn)) (hide fun e1 e2 W2 hW => l1Bits_any _ R 0 m.k.n _ m.k.f W2 (hs.of_all hW) hn (by
      by_cases e : m.k.n = 0
      · exact .inl e
      · exact .inr (((natOk_iff _ _).1 (s1 e1 e2).1).1 (m.k.n - 1) (by omega)))) (hide fun e1 e2 => ⟨(s1 e1 e2).2.1, (s1 e1 e2).2.2.1⟩) (hide s2))
    (hide fun hn R W hs => implSig_at m.k _ R 0 _ alg ok (bitsOf m.k.n m.k.f) W (hide fun W2 hW => implKeyOk_at m.k _ R 0 _ ok hok W2 (hs.of_all hW) (hI.ky hn)) (hide fun e1 e2 W2 hW => by
      have := implNatBits_any _ R 0 m.k.n m.k.n m.k.f W2 (hs.of_all hW) hn
      rw [(s1 e1 e2).2.2.2] at this
      exact this) (hide fun e1 e2 => ⟨(s1 e1 e2).2.1, (s1 e1 e2).2.2.1⟩) (hide s2))
    (hide fun hn R R2 W hs hs2 => eqKey_same m.k _ R 0 _ _ R2 0 _ W hs hs2 hn)

end Go.Proofs.YtdaneanloknkpacGreatDoor
