/- Keys: KeyOk of the model (written by mkkey.py). Keys: KeyOk of the model (written by mkkey.py). Keys: KeyOk of the model (written by mkkey.py). Keys: KeyOk of the model (written by mkkey.py). Walks: CertOk of both (written by mkcrt.py). Walks: chains that are right, how many between are not own; Depth of both; the walk of the law FnExactDepth (written by mkdep.py). -/
import Derived.Test.YtfhiiakoilkbkaaGreatDoorCv47
import Derived.Test.YtfhiiakoilkbkaaGreatDoorCv35
namespace Go.Proofs.YtfhiiakoilkbkaaGreatDoor
set_option linter.unusedVariables false
set_option linter.unusedSimpArgs false
section
open Go.RowKit
theorem rs_all (n : Nat) (f : Nat → Int) (e : Int) : rsB n f e = (natOk n f && ((decide (128 ≤ bitsOf n f) && decide (bitsOf n f ≤ 512)) && (f 0 % 2 == 1 && ((decide (3 ≤ e) && decide (e ≤ 65537)) && e % 2 == 1)))) := by
 unfold rsB bitsQ
 cases natOk n f
 ·rfl
 ·simp only [if_true, Bool.and_assoc, Bool.true_and]
set_option maxHeartbeats 6400000 in
set_option maxRecDepth 100000 in
theorem specKey_one (k : Ky) (ad : Option Addr) (b off cap : Nat) (ok r1 r2 r3 r4 r5 r6 : Bool) (Bq z : Int) (w : World) (hs : Seg w ad b off k.n k.f) (g1 : (k.kind == 1) = true)
  (HNC : Hid (∀ w, Calls Tryz.prog 91 #[.agg #[.int .i64 k.kind, .slice ad k.n cap, .int .i64 k.e, .int .i64 k.cP, .int .i64 k.cA, .int .i64 k.cB, .int .i64 k.cN, .int .i64 k.cX, .int .i64 k.cY, .int .i64 k.q.x, .int .i64 k.q.y, .bool k.q.far, .int .i64 k.dP, .int .i64 k.dD, .int .i64 k.dL, .int .i64 k.dX, .int .i64 k.dY, .int .i64 k.a.x, .int .i64 k.a.y]] w fun e w' => e = .returned (.bool r1) ∧ Ext w w'))
  (HNE : Hid (∀ w, Calls Tryz.prog 92 #[.agg #[.int .i64 k.kind, .slice ad k.n cap, .int .i64 k.e, .int .i64 k.cP, .int .i64 k.cA, .int .i64 k.cB, .int .i64 k.cN, .int .i64 k.cX, .int .i64 k.cY, .int .i64 k.q.x, .int .i64 k.q.y, .bool k.q.far, .int .i64 k.dP, .int .i64 k.dD, .int .i64 k.dL, .int .i64 k.dX, .int .i64 k.dY, .int .i64 k.a.x, .int .i64 k.a.y]] w fun e w' => e = .returned (.bool r2) ∧ Ext w w'))
  (HNK : Hid (∀ W, Ext w W → Calls Tryz.prog 93 #[.slice ad k.n cap] W fun e w' => e = .returned (.bool r3) ∧ w' = W))
  (HBI : Hid (∀ W, r3 = true → Ext w W → Calls Tryz.prog 94 #[.slice ad k.n cap] W fun e w' => e = .returned (.int .i64 Bq) ∧ w' = W))
  (HI1 : Hid (∀ w, Calls Tryz.prog 23 #[.int .i64 Bq, .int .i64 128, .int .i64 512] w fun e w' => e = .returned (.bool r4) ∧ w' = w))
  (HI2 : Hid (∀ w, Calls Tryz.prog 23 #[.int .i64 k.e, .int .i64 3, .int .i64 65537] w fun e w' => e = .returned (.bool r6) ∧ w' = w))
  (Hz : Hid (r3 = true → r4 = true → 0 < k.n ∧ k.f 0 = z ∧ 0 ≤ z)) (h5 : (z % 2 == 1) = r5) (H6 : Hid (r6 = true → 3 ≤ k.e))
  (HO : Hid (ok = (r1 && (r2 && (r3 && (r4 && (r5 && (r6 && (k.e % 2 == 1))))))))) :
  Calls Tryz.prog 77 #[.agg #[.int .i64 k.kind, .slice ad k.n cap, .int .i64 k.e, .int .i64 k.cP, .int .i64 k.cA, .int .i64 k.cB, .int .i64 k.cN, .int .i64 k.cX, .int .i64 k.cY, .int .i64 k.q.x, .int .i64 k.q.y, .bool k.q.far, .int .i64 k.dP, .int .i64 k.dD, .int .i64 k.dL, .int .i64 k.dX, .int .i64 k.dY, .int .i64 k.a.x, .int .i64 k.a.y]] w fun r w' => r = .returned (.bool ok) ∧ Ext w w' := by
 obtain ⟨V, hV⟩ : ∃ V, w.alloc (.cells #[.int .i64 k.kind, .slice ad k.n cap, .int .i64 k.e, .int .i64 k.cP, .int .i64 k.cA, .int .i64 k.cB, .int .i64 k.cN, .int .i64 k.cX, .int .i64 k.cY, .int .i64 k.q.x, .int .i64 k.q.y, .bool k.q.far, .int .i64 k.dP, .int .i64 k.dD, .int .i64 k.dL, .int .i64 k.dX, .int .i64 k.dY, .int .i64 k.a.x, .int .i64 k.a.y] 51) = V := ⟨_, rfl⟩
 obtain ⟨B0, hE, -⟩ := box1 w [.int .i64 k.kind, .slice ad k.n cap, .int .i64 k.e, .int .i64 k.cP, .int .i64 k.cA, .int .i64 k.cB, .int .i64 k.cN, .int .i64 k.cX, .int .i64 k.cY, .int .i64 k.q.x, .int .i64 k.q.y, .bool k.q.far, .int .i64 k.dP, .int .i64 k.dD, .int .i64 k.dL, .int .i64 k.dX, .int .i64 k.dY, .int .i64 k.a.x, .int .i64 k.a.y] 51 (w1 := V) (by rw [← hV]; exact Ext.refl _)
 have c0 := (B0 0 _ rfl).1
 have c1 := (B0 1 _ rfl).1
 have c2 := (B0 2 _ rfl).1
 have HBk := hide B0
 have HE := hide hE
 have HS := hide (hs.of_all hE)
 have HV : Hid (Ext V V) := Ext.refl _
 clear B0 hE hs
 go_enter Tryz.func77, Tryz.ntmps77
 have hld := run_loadKey [.int .i64 k.kind, .slice ad k.n cap, .int .i64 k.e, .int .i64 k.cP, .int .i64 k.cA, .int .i64 k.cB, .int .i64 k.cN, .int .i64 k.cX, .int .i64 k.cY, .int .i64 k.q.x, .int .i64 k.q.y, .bool k.q.far, .int .i64 k.dP, .int .i64 k.dD, .int .i64 k.dL, .int .i64 k.dX, .int .i64 k.dY, .int .i64 k.a.x, .int .i64 k.a.y] rfl w.heap.size _ (fun j v h => (HBk.out j v h).1)
 go_wp2_with (refine wpList_load_on (by first | rfl | simp [Region.wanted, yielded]) 51 _ rfl _ rfl _ hld ?_)
 clear hld
 refine (HNC.out _).mono ?_
 rintro e W ⟨rfl, hEW⟩
 replace HV := hide (Ext.trans HV.out hEW)
 replace HBk := hide (Blk.ext HBk.out hEW (World.block_lt_of_cell? _ _ (HBk.out 0 _ rfl).1))
 replace c1 := (HBk.out 1 _ rfl).1
 replace c2 := (HBk.out 2 _ rfl).1
 clear hEW
 cases r1
 ·skip
  go_wp2
  go_ret
  exact ⟨ret_bool (by rw [HO.out]; simp), Ext.trans HE.out HV.out⟩
 ·skip
  have hld := run_loadKey [.int .i64 k.kind, .slice ad k.n cap, .int .i64 k.e, .int .i64 k.cP, .int .i64 k.cA, .int .i64 k.cB, .int .i64 k.cN, .int .i64 k.cX, .int .i64 k.cY, .int .i64 k.q.x, .int .i64 k.q.y, .bool k.q.far, .int .i64 k.dP, .int .i64 k.dD, .int .i64 k.dL, .int .i64 k.dX, .int .i64 k.dY, .int .i64 k.a.x, .int .i64 k.a.y] rfl w.heap.size _ (fun j v h => (HBk.out j v h).1)
  go_wp2_with (refine wpList_load_on (by first | rfl | simp [Region.wanted, yielded]) 51 _ rfl _ rfl _ hld ?_)
  clear hld
  refine (HNE.out _).mono ?_
  rintro e W ⟨rfl, hEW⟩
  replace HV := hide (Ext.trans HV.out hEW)
  replace HBk := hide (Blk.ext HBk.out hEW (World.block_lt_of_cell? _ _ (HBk.out 0 _ rfl).1))
  replace c1 := (HBk.out 1 _ rfl).1
  replace c2 := (HBk.out 2 _ rfl).1
  clear hEW
  cases r2
  ·skip
   go_wp2
   go_ret
   exact ⟨ret_bool (by rw [HO.out]; simp), Ext.trans HE.out HV.out⟩
  ·clear HBk
   go_wp2_with fail
   refine (HNK.out _ (Ext.trans HE.out HV.out)).mono ?_
   rintro e W ⟨rfl, hw⟩
   obtain rfl := hw.symm
   cases r3
   ·skip
    go_wp2
    go_ret
    exact ⟨ret_bool (by rw [HO.out]; simp), Ext.trans HE.out HV.out⟩
   ·skip
    go_wp2_with fail
    refine (HBI.out _ trivial (Ext.trans HE.out HV.out)).mono ?_
    rintro e W ⟨rfl, hw⟩
    obtain rfl := hw.symm
    go_wp2_with fail
    refine (HI1.out _).mono ?_
    rintro e W ⟨rfl, hw⟩
    obtain rfl := hw.symm
    cases r4
    ·skip
     go_wp2
     go_ret
     exact ⟨ret_bool (by rw [HO.out]; simp), Ext.trans HE.out HV.out⟩
    ·obtain ⟨n0, hz, z0⟩ := Hz.out (by simp) (by simp)
     have cz := (HS.out.of_all HV.out).cell 0 n0
     obtain rfl := HS.out.at' n0
     rw [hz] at cz
     simp only [Nat.add_zero] at cz
     have hn0 : (0 : Int) < (k.n : Int) := by omega
     have m1 : Int.tmod z 2 = z % 2 := by rw [Int.tmod_eq_emod_of_nonneg z0]
     clear Hz hz
     cases r5
     ·skip
      go_wp2
      go_ret
      exact ⟨ret_bool (by rw [HO.out]; simp), Ext.trans HE.out HV.out⟩
     ·skip
      go_wp2_with fail
      refine (HI2.out _).mono ?_
      rintro e W ⟨rfl, hw⟩
      obtain rfl := hw.symm
      cases r6
      ·skip
       go_wp2
       go_ret
       exact ⟨ret_bool (by rw [HO.out]; simp), Ext.trans HE.out HV.out⟩
      ·have e3 := H6.out (by simp)
       have m2 : Int.tmod k.e 2 = k.e % 2 := by rw [Int.tmod_eq_emod_of_nonneg (by omega)]
       go_wp2
       go_ret
       exact ⟨ret_bool (by rw [HO.out]; simp), Ext.trans HE.out HV.out⟩
set_option maxHeartbeats 6400000 in
set_option maxRecDepth 100000 in
theorem specKey_two (k : Ky) (ad : Option Addr) (b off cap : Nat) (ok r1 r2 r4 : Bool) (M : Pt) (w : World) (hs : Seg w ad b off k.n k.f) (g1 : (k.kind == 1) = false) (g2 : (k.kind == 2) = true)
  (HNR : Hid (∀ w, Calls Tryz.prog 95 #[.agg #[.int .i64 k.kind, .slice ad k.n cap, .int .i64 k.e, .int .i64 k.cP, .int .i64 k.cA, .int .i64 k.cB, .int .i64 k.cN, .int .i64 k.cX, .int .i64 k.cY, .int .i64 k.q.x, .int .i64 k.q.y, .bool k.q.far, .int .i64 k.dP, .int .i64 k.dD, .int .i64 k.dL, .int .i64 k.dX, .int .i64 k.dY, .int .i64 k.a.x, .int .i64 k.a.y]] w fun e w' => e = .returned (.bool r1) ∧ Ext w w'))
  (HNE : Hid (∀ w, Calls Tryz.prog 92 #[.agg #[.int .i64 k.kind, .slice ad k.n cap, .int .i64 k.e, .int .i64 k.cP, .int .i64 k.cA, .int .i64 k.cB, .int .i64 k.cN, .int .i64 k.cX, .int .i64 k.cY, .int .i64 k.q.x, .int .i64 k.q.y, .bool k.q.far, .int .i64 k.dP, .int .i64 k.dD, .int .i64 k.dL, .int .i64 k.dX, .int .i64 k.dY, .int .i64 k.a.x, .int .i64 k.a.y]] w fun e w' => e = .returned (.bool r2) ∧ Ext w w'))
  (HPO : Hid (∀ W, Calls Tryz.prog 96 #[.agg #[.int .i64 k.cP, .int .i64 k.cA, .int .i64 k.cB, .int .i64 k.cN, .int .i64 k.cX, .int .i64 k.cY], .agg #[.int .i64 k.q.x, .int .i64 k.q.y, .bool k.q.far]] W fun e w' => e = .returned (.bool r4) ∧ Ext W w'))
  (HMU : Hid (r4 = true → ∀ W, Calls Tryz.prog 97 #[.agg #[.int .i64 k.cP, .int .i64 k.cA, .int .i64 k.cB, .int .i64 k.cN, .int .i64 k.cX, .int .i64 k.cY], .int .i64 k.cN, .agg #[.int .i64 k.q.x, .int .i64 k.q.y, .bool k.q.far]] W fun r w' => r = .returned (.agg #[.int .i64 M.x, .int .i64 M.y, .bool M.far]) ∧ Ext W w'))
  (HO : Hid (ok = (r1 && (r2 && (r4 && (!k.q.far && M.far)))))) :
  Calls Tryz.prog 77 #[.agg #[.int .i64 k.kind, .slice ad k.n cap, .int .i64 k.e, .int .i64 k.cP, .int .i64 k.cA, .int .i64 k.cB, .int .i64 k.cN, .int .i64 k.cX, .int .i64 k.cY, .int .i64 k.q.x, .int .i64 k.q.y, .bool k.q.far, .int .i64 k.dP, .int .i64 k.dD, .int .i64 k.dL, .int .i64 k.dX, .int .i64 k.dY, .int .i64 k.a.x, .int .i64 k.a.y]] w fun r w' => r = .returned (.bool ok) ∧ Ext w w' := by
 obtain ⟨V, hV⟩ : ∃ V, w.alloc (.cells #[.int .i64 k.kind, .slice ad k.n cap, .int .i64 k.e, .int .i64 k.cP, .int .i64 k.cA, .int .i64 k.cB, .int .i64 k.cN, .int .i64 k.cX, .int .i64 k.cY, .int .i64 k.q.x, .int .i64 k.q.y, .bool k.q.far, .int .i64 k.dP, .int .i64 k.dD, .int .i64 k.dL, .int .i64 k.dX, .int .i64 k.dY, .int .i64 k.a.x, .int .i64 k.a.y] 51) = V := ⟨_, rfl⟩
 obtain ⟨B0, hE, -⟩ := box1 w [.int .i64 k.kind, .slice ad k.n cap, .int .i64 k.e, .int .i64 k.cP, .int .i64 k.cA, .int .i64 k.cB, .int .i64 k.cN, .int .i64 k.cX, .int .i64 k.cY, .int .i64 k.q.x, .int .i64 k.q.y, .bool k.q.far, .int .i64 k.dP, .int .i64 k.dD, .int .i64 k.dL, .int .i64 k.dX, .int .i64 k.dY, .int .i64 k.a.x, .int .i64 k.a.y] 51 (w1 := V) (by rw [← hV]; exact Ext.refl _)
 have c0 := (B0 0 _ rfl).1
 have c3 := (B0 3 _ rfl).1
 have c4 := (B0 4 _ rfl).1
 have c5 := (B0 5 _ rfl).1
 have c6 := (B0 6 _ rfl).1
 have c7 := (B0 7 _ rfl).1
 have c8 := (B0 8 _ rfl).1
 have c9 := (B0 9 _ rfl).1
 have c10 := (B0 10 _ rfl).1
 have c11 := (B0 11 _ rfl).1
 have HBk := hide B0
 have HE := hide hE
 have HS := hide (hs.of_all hE)
 have HV : Hid (Ext V V) := Ext.refl _
 clear B0 hE hs
 go_enter Tryz.func77, Tryz.ntmps77
 have hld := run_loadKey [.int .i64 k.kind, .slice ad k.n cap, .int .i64 k.e, .int .i64 k.cP, .int .i64 k.cA, .int .i64 k.cB, .int .i64 k.cN, .int .i64 k.cX, .int .i64 k.cY, .int .i64 k.q.x, .int .i64 k.q.y, .bool k.q.far, .int .i64 k.dP, .int .i64 k.dD, .int .i64 k.dL, .int .i64 k.dX, .int .i64 k.dY, .int .i64 k.a.x, .int .i64 k.a.y] rfl w.heap.size _ (fun j v h => (HBk.out j v h).1)
 go_wp2_with (refine wpList_load_on (by first | rfl | simp [Region.wanted, yielded]) 51 _ rfl _ rfl _ hld ?_)
 clear hld
 refine (HNR.out _).mono ?_
 rintro e W ⟨rfl, hEW⟩
 replace HV := hide (Ext.trans HV.out hEW)
 replace HBk := hide (Blk.ext HBk.out hEW (World.block_lt_of_cell? _ _ (HBk.out 0 _ rfl).1))
 replace c3 := (HBk.out 3 _ rfl).1
 replace c4 := (HBk.out 4 _ rfl).1
 replace c5 := (HBk.out 5 _ rfl).1
 replace c6 := (HBk.out 6 _ rfl).1
 replace c7 := (HBk.out 7 _ rfl).1
 replace c8 := (HBk.out 8 _ rfl).1
 replace c9 := (HBk.out 9 _ rfl).1
 replace c10 := (HBk.out 10 _ rfl).1
 replace c11 := (HBk.out 11 _ rfl).1
 clear hEW
 cases r1
 ·skip
  go_wp2
  go_ret
  exact ⟨ret_bool (by rw [HO.out]; simp), Ext.trans HE.out HV.out⟩
 ·skip
  have hld := run_loadKey [.int .i64 k.kind, .slice ad k.n cap, .int .i64 k.e, .int .i64 k.cP, .int .i64 k.cA, .int .i64 k.cB, .int .i64 k.cN, .int .i64 k.cX, .int .i64 k.cY, .int .i64 k.q.x, .int .i64 k.q.y, .bool k.q.far, .int .i64 k.dP, .int .i64 k.dD, .int .i64 k.dL, .int .i64 k.dX, .int .i64 k.dY, .int .i64 k.a.x, .int .i64 k.a.y] rfl w.heap.size _ (fun j v h => (HBk.out j v h).1)
  go_wp2_with (refine wpList_load_on (by first | rfl | simp [Region.wanted, yielded]) 51 _ rfl _ rfl _ hld ?_)
  clear hld
  refine (HNE.out _).mono ?_
  rintro e W ⟨rfl, hEW⟩
  replace HV := hide (Ext.trans HV.out hEW)
  replace HBk := hide (Blk.ext HBk.out hEW (World.block_lt_of_cell? _ _ (HBk.out 0 _ rfl).1))
  replace c3 := (HBk.out 3 _ rfl).1
  replace c4 := (HBk.out 4 _ rfl).1
  replace c5 := (HBk.out 5 _ rfl).1
  replace c6 := (HBk.out 6 _ rfl).1
  replace c7 := (HBk.out 7 _ rfl).1
  replace c8 := (HBk.out 8 _ rfl).1
  replace c9 := (HBk.out 9 _ rfl).1
  replace c10 := (HBk.out 10 _ rfl).1
  replace c11 := (HBk.out 11 _ rfl).1
  clear hEW
  cases r2
  ·skip
   go_wp2
   go_ret
   exact ⟨ret_bool (by rw [HO.out]; simp), Ext.trans HE.out HV.out⟩
  ·skip
   go_wp2_with fail
   refine (HPO.out _).mono ?_
   rintro e W ⟨rfl, hEW⟩
   replace HV := hide (Ext.trans HV.out hEW)
   replace HBk := hide (Blk.ext HBk.out hEW (World.block_lt_of_cell? _ _ (HBk.out 0 _ rfl).1))
   replace c3 := (HBk.out 3 _ rfl).1
   replace c4 := (HBk.out 4 _ rfl).1
   replace c5 := (HBk.out 5 _ rfl).1
   replace c6 := (HBk.out 6 _ rfl).1
   replace c7 := (HBk.out 7 _ rfl).1
   replace c8 := (HBk.out 8 _ rfl).1
   replace c9 := (HBk.out 9 _ rfl).1
   replace c10 := (HBk.out 10 _ rfl).1
   replace c11 := (HBk.out 11 _ rfl).1
   clear hEW
   cases r4
   ·skip
    go_wp2
    go_ret
    exact ⟨ret_bool (by rw [HO.out]; simp), Ext.trans HE.out HV.out⟩
   ·clear HBk
    obtain ⟨qf, hqf⟩ : ∃ qf, k.q.far = qf := ⟨_, rfl⟩
    rw [hqf] at HO
    cases qf
    ·have hM := HMU.out (by simp)
     rw [hqf] at hM
     have HM := hide hM
     clear hM
     go_wp2_with fail
     refine (HM.out _).mono ?_
     rintro e W ⟨rfl, hEW⟩
     replace HV := hide (Ext.trans HV.out hEW)
     clear hEW
     have hfd : ∀ w : World, (Instr.field 47 (.agg #[.int .i64 M.x, .int .i64 M.y, .bool M.far]) 2).run Tryz.prog w = .ok (.bool M.far) w := fun _ => by kernel_rfl
     go_wp2
     go_ret
     exact ⟨ret_bool (by rw [HO.out]; simp), Ext.trans HE.out HV.out⟩
    ·skip
     go_wp2
     go_ret
     exact ⟨ret_bool (by rw [HO.out]; simp), Ext.trans HE.out HV.out⟩
set_option maxHeartbeats 6400000 in
set_option maxRecDepth 100000 in
theorem specKey_three (k : Ky) (ad : Option Addr) (b off cap : Nat) (ok r1 r2 r3 : Bool) (w : World) (hs : Seg w ad b off k.n k.f) (g1 : (k.kind == 1) = false) (g2 : (k.kind == 2) = false) (g3 : (k.kind == 3) = true)
  (HNR : Hid (∀ w, Calls Tryz.prog 95 #[.agg #[.int .i64 k.kind, .slice ad k.n cap, .int .i64 k.e, .int .i64 k.cP, .int .i64 k.cA, .int .i64 k.cB, .int .i64 k.cN, .int .i64 k.cX, .int .i64 k.cY, .int .i64 k.q.x, .int .i64 k.q.y, .bool k.q.far, .int .i64 k.dP, .int .i64 k.dD, .int .i64 k.dL, .int .i64 k.dX, .int .i64 k.dY, .int .i64 k.a.x, .int .i64 k.a.y]] w fun e w' => e = .returned (.bool r1) ∧ Ext w w'))
  (HNC : Hid (∀ w, Calls Tryz.prog 91 #[.agg #[.int .i64 k.kind, .slice ad k.n cap, .int .i64 k.e, .int .i64 k.cP, .int .i64 k.cA, .int .i64 k.cB, .int .i64 k.cN, .int .i64 k.cX, .int .i64 k.cY, .int .i64 k.q.x, .int .i64 k.q.y, .bool k.q.far, .int .i64 k.dP, .int .i64 k.dD, .int .i64 k.dL, .int .i64 k.dX, .int .i64 k.dY, .int .i64 k.a.x, .int .i64 k.a.y]] w fun e w' => e = .returned (.bool r2) ∧ Ext w w'))
  (HPA : Hid (∀ W, Calls Tryz.prog 98 #[.agg #[.int .i64 k.dP, .int .i64 k.dD, .int .i64 k.dL, .int .i64 k.dX, .int .i64 k.dY], .agg #[.int .i64 k.a.x, .int .i64 k.a.y]] W fun e w' => e = .returned (.bool r3) ∧ Ext W w'))
  (HO : Hid (ok = (r1 && (r2 && r3)))) :
  Calls Tryz.prog 77 #[.agg #[.int .i64 k.kind, .slice ad k.n cap, .int .i64 k.e, .int .i64 k.cP, .int .i64 k.cA, .int .i64 k.cB, .int .i64 k.cN, .int .i64 k.cX, .int .i64 k.cY, .int .i64 k.q.x, .int .i64 k.q.y, .bool k.q.far, .int .i64 k.dP, .int .i64 k.dD, .int .i64 k.dL, .int .i64 k.dX, .int .i64 k.dY, .int .i64 k.a.x, .int .i64 k.a.y]] w fun r w' => r = .returned (.bool ok) ∧ Ext w w' := by
 obtain ⟨V, hV⟩ : ∃ V, w.alloc (.cells #[.int .i64 k.kind, .slice ad k.n cap, .int .i64 k.e, .int .i64 k.cP, .int .i64 k.cA, .int .i64 k.cB, .int .i64 k.cN, .int .i64 k.cX, .int .i64 k.cY, .int .i64 k.q.x, .int .i64 k.q.y, .bool k.q.far, .int .i64 k.dP, .int .i64 k.dD, .int .i64 k.dL, .int .i64 k.dX, .int .i64 k.dY, .int .i64 k.a.x, .int .i64 k.a.y] 51) = V := ⟨_, rfl⟩
 obtain ⟨B0, hE, -⟩ := box1 w [.int .i64 k.kind, .slice ad k.n cap, .int .i64 k.e, .int .i64 k.cP, .int .i64 k.cA, .int .i64 k.cB, .int .i64 k.cN, .int .i64 k.cX, .int .i64 k.cY, .int .i64 k.q.x, .int .i64 k.q.y, .bool k.q.far, .int .i64 k.dP, .int .i64 k.dD, .int .i64 k.dL, .int .i64 k.dX, .int .i64 k.dY, .int .i64 k.a.x, .int .i64 k.a.y] 51 (w1 := V) (by rw [← hV]; exact Ext.refl _)
 have c0 := (B0 0 _ rfl).1
 have c12 := (B0 12 _ rfl).1
 have c13 := (B0 13 _ rfl).1
 have c14 := (B0 14 _ rfl).1
 have c15 := (B0 15 _ rfl).1
 have c16 := (B0 16 _ rfl).1
 have c17 := (B0 17 _ rfl).1
 have c18 := (B0 18 _ rfl).1
 have HBk := hide B0
 have HE := hide hE
 have HS := hide (hs.of_all hE)
 have HV : Hid (Ext V V) := Ext.refl _
 clear B0 hE hs
 go_enter Tryz.func77, Tryz.ntmps77
 have hld := run_loadKey [.int .i64 k.kind, .slice ad k.n cap, .int .i64 k.e, .int .i64 k.cP, .int .i64 k.cA, .int .i64 k.cB, .int .i64 k.cN, .int .i64 k.cX, .int .i64 k.cY, .int .i64 k.q.x, .int .i64 k.q.y, .bool k.q.far, .int .i64 k.dP, .int .i64 k.dD, .int .i64 k.dL, .int .i64 k.dX, .int .i64 k.dY, .int .i64 k.a.x, .int .i64 k.a.y] rfl w.heap.size _ (fun j v h => (HBk.out j v h).1)
 go_wp2_with (refine wpList_load_on (by first | rfl | simp [Region.wanted, yielded]) 51 _ rfl _ rfl _ hld ?_)
 clear hld
 refine (HNR.out _).mono ?_
 rintro e W ⟨rfl, hEW⟩
 replace HV := hide (Ext.trans HV.out hEW)
 replace HBk := hide (Blk.ext HBk.out hEW (World.block_lt_of_cell? _ _ (HBk.out 0 _ rfl).1))
 replace c12 := (HBk.out 12 _ rfl).1
 replace c13 := (HBk.out 13 _ rfl).1
 replace c14 := (HBk.out 14 _ rfl).1
 replace c15 := (HBk.out 15 _ rfl).1
 replace c16 := (HBk.out 16 _ rfl).1
 replace c17 := (HBk.out 17 _ rfl).1
 replace c18 := (HBk.out 18 _ rfl).1
 clear hEW
 cases r1
 ·skip
  go_wp2
  go_ret
  exact ⟨ret_bool (by rw [HO.out]; simp), Ext.trans HE.out HV.out⟩
 ·skip
  have hld := run_loadKey [.int .i64 k.kind, .slice ad k.n cap, .int .i64 k.e, .int .i64 k.cP, .int .i64 k.cA, .int .i64 k.cB, .int .i64 k.cN, .int .i64 k.cX, .int .i64 k.cY, .int .i64 k.q.x, .int .i64 k.q.y, .bool k.q.far, .int .i64 k.dP, .int .i64 k.dD, .int .i64 k.dL, .int .i64 k.dX, .int .i64 k.dY, .int .i64 k.a.x, .int .i64 k.a.y] rfl w.heap.size _ (fun j v h => (HBk.out j v h).1)
  go_wp2_with (refine wpList_load_on (by first | rfl | simp [Region.wanted, yielded]) 51 _ rfl _ rfl _ hld ?_)
  clear hld
  refine (HNC.out _).mono ?_
  rintro e W ⟨rfl, hEW⟩
  replace HV := hide (Ext.trans HV.out hEW)
  replace HBk := hide (Blk.ext HBk.out hEW (World.block_lt_of_cell? _ _ (HBk.out 0 _ rfl).1))
  replace c12 := (HBk.out 12 _ rfl).1
  replace c13 := (HBk.out 13 _ rfl).1
  replace c14 := (HBk.out 14 _ rfl).1
  replace c15 := (HBk.out 15 _ rfl).1
  replace c16 := (HBk.out 16 _ rfl).1
  replace c17 := (HBk.out 17 _ rfl).1
  replace c18 := (HBk.out 18 _ rfl).1
  clear hEW
  cases r2
  ·skip
   go_wp2
   go_ret
   exact ⟨ret_bool (by rw [HO.out]; simp), Ext.trans HE.out HV.out⟩
  ·skip
   go_wp2_with fail
   refine (HPA.out _).mono ?_
   rintro e W ⟨rfl, hEW⟩
   replace HV := hide (Ext.trans HV.out hEW)
   replace HBk := hide (Blk.ext HBk.out hEW (World.block_lt_of_cell? _ _ (HBk.out 0 _ rfl).1))
   clear hEW
   go_wp2
   go_ret
   exact ⟨ret_bool (by rw [HO.out]; simp), Ext.trans HE.out HV.out⟩
set_option maxHeartbeats 3200000 in
set_option maxRecDepth 100000 in
theorem specKey_none (k : Ky) (ad : Option Addr) (b off cap : Nat) (w : World) (hs : Seg w ad b off k.n k.f) (g1 : (k.kind == 1) = false) (g2 : (k.kind == 2) = false) (g3 : (k.kind == 3) = false) :
  Calls Tryz.prog 77 #[.agg #[.int .i64 k.kind, .slice ad k.n cap, .int .i64 k.e, .int .i64 k.cP, .int .i64 k.cA, .int .i64 k.cB, .int .i64 k.cN, .int .i64 k.cX, .int .i64 k.cY, .int .i64 k.q.x, .int .i64 k.q.y, .bool k.q.far, .int .i64 k.dP, .int .i64 k.dD, .int .i64 k.dL, .int .i64 k.dX, .int .i64 k.dY, .int .i64 k.a.x, .int .i64 k.a.y]] w fun r w' => r = .returned (.bool false) ∧ Ext w w' := by
 obtain ⟨V, hV⟩ : ∃ V, w.alloc (.cells #[.int .i64 k.kind, .slice ad k.n cap, .int .i64 k.e, .int .i64 k.cP, .int .i64 k.cA, .int .i64 k.cB, .int .i64 k.cN, .int .i64 k.cX, .int .i64 k.cY, .int .i64 k.q.x, .int .i64 k.q.y, .bool k.q.far, .int .i64 k.dP, .int .i64 k.dD, .int .i64 k.dL, .int .i64 k.dX, .int .i64 k.dY, .int .i64 k.a.x, .int .i64 k.a.y] 51) = V := ⟨_, rfl⟩
 obtain ⟨B0, hE, -⟩ := box1 w [.int .i64 k.kind, .slice ad k.n cap, .int .i64 k.e, .int .i64 k.cP, .int .i64 k.cA, .int .i64 k.cB, .int .i64 k.cN, .int .i64 k.cX, .int .i64 k.cY, .int .i64 k.q.x, .int .i64 k.q.y, .bool k.q.far, .int .i64 k.dP, .int .i64 k.dD, .int .i64 k.dL, .int .i64 k.dX, .int .i64 k.dY, .int .i64 k.a.x, .int .i64 k.a.y] 51 (w1 := V) (by rw [← hV]; exact Ext.refl _)
 have c0 := (B0 0 _ rfl).1
 have HBk := hide B0
 have HE := hide hE
 have HS := hide (hs.of_all hE)
 have HV : Hid (Ext V V) := Ext.refl _
 clear B0 hE hs
 clear HBk HS
 go_enter Tryz.func77, Tryz.ntmps77
 go_wp2
 go_ret
 exact ⟨rfl, HE.out⟩
theorem specKeyOk_at (k : Ky) (ad : Option Addr) (b off cap : Nat) (ok : Bool) (hk : ok = true ↔ KeyP k) (w : World) (hs : Seg w ad b off k.n k.f) (hI : KyIn k) :
  Calls Tryz.prog 77 #[.agg #[.int .i64 k.kind, .slice ad k.n cap, .int .i64 k.e, .int .i64 k.cP, .int .i64 k.cA, .int .i64 k.cB, .int .i64 k.cN, .int .i64 k.cX, .int .i64 k.cY, .int .i64 k.q.x, .int .i64 k.q.y, .bool k.q.far, .int .i64 k.dP, .int .i64 k.dD, .int .i64 k.dL, .int .i64 k.dX, .int .i64 k.dY, .int .i64 k.a.x, .int .i64 k.a.y]] w fun r w' => r = .returned (.bool ok) ∧ Ext w w' := by
 by_cases h1 : k.kind = 1
 ·have hO := key1 hk h1
  rw [rs_all] at hO
  refine specKey_one k ad b off cap ok (ncB k) (neB k) (natOk k.n k.f) (decide (128 ≤ bitsOf k.n k.f) && decide (bitsOf k.n k.f ≤ 512)) (k.f 0 % 2 == 1) (decide (3 ≤ k.e) && decide (k.e ≤ 65537)) (bitsOf k.n k.f) (k.f 0) w hs (by simp [h1]) (hide fun w => noCurve_any k ad cap w) (hide fun w => noEd_any k ad cap w)
   (hide fun W h => specNatOk_any ad b off k.n cap k.f W (hs.of_all h) hI.n) (hide fun W h3 h => l1Bits_any ad b off k.n cap k.f W (hs.of_all h) hI.n ?_) (hide fun w => l1In_any _ _ _ w) (hide fun w => l1In_any _ _ _ w) (hide fun h3 h4 => ?_) rfl (hide fun h => by simp at h; exact h.1) (hide ?_)
  ·by_cases e : k.n = 0
   ·exact .inl e
   ·exact .inr (((natOk_iff _ _).1 h3).1 (k.n - 1) (by omega))
  ·have h0 : 0 < k.n := by
    rcases Nat.eq_zero_or_pos k.n with e | e
    ·rw [e] at h4; simp [bitsOf] at h4
    ·exact e
   exact ⟨h0, rfl, (((natOk_iff _ _).1 h3).1 0 h0).1⟩
  ·rw [hO]
   generalize natOk k.n k.f = a1
   generalize (decide (128 ≤ bitsOf k.n k.f) && decide (bitsOf k.n k.f ≤ 512)) = a2
   generalize (k.f 0 % 2 == 1) = a3
   generalize (decide (3 ≤ k.e) && decide (k.e ≤ 65537)) = a4
   generalize (k.e % 2 == 1) = a5
   generalize ncB k = a6
   generalize neB k = a7
   revert a1 a2 a3 a4 a5 a6 a7
   decide
 by_cases h2 : k.kind = 2
 ·obtain ⟨r3, h3⟩ := tell (CkOk k)
  have hO := key2 hk h3 h2
  obtain ⟨r4, h4⟩ := tell (CvOk k.cP k.cA k.cB k.cN k.cX k.cY ∧ On k.cP.toNat k.cA k.cB k.q)
  refine specKey_two k ad b off cap ok (nrB k) (neB k) r4 (mulF k.cP.toNat k.cA k.cN.toNat k.q) w hs (by simp [h2]) (by simp [h2]) (hide fun w => noRsa_any k ad cap w) (hide fun w => noEd_any k ad cap w)
   (hide fun W => (specPointOk_any k.cP k.cA k.cB k.cN k.cX k.cY k.q W hI.p hI.c).mono fun r w' ⟨⟨b, e, hb⟩, h⟩ => ⟨by rw [e, show b = r4 from Bool.eq_iff_iff.2 (hb.trans h4.symm)], h⟩) (hide fun hr W => ?_) (hide ?_)
  ·have hc := h4.1 hr
   have p5 := hc.1.p5
   have n5 := hc.1.n5
   have := l3Mul_any k.cP.toNat k.cA k.cB k.cN k.cX k.cY k.cN.toNat k.q W hc.1.pp (by omega) (by have := hc.1.pM; omega) (by have := hc.1.a0; omega) (by have := hc.1.a1; have := hc.1.pM; omega) (on_inR (by omega) hc.2) (by have := hc.1.nM; omega)
   rw [Int.toNat_of_nonneg (by omega), Int.toNat_of_nonneg (by omega)] at this
   exact this
  ·rw [hO]
   have : r3 = (r4 && (!k.q.far && (mulF k.cP.toNat k.cA k.cN.toNat k.q).far)) := by
    refine Bool.eq_iff_iff.2 ?_
    rw [h3]
    unfold CkOk
    rw [← h4]
    simp
   rw [this]
   generalize (mulF k.cP.toNat k.cA k.cN.toNat k.q).far = a1
   generalize k.q.far = a2
   generalize nrB k = a3
   generalize neB k = a4
   clear this h4 h3 hO
   revert r4 a1 a2 a3 a4
   decide
 by_cases h3 : k.kind = 3
 ·obtain ⟨r3, hr3⟩ := tell (EkOk k)
  have hO := key3 hk hr3 h3
  refine specKey_three k ad b off cap ok (nrB k) (ncB k) r3 w hs (by simp [h3]) (by simp [h3]) (by simp [h3]) (hide fun w => noRsa_any k ad cap w) (hide fun w => noCurve_any k ad cap w) (hide fun W => specPairOk_at k.dP k.dD k.dL k.dX k.dY k.a hI.d hI.l r3 hr3 W) (hide ?_)
  rw [hO]
  generalize nrB k = a3
  generalize ncB k = a4
  clear hr3 hO
  revert r3 a3 a4
  decide
 ·rw [key0 hk h1 h2 h3]
  exact specKey_none k ad b off cap w hs (by simp [h1]) (by simp [h2]) (by simp [h3])
end
section
set_option maxRecDepth 100000
open Go.RowKit
def ctB (c : Ct) (ok : Bool) : Bool := (inB c.serial 1 1000000000000000 && (nmB c.ni c.fi && (nmB c.ns c.fs && (tsB c.fr c.to && (slB c.alg c.ng && (exB c.x && ok))))))
theorem ct_impl (c : Ct) (ok : Bool) : ctB c ok = (inB c.serial 1 1000000000000000 && (nmB c.ni c.fi && (nmB c.ns c.fs && (tsB c.fr c.to && (slB c.alg c.ng && (exB c.x && ok)))))) := rfl
theorem ct_spec (c : Ct) (ok : Bool) : ctB c ok = (inB c.serial 1 1000000000000000 && (nmB c.ni c.fi && (nmB c.ns c.fs && (tmB c.fr && (tmB c.to && (decide (c.fr ≤ c.to) && (ok && (inB c.alg 1 4 && (exB c.x && inB (c.ng : Int) 1 64))))))))) := by
 unfold ctB tsB slB
 generalize inB c.serial 1 1000000000000000 = q0
 generalize nmB c.ni c.fi = q1
 generalize nmB c.ns c.fs = q2
 generalize tmB c.fr = q3
 generalize tmB c.to = q4
 generalize decide (c.fr ≤ c.to) = q5
 generalize inB c.alg 1 4 = q6
 generalize inB (c.ng : Int) 1 64 = q7
 generalize exB c.x = q8
 cases q0 <;> cases q1 <;> cases q2 <;> cases q3 <;> cases q4 <;> cases q5 <;> cases q6 <;> simp <;> cases q7 <;> cases q8 <;> cases ok <;> rfl
set_option maxHeartbeats 12800000 in
theorem implCertOk_at (c : Ct) (m : CtPl) (ok : Bool) (hk : ok = true ↔ KeyP c.k) (w : World) (hI : CtIn w c m) (hS : CtSm c 1048576) (hK : KyIn c.k) :
  Calls Tryz.prog 61 #[.agg (ctL c m).toArray] w fun e w' => e = .returned (.bool (ctB c ok)) ∧ Ext w w' := by
 obtain ⟨V, hV⟩ : ∃ V, w.alloc (.cells (ctL c m).toArray 54) = V := ⟨_, rfl⟩
 obtain ⟨B0, hE, hl⟩ := box1 w (ctL c m) 54 (w1 := V) (by rw [← hV]; exact Ext.refl _)
 have HB := hide B0
 have HE := hide hE
 have HX : Hid (Ext V V) := hide (Ext.refl _)
 have H0 : Hid (∀ W, Ext V W → Calls Tryz.prog 81 #[.int .i64 c.serial] W fun e w' => e = .returned (.bool (inB c.serial 1 1000000000000000)) ∧ Ext W w') := fun W hW => serialOk_any c.serial W
 have H1 : Hid (∀ W, Ext V W → Calls Tryz.prog 82 #[.slice m.i.ad c.ni m.i.cap] W fun e w' => e = .returned (.bool (nmB c.ni c.fi)) ∧ Ext W w') := fun W hW => nameOk_any m.i c.ni c.fi W (hI.i.of_all (Ext.trans hE hW)) hS.i hS.is
 have H2 : Hid (∀ W, Ext V W → Calls Tryz.prog 82 #[.slice m.s.ad c.ns m.s.cap] W fun e w' => e = .returned (.bool (nmB c.ns c.fs)) ∧ Ext W w') := fun W hW => nameOk_any m.s c.ns c.fs W (hI.s.of_all (Ext.trans hE hW)) hS.s hS.ss
 have H3 : Hid (∀ W, Ext V W → Calls Tryz.prog 83 #[.int .i64 c.fr, .int .i64 c.to] W fun e w' => e = .returned (.bool (tsB c.fr c.to)) ∧ Ext W w') := fun W hW => timesOk_any c.fr c.to W
 have H4 : Hid (∀ W, Ext V W → Calls Tryz.prog 84 #[.int .i64 c.alg, .slice m.g.ad c.ng m.g.cap] W fun e w' => e = .returned (.bool (slB c.alg c.ng)) ∧ Ext W w') := fun W hW => sealOk_any c.alg m.g.ad c.ng m.g.cap W
 have H5 : Hid (∀ W, Ext V W → Calls Tryz.prog 85 #[.agg (exL c.x m.x).toArray] W fun e w' => e = .returned (.bool (exB c.x)) ∧ Ext W w') := fun W hW => extsOk_at c.x m.x W (hI.x.ext (Ext.trans hE hW)) hS.x
 have H6 : Hid (∀ W, Ext V W → Calls Tryz.prog 86 #[.agg (kyL c.k m.k).toArray] W fun e w' => e = .returned (.bool (ok)) ∧ Ext W w') := fun W hW => implKeyOk_at c.k m.k.ad m.k.b m.k.off m.k.cap ok hk W (hI.k.of_all (Ext.trans hE hW)) hK
 have HV := hide (ct_impl c ok)
 obtain ⟨R, hR⟩ : ∃ R, ctB c ok = R := ⟨_, rfl⟩
 rw [hR] at HV ⊢
 clear hR B0 hE hl hI hS hK hk
 obtain ⟨q0, hq0⟩ : ∃ q, inB c.serial 1 1000000000000000 = q := ⟨_, rfl⟩
 rw [hq0] at HV H0
 clear hq0
 obtain ⟨q1, hq1⟩ : ∃ q, nmB c.ni c.fi = q := ⟨_, rfl⟩
 rw [hq1] at HV H1
 clear hq1
 obtain ⟨q2, hq2⟩ : ∃ q, nmB c.ns c.fs = q := ⟨_, rfl⟩
 rw [hq2] at HV H2
 clear hq2
 obtain ⟨q3, hq3⟩ : ∃ q, tsB c.fr c.to = q := ⟨_, rfl⟩
 rw [hq3] at HV H3
 clear hq3
 obtain ⟨q4, hq4⟩ : ∃ q, slB c.alg c.ng = q := ⟨_, rfl⟩
 rw [hq4] at HV H4
 clear hq4
 obtain ⟨q5, hq5⟩ : ∃ q, exB c.x = q := ⟨_, rfl⟩
 rw [hq5] at HV H5
 clear hq5
 obtain ⟨q6, hq6⟩ : ∃ q, ok = q := ⟨_, rfl⟩
 rw [hq6] at HV H6
 clear hq6
 go_enter Tryz.func61, Tryz.ntmps61
 have c0 := (HB.out 0 _ rfl).1
 go_wp2_with fail
 refine (H0.out _ HX.out).mono ?_
 rintro e w0 ⟨rfl, hE0⟩
 replace HB := hide (Blk.ext HB.out hE0 (Blk.lt HB.out (by simp [ctL])))
 replace HX := hide (Ext.trans HX.out hE0)
 clear hE0 H0 c0
 cases q0
 ·go_wp2
  go_ret
  exact ⟨ret_bool (by rw [HV.out]; simp), Ext.trans HE.out HX.out⟩
 have c1 := (HB.out 1 _ rfl).1
 go_wp2_with fail
 refine (H1.out _ HX.out).mono ?_
 rintro e w1 ⟨rfl, hE1⟩
 replace HB := hide (Blk.ext HB.out hE1 (Blk.lt HB.out (by simp [ctL])))
 replace HX := hide (Ext.trans HX.out hE1)
 clear hE1 H1 c1
 cases q1
 ·go_wp2
  go_ret
  exact ⟨ret_bool (by rw [HV.out]; simp), Ext.trans HE.out HX.out⟩
 have c2 := (HB.out 2 _ rfl).1
 go_wp2_with fail
 refine (H2.out _ HX.out).mono ?_
 rintro e w2 ⟨rfl, hE2⟩
 replace HB := hide (Blk.ext HB.out hE2 (Blk.lt HB.out (by simp [ctL])))
 replace HX := hide (Ext.trans HX.out hE2)
 clear hE2 H2 c2
 cases q2
 ·go_wp2
  go_ret
  exact ⟨ret_bool (by rw [HV.out]; simp), Ext.trans HE.out HX.out⟩
 have c3 := (HB.out 3 _ rfl).1
 have c4 := (HB.out 4 _ rfl).1
 go_wp2_with fail
 refine (H3.out _ HX.out).mono ?_
 rintro e w3 ⟨rfl, hE3⟩
 replace HB := hide (Blk.ext HB.out hE3 (Blk.lt HB.out (by simp [ctL])))
 replace HX := hide (Ext.trans HX.out hE3)
 clear hE3 H3 c3 c4
 cases q3
 ·go_wp2
  go_ret
  exact ⟨ret_bool (by rw [HV.out]; simp), Ext.trans HE.out HX.out⟩
 have c24 := (HB.out 24 _ rfl).1
 have c33 := (HB.out 33 _ rfl).1
 go_wp2_with fail
 refine (H4.out _ HX.out).mono ?_
 rintro e w4 ⟨rfl, hE4⟩
 replace HB := hide (Blk.ext HB.out hE4 (Blk.lt HB.out (by simp [ctL])))
 replace HX := hide (Ext.trans HX.out hE4)
 clear hE4 H4 c24 c33
 cases q4
 ·go_wp2
  go_ret
  exact ⟨ret_bool (by rw [HV.out]; simp), Ext.trans HE.out HX.out⟩
 have hld := run_ld (P := Tryz.prog) 52 (exL c.x m.x) w4 (by kernel_rfl) (by kernel_rfl) w.heap.size 25 (Blk.ld HB.out 25 _ (fun j v h => sub_ex c m j v h))
 go_wp2_with (refine wpList_ld (by first | rfl | simp [Region.wanted, yielded]) 52 _ rfl _ rfl _ hld ?_)
 refine (H5.out _ HX.out).mono ?_
 rintro e w5 ⟨rfl, hE5⟩
 replace HB := hide (Blk.ext HB.out hE5 (Blk.lt HB.out (by simp [ctL])))
 replace HX := hide (Ext.trans HX.out hE5)
 clear hE5 H5 hld
 cases q5
 ·go_wp2
  go_ret
  exact ⟨ret_bool (by rw [HV.out]; simp), Ext.trans HE.out HX.out⟩
 have hld := run_ld (P := Tryz.prog) 51 (kyL c.k m.k) w5 (by kernel_rfl) (by kernel_rfl) w.heap.size 5 (Blk.ld HB.out 5 _ (fun j v h => sub_key c m j v h))
 go_wp2_with (refine wpList_ld (by first | rfl | simp [Region.wanted, yielded]) 51 _ rfl _ rfl _ hld ?_)
 refine (H6.out _ HX.out).mono ?_
 rintro e w6 ⟨rfl, hE6⟩
 replace HB := hide (Blk.ext HB.out hE6 (Blk.lt HB.out (by simp [ctL])))
 replace HX := hide (Ext.trans HX.out hE6)
 clear hE6 H6 hld
 go_wp2
 go_ret
 exact ⟨ret_bool (by rw [HV.out]; simp), Ext.trans HE.out HX.out⟩
set_option maxHeartbeats 12800000 in
theorem specCertOk_at (c : Ct) (m : CtPl) (ok : Bool) (hk : ok = true ↔ KeyP c.k) (w : World) (hI : CtIn w c m) (hS : CtSm c 1048576) (hK : KyIn c.k) :
  Calls Tryz.prog 51 #[.agg (ctL c m).toArray] w fun e w' => e = .returned (.bool (ctB c ok)) ∧ Ext w w' := by
 obtain ⟨V, hV⟩ : ∃ V, w.alloc (.cells (ctL c m).toArray 54) = V := ⟨_, rfl⟩
 obtain ⟨B0, hE, hl⟩ := box1 w (ctL c m) 54 (w1 := V) (by rw [← hV]; exact Ext.refl _)
 have HB := hide B0
 have HE := hide hE
 have HX : Hid (Ext V V) := hide (Ext.refl _)
 have H0 : Hid (∀ W, Ext V W → Calls Tryz.prog 23 #[.int .i64 c.serial, .int .i64 1, .int .i64 1000000000000000] W fun e w' => e = .returned (.bool (inB c.serial 1 1000000000000000)) ∧ Ext W w') := fun W hW => (l1InB c.serial 1 1000000000000000 W).mono fun e w' ⟨h1, h2⟩ => ⟨h1, h2 ▸ Ext.refl _⟩
 have H1 : Hid (∀ W, Ext V W → Calls Tryz.prog 75 #[.slice m.i.ad c.ni m.i.cap] W fun e w' => e = .returned (.bool (nmB c.ni c.fi)) ∧ Ext W w') := fun W hW => l10Name_any m.i c.ni c.fi W (hI.i.of_all (Ext.trans hE hW)) hS.i hS.is
 have H2 : Hid (∀ W, Ext V W → Calls Tryz.prog 75 #[.slice m.s.ad c.ns m.s.cap] W fun e w' => e = .returned (.bool (nmB c.ns c.fs)) ∧ Ext W w') := fun W hW => l10Name_any m.s c.ns c.fs W (hI.s.of_all (Ext.trans hE hW)) hS.s hS.ss
 have H3 : Hid (∀ W, Ext V W → Calls Tryz.prog 76 #[.int .i64 c.fr] W fun e w' => e = .returned (.bool (tmB c.fr)) ∧ Ext W w') := fun W hW => (l9OkB c.fr W).mono fun e w' ⟨h1, h2⟩ => ⟨h1, h2 ▸ Ext.refl _⟩
 have H4 : Hid (∀ W, Ext V W → Calls Tryz.prog 76 #[.int .i64 c.to] W fun e w' => e = .returned (.bool (tmB c.to)) ∧ Ext W w') := fun W hW => (l9OkB c.to W).mono fun e w' ⟨h1, h2⟩ => ⟨h1, h2 ▸ Ext.refl _⟩
 have H6 : Hid (∀ W, Ext V W → Calls Tryz.prog 77 #[.agg (kyL c.k m.k).toArray] W fun e w' => e = .returned (.bool (ok)) ∧ Ext W w') := fun W hW => specKeyOk_at c.k m.k.ad m.k.b m.k.off m.k.cap ok hk W (hI.k.of_all (Ext.trans hE hW)) hK
 have H7 : Hid (∀ W, Ext V W → Calls Tryz.prog 23 #[.int .i64 c.alg, .int .i64 1, .int .i64 4] W fun e w' => e = .returned (.bool (inB c.alg 1 4)) ∧ Ext W w') := fun W hW => (l1InB c.alg 1 4 W).mono fun e w' ⟨h1, h2⟩ => ⟨h1, h2 ▸ Ext.refl _⟩
 have H8 : Hid (∀ W, Ext V W → Calls Tryz.prog 78 #[.agg (exL c.x m.x).toArray] W fun e w' => e = .returned (.bool (exB c.x)) ∧ Ext W w') := fun W hW => l10Exts_at c.x m.x W (hI.x.ext (Ext.trans hE hW)) hS.x
 have H9 : Hid (∀ W, Ext V W → Calls Tryz.prog 23 #[.int .i64 (c.ng : Int), .int .i64 1, .int .i64 64] W fun e w' => e = .returned (.bool (inB (c.ng : Int) 1 64)) ∧ Ext W w') := fun W hW => (l1InB (c.ng : Int) 1 64 W).mono fun e w' ⟨h1, h2⟩ => ⟨h1, h2 ▸ Ext.refl _⟩
 have HV := hide (ct_spec c ok)
 obtain ⟨R, hR⟩ : ∃ R, ctB c ok = R := ⟨_, rfl⟩
 rw [hR] at HV ⊢
 clear hR B0 hE hl hI hS hK hk
 obtain ⟨q0, hq0⟩ : ∃ q, inB c.serial 1 1000000000000000 = q := ⟨_, rfl⟩
 rw [hq0] at HV H0
 clear hq0
 obtain ⟨q1, hq1⟩ : ∃ q, nmB c.ni c.fi = q := ⟨_, rfl⟩
 rw [hq1] at HV H1
 clear hq1
 obtain ⟨q2, hq2⟩ : ∃ q, nmB c.ns c.fs = q := ⟨_, rfl⟩
 rw [hq2] at HV H2
 clear hq2
 obtain ⟨q3, hq3⟩ : ∃ q, tmB c.fr = q := ⟨_, rfl⟩
 rw [hq3] at HV H3
 clear hq3
 obtain ⟨q4, hq4⟩ : ∃ q, tmB c.to = q := ⟨_, rfl⟩
 rw [hq4] at HV H4
 clear hq4
 obtain ⟨q5, hq5⟩ : ∃ q, decide (c.fr ≤ c.to) = q := ⟨_, rfl⟩
 rw [hq5] at HV
 obtain ⟨q6, hq6⟩ : ∃ q, ok = q := ⟨_, rfl⟩
 rw [hq6] at HV H6
 clear hq6
 obtain ⟨q7, hq7⟩ : ∃ q, inB c.alg 1 4 = q := ⟨_, rfl⟩
 rw [hq7] at HV H7
 clear hq7
 obtain ⟨q8, hq8⟩ : ∃ q, exB c.x = q := ⟨_, rfl⟩
 rw [hq8] at HV H8
 clear hq8
 obtain ⟨q9, hq9⟩ : ∃ q, inB (c.ng : Int) 1 64 = q := ⟨_, rfl⟩
 rw [hq9] at HV H9
 clear hq9
 go_enter Tryz.func51, Tryz.ntmps51
 have c0 := (HB.out 0 _ rfl).1
 go_wp2_with fail
 refine (H0.out _ HX.out).mono ?_
 rintro e w0 ⟨rfl, hE0⟩
 replace HB := hide (Blk.ext HB.out hE0 (Blk.lt HB.out (by simp [ctL])))
 replace HX := hide (Ext.trans HX.out hE0)
 clear hE0 H0 c0
 cases q0
 ·go_wp2
  go_ret
  exact ⟨ret_bool (by rw [HV.out]; simp), Ext.trans HE.out HX.out⟩
 have c1 := (HB.out 1 _ rfl).1
 go_wp2_with fail
 refine (H1.out _ HX.out).mono ?_
 rintro e w1 ⟨rfl, hE1⟩
 replace HB := hide (Blk.ext HB.out hE1 (Blk.lt HB.out (by simp [ctL])))
 replace HX := hide (Ext.trans HX.out hE1)
 clear hE1 H1 c1
 cases q1
 ·go_wp2
  go_ret
  exact ⟨ret_bool (by rw [HV.out]; simp), Ext.trans HE.out HX.out⟩
 have c2 := (HB.out 2 _ rfl).1
 go_wp2_with fail
 refine (H2.out _ HX.out).mono ?_
 rintro e w2 ⟨rfl, hE2⟩
 replace HB := hide (Blk.ext HB.out hE2 (Blk.lt HB.out (by simp [ctL])))
 replace HX := hide (Ext.trans HX.out hE2)
 clear hE2 H2 c2
 cases q2
 ·go_wp2
  go_ret
  exact ⟨ret_bool (by rw [HV.out]; simp), Ext.trans HE.out HX.out⟩
 have c3 := (HB.out 3 _ rfl).1
 go_wp2_with fail
 refine (H3.out _ HX.out).mono ?_
 rintro e w3 ⟨rfl, hE3⟩
 replace HB := hide (Blk.ext HB.out hE3 (Blk.lt HB.out (by simp [ctL])))
 replace HX := hide (Ext.trans HX.out hE3)
 clear hE3 H3 c3
 cases q3
 ·go_wp2
  go_ret
  exact ⟨ret_bool (by rw [HV.out]; simp), Ext.trans HE.out HX.out⟩
 have c4 := (HB.out 4 _ rfl).1
 go_wp2_with fail
 refine (H4.out _ HX.out).mono ?_
 rintro e w4 ⟨rfl, hE4⟩
 replace HB := hide (Blk.ext HB.out hE4 (Blk.lt HB.out (by simp [ctL])))
 replace HX := hide (Ext.trans HX.out hE4)
 clear hE4 H4 c4
 cases q4
 ·clear hq5
  go_wp2
  go_ret
  exact ⟨ret_bool (by rw [HV.out]; simp), Ext.trans HE.out HX.out⟩
 have hld := run_ld (P := Tryz.prog) 51 (kyL c.k m.k) w4 (by kernel_rfl) (by kernel_rfl) w.heap.size 5 (Blk.ld HB.out 5 _ (fun j v h => sub_key c m j v h))
 have c3 := (HB.out 3 _ rfl).1
 have c4 := (HB.out 4 _ rfl).1
 cases q5
 ·go_wp2
  go_ret
  exact ⟨ret_bool (by rw [HV.out]; simp), Ext.trans HE.out HX.out⟩
 go_wp2_with (refine wpList_ld (by first | rfl | simp [Region.wanted, yielded]) 51 _ rfl _ rfl _ hld ?_)
 refine (H6.out _ HX.out).mono ?_
 rintro e w6 ⟨rfl, hE6⟩
 replace HB := hide (Blk.ext HB.out hE6 (Blk.lt HB.out (by simp [ctL])))
 replace HX := hide (Ext.trans HX.out hE6)
 clear hE6 H6 hld c3 c4 hq5
 cases q6
 ·go_wp2
  go_ret
  exact ⟨ret_bool (by rw [HV.out]; simp), Ext.trans HE.out HX.out⟩
 have c24 := (HB.out 24 _ rfl).1
 go_wp2_with fail
 refine (H7.out _ HX.out).mono ?_
 rintro e w7 ⟨rfl, hE7⟩
 replace HB := hide (Blk.ext HB.out hE7 (Blk.lt HB.out (by simp [ctL])))
 replace HX := hide (Ext.trans HX.out hE7)
 clear hE7 H7 c24
 cases q7
 ·go_wp2
  go_ret
  exact ⟨ret_bool (by rw [HV.out]; simp), Ext.trans HE.out HX.out⟩
 have hld := run_ld (P := Tryz.prog) 52 (exL c.x m.x) w7 (by kernel_rfl) (by kernel_rfl) w.heap.size 25 (Blk.ld HB.out 25 _ (fun j v h => sub_ex c m j v h))
 go_wp2_with (refine wpList_ld (by first | rfl | simp [Region.wanted, yielded]) 52 _ rfl _ rfl _ hld ?_)
 refine (H8.out _ HX.out).mono ?_
 rintro e w8 ⟨rfl, hE8⟩
 replace HB := hide (Blk.ext HB.out hE8 (Blk.lt HB.out (by simp [ctL])))
 replace HX := hide (Ext.trans HX.out hE8)
 clear hE8 H8 hld
 cases q8
 ·go_wp2
  go_ret
  exact ⟨ret_bool (by rw [HV.out]; simp), Ext.trans HE.out HX.out⟩
 have c33 := (HB.out 33 _ rfl).1
 go_wp2_with fail
 refine (H9.out _ HX.out).mono ?_
 rintro e w9 ⟨rfl, hE9⟩
 replace HB := hide (Blk.ext HB.out hE9 (Blk.lt HB.out (by simp [ctL])))
 replace HX := hide (Ext.trans HX.out hE9)
 clear hE9 H9 c33
 go_wp2
 go_ret
 exact ⟨ret_bool (by rw [HV.out]; simp), Ext.trans HE.out HX.out⟩
end
section
set_option maxRecDepth 100000
open Go.RowKit
set_option maxHeartbeats 3200000 in
theorem idxC_any (F : Nat) (cl : Value) (hF : ∀ (args : Array Value) (w : World), (callFunc F args).run Tryz.prog w = .ok (.enter F args) w) (r : Nat → Bool) (p : Plc) (n : Nat) (c : Nat → Ct) (m : Nat → CtPl) (w : World) (hs : CSeg w p n c m) (hn : n ≤ 1048576)
  (HC : Hid (∀ i, i < n → ∀ W, Ext w W → Calls Tryz.prog F #[.agg (ctL (c i) (m i)).toArray, cl] W fun e w' => e = .returned (.bool (r i)) ∧ Ext W w')) :
  Calls Tryz.prog 101 #[.slice p.ad n p.cap, .func (.func F) #[] #[cl]] w fun e w' => IdxQ (anyB r n) e ∧ Ext w w' := by
 obtain ⟨ad, b, off, cap⟩ := p
 dsimp only
 have Hs := hide hs
 obtain ⟨R, hR⟩ : ∃ R, R = anyB r n := ⟨_, rfl⟩
 rw [← hR]
 have HR := hide hR
 clear hs hR
 go_enter Tryz.func101, Tryz.ntmps101
 go_wp2
 go_loopw [8] (fun i wr => ∃ k : Nat, k ≤ n ∧ i = .int .i64 (k : Int) ∧ (∀ j, j < k → r j = false) ∧ Ext w wr) (fun i _ => n - (intOf i).toNat)
 case atStart => exact ⟨0, Nat.zero_le _, rfl, fun j hj => absurd hj (Nat.not_lt_zero _), Ext.refl _⟩
 case round =>
  obtain ⟨k, hk, rfl, hd, hE⟩ := hrel
  have HD := hide hd
  have HE := hide hE
  by_cases hlt : k < n
  ·have hat := Hs.out.at' (by omega)
   dsimp only at hat
   subst hat
   have hld := (Hs.out.ext hE).ld k hlt
   dsimp only at hld
   have hkn : (k : Int) < (n : Int) := by omega
   have HX := hide (HC.out k hlt _ hE)
   obtain ⟨q, hq⟩ : ∃ q, r k = q := ⟨_, rfl⟩
   rw [hq] at HX
   have Hq := hide hq
   clear hd hE hq
   generalize ctL (c k) (m k) = L at HX hld
   go_wp2_with (refine wpList_ld (by first | rfl | simp [Region.wanted, yielded]) 54 _ rfl _ rfl _ hld ?_)
   refine HX.out.mono ?_
   rintro e w1 ⟨rfl, hE1⟩
   have HE1 := hide hE1
   clear hE1 hld
   cases q
   ·go_wp2
    go_roundw
    case rel => exact ⟨k + 1, by omega, by go_num, fun j hj => by
           by_cases e : j = k
           ·subst e; exact Hq.out
           ·exact HD.out j (by omega), Ext.trans HE.out HE1.out⟩
    case measure => simp [intOf]; omega
   ·go_wp2
    go_ret
    exact ⟨⟨_, rfl, by rw [HR.out, anyB_yes hlt Hq.out]; exact decide_eq_true (Int.natCast_nonneg _)⟩, Ext.trans HE.out HE1.out⟩
  ·obtain rfl : k = n := by omega
   clear hd hE
   go_wp2
   go_ret
   exact ⟨⟨_, rfl, by rw [HR.out, anyB_no HD.out]; rfl⟩, HE.out⟩
set_option maxHeartbeats 800000 in
theorem conC_any (F : Nat) (cl : Value) (hF : ∀ (args : Array Value) (w : World), (callFunc F args).run Tryz.prog w = .ok (.enter F args) w) (r : Nat → Bool) (p : Plc) (n : Nat) (c : Nat → Ct) (m : Nat → CtPl) (w : World) (hs : CSeg w p n c m) (hn : n ≤ 1048576)
  (HC : Hid (∀ i, i < n → ∀ W, Ext w W → Calls Tryz.prog F #[.agg (ctL (c i) (m i)).toArray, cl] W fun e w' => e = .returned (.bool (r i)) ∧ Ext W w')) :
  Calls Tryz.prog 80 #[.slice p.ad n p.cap, .func (.func F) #[] #[cl]] w fun e w' => e = .returned (.bool (anyB r n)) ∧ Ext w w' := by
 have HX := hide (idxC_any F cl hF r p n c m w hs hn HC)
 clear hs HC hF
 obtain ⟨R, hR⟩ : ∃ R, anyB r n = R := ⟨_, rfl⟩
 rw [hR] at HX ⊢
 clear hR
 go_enter Tryz.func80, Tryz.ntmps80
 go_wp2_with fail
 refine HX.out.mono ?_
 rintro e w1 ⟨⟨z, rfl, hz⟩, hE1⟩
 have HE1 := hide hE1
 clear hE1
 have Hz := hide hz
 clear hz
 go_wp2
 go_ret
 exact ⟨ret_bool Hz.out, HE1.out⟩
set_option maxHeartbeats 1600000 in
theorem aokC1_any (G B : Nat) (hG : ∀ (args : Array Value) (w : World), (callFunc G args).run Tryz.prog w = .ok (.enter G args) w) (r : Bool) (c : Ct) (m : CtPl) (w : World) (hc : w.cell? ⟨B, 0, none⟩ = some (.func (.func G) #[] #[]))
  (HC : Hid (∀ W, Ext w W → Calls Tryz.prog G #[.agg (ctL c m).toArray] W fun e w' => e = .returned (.bool r) ∧ Ext W w')) :
  Calls Tryz.prog 79 #[.agg (ctL c m).toArray, .pointer (some ⟨B, 0, none⟩)] w fun e w' => e = .returned (.bool (!r)) ∧ Ext w w' := by
 obtain ⟨V, hV⟩ : ∃ V, w.alloc (.cells (ctL c m).toArray 54) = V := ⟨_, rfl⟩
 obtain ⟨B0, hE, -⟩ := box1 w (ctL c m) 54 (w1 := V) (by rw [← hV]; exact Ext.refl _)
 have HE := hide hE
 have hld := run_ld (P := Tryz.prog) 54 (ctL c m) V (by kernel_rfl) (by kernel_rfl) w.heap.size 0 (Blk.ld B0 0 _ (fun j v h => by rw [Nat.zero_add]; exact h))
 have hc2 : V.cell? ⟨B, 0, none⟩ = some (.func (.func G) #[] #[]) := (Below.cell hE (p := ⟨B, 0, none⟩) (World.block_lt_of_cell? _ _ hc)).trans hc
 have HX := hide (HC.out V hE)
 generalize ctL c m = L at *
 clear B0 hE hc HC
 go_enter Tryz.func79, Tryz.ntmps79
 go_wp2_with (refine wpList_ld (by first | rfl | simp [Region.wanted, yielded]) 54 _ rfl _ rfl _ hld ?_)
 refine HX.out.mono ?_
 rintro e w1 ⟨rfl, hE1⟩
 have HE1 := hide hE1
 clear hE1
 go_wp2
 go_ret
 exact ⟨rfl, Ext.trans HE.out HE1.out⟩
set_option maxHeartbeats 1600000 in
theorem aokC_any (G : Nat) (hG : ∀ (args : Array Value) (w : World), (callFunc G args).run Tryz.prog w = .ok (.enter G args) w) (r : Nat → Bool) (most : Nat) (p : Plc) (n : Nat) (c : Nat → Ct) (m : Nat → CtPl) (w : World) (hs : CSeg w p n c m) (hn : n ≤ 1048576) (hm : most ≤ 1048576)
  (HC : Hid (∀ i, i < n → ∀ W, Ext w W → Calls Tryz.prog G #[.agg (ctL (c i) (m i)).toArray] W fun e w' => e = .returned (.bool (r i)) ∧ Ext W w')) :
  Calls Tryz.prog 60 #[.slice p.ad n p.cap, .int .i64 (most : Int), .func (.func G) #[] #[]] w fun e w' => e = .returned (.bool (decide (n ≤ most) && allB r n)) ∧ Ext w w' := by
 obtain ⟨V, hV⟩ : ∃ V, w.alloc (.cells #[.func (.func G) #[] #[]] 92) = V := ⟨_, rfl⟩
 obtain ⟨B0, hE, hl⟩ := box1 w [.func (.func G) #[] #[]] 92 (w1 := V) (by rw [← hV]; exact Ext.refl _)
 have HB := hide B0
 have HE := hide hE
 have HX := hide (conC_any 79 (.pointer (some ⟨w.heap.size, 0, none⟩)) (fun _ _ => by kernel_rfl) (fun i => !r i) p n c m V (hs.ext hE) hn
  (hide fun i hi W hW => aokC1_any G w.heap.size hG (r i) (c i) (m i) W ((Blk.ext HB.out hW (by omega)) 0 _ rfl).1 (hide fun W2 hW2 => HC.out i hi W2 (Ext.trans hE (Ext.trans hW hW2)))))
 have HR : Hid (allB r n = !anyB (fun i => !r i) n) := rfl
 rw [HR.out]
 generalize anyB (fun i => !r i) n = R at HX ⊢
 clear B0 hE hs hl HR HC hG
 by_cases h : n ≤ most
 ·have h1 : (n : Int) ≤ (most : Int) := by omega
  rw [decide_eq_true h, Bool.true_and]
  clear h
  go_enter Tryz.func60, Tryz.ntmps60
  go_wp2_with fail
  refine HX.out.mono ?_
  rintro e w1 ⟨rfl, hE1⟩
  have HE1 := hide hE1
  clear hE1
  go_wp2
  go_ret
  exact ⟨rfl, Ext.trans HE.out HE1.out⟩
 ·have h1 : ¬ (n : Int) ≤ (most : Int) := by omega
  rw [decide_eq_false h, Bool.false_and]
  clear h
  go_enter Tryz.func60, Tryz.ntmps60
  go_wp2
  go_ret
  exact ⟨rfl, HE.out⟩
structure ChOk (n : Nat) (c : Nat → Ct) (ok : Nat → Bool) : Prop where
 n1 : n ≤ 1048576
 sm : ∀ i, i < n → CtSm (c i) 1048576
 ky : ∀ i, i < n → KyIn (c i).k
 ok : ∀ i, ok i = true ↔ KeyP (c i).k
end
end Go.Proofs.YtfhiiakoilkbkaaGreatDoor
