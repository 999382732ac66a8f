/- Keys: KeyOk of the model (written by mkkey.py). Keys: KeyOk of the model (written by mkkey.py). Keys: KeyOk of the model (written by mkkey.py). Keys: KeyOk of the model (written by mkkey.py). Walks: the laws' own helpers over twisted curves and pairs; the laws, where model and program answer alike. Keys: the laws' own helpers over keys; a key that came in, opened (written by mkkey.py). Keys: copied keys compared (written by mkkey.py). -/
import Derived.Test.YtnnandjphlajnaaGreatDoorKt33
import Derived.Test.YtnnandjphlajnaaGreatDoorKt02
import Derived.Test.YtnnandjphlajnaaGreatDoorKt17
import Derived.Test.YtnnandjphlajnaaGreatDoorRows
import Derived.WalkKit
import Derived.ProofKit
import Derived.OpenShut
import Derived.ChangeOld
import Derived.Below
import Derived.Test.YtnnandjphlajnaaGreatDoorKt31
namespace Go.Proofs.YtnnandjphlajnaaGreatDoor

section
set_option linter.unusedVariables false
set_option linter.unusedSimpArgs false

open Go.RowKit

theorem rs_all (n : Nat) (f : Nat → Int) (e : Int) : rsB n f e = (natOk n f && ((decide (128 ≤ bitsOf n f) && decide (bitsOf n f ≤ 512)) && (f 0 % 2 == 1 && ((decide (3 ≤ e) && decide (e ≤ 65537)) && e % 2 == 1)))) := by
  unfold rsB bitsQ
  cases natOk n f
  · rfl
  · simp only [if_true, Bool.and_assoc, Bool.true_and]

set_option maxHeartbeats 6400000 in
set_option maxRecDepth 100000 in
theorem specKey_one (k : Ky) (ad : Option Addr) (b off cap : Nat) (ok r1 r2 r3 r4 r5 r6 : Bool) (Bq z : Int) (w : World) (hs : Seg w ad b off k.n k.f) (g1 : (k.kind == 1) = true)
    (HNC : Hid (∀ w, Calls Tryz.prog 83 #[.agg #[.int .i64 k.kind, .slice ad k.n cap, .int .i64 k.e, .int .i64 k.cP, .int .i64 k.cA, .int .i64 k.cB, .int .i64 k.cN, .int .i64 k.cX, .int .i64 k.cY, .int .i64 k.q.x, .int .i64 k.q.y, .bool k.q.far, .int .i64 k.dP, .int .i64 k.dD, .int .i64 k.dL, .int .i64 k.dX, .int .i64 k.dY, .int .i64 k.a.x, .int .i64 k.a.y]] w fun e w' => e = .returned (.bool r1) ∧ Ext w w'))
    (HNE : Hid (∀ w, Calls Tryz.prog 84 #[.agg #[.int .i64 k.kind, .slice ad k.n cap, .int .i64 k.e, .int .i64 k.cP, .int .i64 k.cA, .int .i64 k.cB, .int .i64 k.cN, .int .i64 k.cX, .int .i64 k.cY, .int .i64 k.q.x, .int .i64 k.q.y, .bool k.q.far, .int .i64 k.dP, .int .i64 k.dD, .int .i64 k.dL, .int .i64 k.dX, .int .i64 k.dY, .int .i64 k.a.x, .int .i64 k.a.y]] w fun e w' => e = .returned (.bool r2) ∧ Ext w w'))
    (HNK : Hid (∀ W, Ext w W → Calls Tryz.prog 85 #[.slice ad k.n cap] W fun e w' => e = .returned (.bool r3) ∧ w' = W))
    (HBI : Hid (∀ W, r3 = true → Ext w W → Calls Tryz.prog 87 #[.slice ad k.n cap] W fun e w' => e = .returned (.int .i64 Bq) ∧ w' = W))
    (HI1 : Hid (∀ w, Calls Tryz.prog 86 #[.int .i64 Bq, .int .i64 128, .int .i64 512] w fun e w' => e = .returned (.bool r4) ∧ w' = w))
    (HI2 : Hid (∀ w, Calls Tryz.prog 86 #[.int .i64 k.e, .int .i64 3, .int .i64 65537] w fun e w' => e = .returned (.bool r6) ∧ w' = w))
    (Hz : Hid (r3 = true → r4 = true → 0 < k.n ∧ k.f 0 = z ∧ 0 ≤ z)) (h5 : (z % 2 == 1) = r5) (H6 : Hid (r6 = true → 3 ≤ k.e))
    (HO : Hid (ok = (r1 && (r2 && (r3 && (r4 && (r5 && (r6 && (k.e % 2 == 1))))))))) :
    Calls Tryz.prog 37 #[.agg #[.int .i64 k.kind, .slice ad k.n cap, .int .i64 k.e, .int .i64 k.cP, .int .i64 k.cA, .int .i64 k.cB, .int .i64 k.cN, .int .i64 k.cX, .int .i64 k.cY, .int .i64 k.q.x, .int .i64 k.q.y, .bool k.q.far, .int .i64 k.dP, .int .i64 k.dD, .int .i64 k.dL, .int .i64 k.dX, .int .i64 k.dY, .int .i64 k.a.x, .int .i64 k.a.y]] w fun r w' => r = .returned (.bool ok) ∧ Ext w w' := by
  obtain ⟨V, hV⟩ : ∃ V, w.alloc (.cells #[.int .i64 k.kind, .slice ad k.n cap, .int .i64 k.e, .int .i64 k.cP, .int .i64 k.cA, .int .i64 k.cB, .int .i64 k.cN, .int .i64 k.cX, .int .i64 k.cY, .int .i64 k.q.x, .int .i64 k.q.y, .bool k.q.far, .int .i64 k.dP, .int .i64 k.dD, .int .i64 k.dL, .int .i64 k.dX, .int .i64 k.dY, .int .i64 k.a.x, .int .i64 k.a.y] 42) = V := ⟨_, rfl⟩
  obtain ⟨B0, hE, -⟩ := box1 w [.int .i64 k.kind, .slice ad k.n cap, .int .i64 k.e, .int .i64 k.cP, .int .i64 k.cA, .int .i64 k.cB, .int .i64 k.cN, .int .i64 k.cX, .int .i64 k.cY, .int .i64 k.q.x, .int .i64 k.q.y, .bool k.q.far, .int .i64 k.dP, .int .i64 k.dD, .int .i64 k.dL, .int .i64 k.dX, .int .i64 k.dY, .int .i64 k.a.x, .int .i64 k.a.y] 42 (w1 := V) (by rw [← hV]; exact Ext.refl _)
  have c0 := (B0 0 _ rfl).1
  have c1 := (B0 1 _ rfl).1
  have c2 := (B0 2 _ rfl).1
  have HBk := hide B0
  have HE := hide hE
  have HS := hide (hs.of_all hE)
  have HV : Hid (Ext V V) := Ext.refl _
  clear B0 hE hs
  go_enter Tryz.func37, Tryz.ntmps37
  have hld := run_loadKey [.int .i64 k.kind, .slice ad k.n cap, .int .i64 k.e, .int .i64 k.cP, .int .i64 k.cA, .int .i64 k.cB, .int .i64 k.cN, .int .i64 k.cX, .int .i64 k.cY, .int .i64 k.q.x, .int .i64 k.q.y, .bool k.q.far, .int .i64 k.dP, .int .i64 k.dD, .int .i64 k.dL, .int .i64 k.dX, .int .i64 k.dY, .int .i64 k.a.x, .int .i64 k.a.y] rfl w.heap.size _ (fun j v h => (HBk.out j v h).1)
  go_wp2_with (refine wpList_load_on (by first | rfl | simp [Region.wanted, yielded]) 42 _ rfl _ rfl _ hld ?_)
  clear hld
  refine (HNC.out _).mono ?_
  rintro e W ⟨rfl, hEW⟩
  replace HV := hide (Ext.trans HV.out hEW)
  replace HBk := hide (Blk.ext HBk.out hEW (World.block_lt_of_cell? _ _ (HBk.out 0 _ rfl).1))
  replace c1 := (HBk.out 1 _ rfl).1
  replace c2 := (HBk.out 2 _ rfl).1
  clear hEW
  cases r1
  · skip
    go_wp2
    go_ret
    exact ⟨ret_bool (by rw [HO.out]; simp), Ext.trans HE.out HV.out⟩
  · skip
    have hld := run_loadKey [.int .i64 k.kind, .slice ad k.n cap, .int .i64 k.e, .int .i64 k.cP, .int .i64 k.cA, .int .i64 k.cB, .int .i64 k.cN, .int .i64 k.cX, .int .i64 k.cY, .int .i64 k.q.x, .int .i64 k.q.y, .bool k.q.far, .int .i64 k.dP, .int .i64 k.dD, .int .i64 k.dL, .int .i64 k.dX, .int .i64 k.dY, .int .i64 k.a.x, .int .i64 k.a.y] rfl w.heap.size _ (fun j v h => (HBk.out j v h).1)
    go_wp2_with (refine wpList_load_on (by first | rfl | simp [Region.wanted, yielded]) 42 _ rfl _ rfl _ hld ?_)
    clear hld
    refine (HNE.out _).mono ?_
    rintro e W ⟨rfl, hEW⟩
    replace HV := hide (Ext.trans HV.out hEW)
    replace HBk := hide (Blk.ext HBk.out hEW (World.block_lt_of_cell? _ _ (HBk.out 0 _ rfl).1))
    replace c1 := (HBk.out 1 _ rfl).1
    replace c2 := (HBk.out 2 _ rfl).1
    clear hEW
    cases r2
    · skip
      go_wp2
      go_ret
      exact ⟨ret_bool (by rw [HO.out]; simp), Ext.trans HE.out HV.out⟩
    · clear HBk
      go_wp2_with fail
      refine (HNK.out _ (Ext.trans HE.out HV.out)).mono ?_
      rintro e W ⟨rfl, hw⟩
      obtain rfl := hw.symm
      cases r3
      · skip
        go_wp2
        go_ret
        exact ⟨ret_bool (by rw [HO.out]; simp), Ext.trans HE.out HV.out⟩
      · skip
        go_wp2_with fail
        refine (HBI.out _ trivial (Ext.trans HE.out HV.out)).mono ?_
        rintro e W ⟨rfl, hw⟩
        obtain rfl := hw.symm
        go_wp2_with fail
        refine (HI1.out _).mono ?_
        rintro e W ⟨rfl, hw⟩
        obtain rfl := hw.symm
        cases r4
        · skip
          go_wp2
          go_ret
          exact ⟨ret_bool (by rw [HO.out]; simp), Ext.trans HE.out HV.out⟩
        · obtain ⟨n0, hz, z0⟩ := Hz.out (by simp) (by simp)
          have cz := (HS.out.of_all HV.out).cell 0 n0
          obtain rfl := HS.out.at' n0
          rw [hz] at cz
          simp only [Nat.add_zero] at cz
          have hn0 : (0 : Int) < (k.n : Int) := by omega
          have m1 : Int.tmod z 2 = z % 2 := by rw [Int.tmod_eq_emod_of_nonneg z0]
          clear Hz hz
          cases r5
          · skip
            go_wp2
            go_ret
            exact ⟨ret_bool (by rw [HO.out]; simp), Ext.trans HE.out HV.out⟩
          · skip
            go_wp2_with fail
            refine (HI2.out _).mono ?_
            rintro e W ⟨rfl, hw⟩
            obtain rfl := hw.symm
            cases r6
            · skip
              go_wp2
              go_ret
              exact ⟨ret_bool (by rw [HO.out]; simp), Ext.trans HE.out HV.out⟩
            · have e3 := H6.out (by simp)
              have m2 : Int.tmod k.e 2 = k.e % 2 := by rw [Int.tmod_eq_emod_of_nonneg (by omega)]
              go_wp2
              go_ret
              exact ⟨ret_bool (by rw [HO.out]; simp), Ext.trans HE.out HV.out⟩
end

section
set_option linter.unusedVariables false
set_option linter.unusedSimpArgs false

open Go.RowKit

set_option maxHeartbeats 6400000 in
set_option maxRecDepth 100000 in
theorem specKey_two (k : Ky) (ad : Option Addr) (b off cap : Nat) (ok r1 r2 r4 : Bool) (M : Pt) (w : World) (hs : Seg w ad b off k.n k.f) (g1 : (k.kind == 1) = false) (g2 : (k.kind == 2) = true)
    (HNR : Hid (∀ w, Calls Tryz.prog 88 #[.agg #[.int .i64 k.kind, .slice ad k.n cap, .int .i64 k.e, .int .i64 k.cP, .int .i64 k.cA, .int .i64 k.cB, .int .i64 k.cN, .int .i64 k.cX, .int .i64 k.cY, .int .i64 k.q.x, .int .i64 k.q.y, .bool k.q.far, .int .i64 k.dP, .int .i64 k.dD, .int .i64 k.dL, .int .i64 k.dX, .int .i64 k.dY, .int .i64 k.a.x, .int .i64 k.a.y]] w fun e w' => e = .returned (.bool r1) ∧ Ext w w'))
    (HNE : Hid (∀ w, Calls Tryz.prog 84 #[.agg #[.int .i64 k.kind, .slice ad k.n cap, .int .i64 k.e, .int .i64 k.cP, .int .i64 k.cA, .int .i64 k.cB, .int .i64 k.cN, .int .i64 k.cX, .int .i64 k.cY, .int .i64 k.q.x, .int .i64 k.q.y, .bool k.q.far, .int .i64 k.dP, .int .i64 k.dD, .int .i64 k.dL, .int .i64 k.dX, .int .i64 k.dY, .int .i64 k.a.x, .int .i64 k.a.y]] w fun e w' => e = .returned (.bool r2) ∧ Ext w w'))
    (HPO : Hid (∀ W, Calls Tryz.prog 89 #[.agg #[.int .i64 k.cP, .int .i64 k.cA, .int .i64 k.cB, .int .i64 k.cN, .int .i64 k.cX, .int .i64 k.cY], .agg #[.int .i64 k.q.x, .int .i64 k.q.y, .bool k.q.far]] W fun e w' => e = .returned (.bool r4) ∧ Ext W w'))
    (HMU : Hid (r4 = true → ∀ W, Calls Tryz.prog 90 #[.agg #[.int .i64 k.cP, .int .i64 k.cA, .int .i64 k.cB, .int .i64 k.cN, .int .i64 k.cX, .int .i64 k.cY], .int .i64 k.cN, .agg #[.int .i64 k.q.x, .int .i64 k.q.y, .bool k.q.far]] W fun r w' => r = .returned (.agg #[.int .i64 M.x, .int .i64 M.y, .bool M.far]) ∧ Ext W w'))
    (HO : Hid (ok = (r1 && (r2 && (r4 && (!k.q.far && M.far)))))) :
    Calls Tryz.prog 37 #[.agg #[.int .i64 k.kind, .slice ad k.n cap, .int .i64 k.e, .int .i64 k.cP, .int .i64 k.cA, .int .i64 k.cB, .int .i64 k.cN, .int .i64 k.cX, .int .i64 k.cY, .int .i64 k.q.x, .int .i64 k.q.y, .bool k.q.far, .int .i64 k.dP, .int .i64 k.dD, .int .i64 k.dL, .int .i64 k.dX, .int .i64 k.dY, .int .i64 k.a.x, .int .i64 k.a.y]] w fun r w' => r = .returned (.bool ok) ∧ Ext w w' := by
  obtain ⟨V, hV⟩ : ∃ V, w.alloc (.cells #[.int .i64 k.kind, .slice ad k.n cap, .int .i64 k.e, .int .i64 k.cP, .int .i64 k.cA, .int .i64 k.cB, .int .i64 k.cN, .int .i64 k.cX, .int .i64 k.cY, .int .i64 k.q.x, .int .i64 k.q.y, .bool k.q.far, .int .i64 k.dP, .int .i64 k.dD, .int .i64 k.dL, .int .i64 k.dX, .int .i64 k.dY, .int .i64 k.a.x, .int .i64 k.a.y] 42) = V := ⟨_, rfl⟩
  obtain ⟨B0, hE, -⟩ := box1 w [.int .i64 k.kind, .slice ad k.n cap, .int .i64 k.e, .int .i64 k.cP, .int .i64 k.cA, .int .i64 k.cB, .int .i64 k.cN, .int .i64 k.cX, .int .i64 k.cY, .int .i64 k.q.x, .int .i64 k.q.y, .bool k.q.far, .int .i64 k.dP, .int .i64 k.dD, .int .i64 k.dL, .int .i64 k.dX, .int .i64 k.dY, .int .i64 k.a.x, .int .i64 k.a.y] 42 (w1 := V) (by rw [← hV]; exact Ext.refl _)
  have c0 := (B0 0 _ rfl).1
  have c3 := (B0 3 _ rfl).1
  have c4 := (B0 4 _ rfl).1
  have c5 := (B0 5 _ rfl).1
  have c6 := (B0 6 _ rfl).1
  have c7 := (B0 7 _ rfl).1
  have c8 := (B0 8 _ rfl).1
  have c9 := (B0 9 _ rfl).1
  have c10 := (B0 10 _ rfl).1
  have c11 := (B0 11 _ rfl).1
  have HBk := hide B0
  have HE := hide hE
  have HS := hide (hs.of_all hE)
  have HV : Hid (Ext V V) := Ext.refl _
  clear B0 hE hs
  go_enter Tryz.func37, Tryz.ntmps37
  have hld := run_loadKey [.int .i64 k.kind, .slice ad k.n cap, .int .i64 k.e, .int .i64 k.cP, .int .i64 k.cA, .int .i64 k.cB, .int .i64 k.cN, .int .i64 k.cX, .int .i64 k.cY, .int .i64 k.q.x, .int .i64 k.q.y, .bool k.q.far, .int .i64 k.dP, .int .i64 k.dD, .int .i64 k.dL, .int .i64 k.dX, .int .i64 k.dY, .int .i64 k.a.x, .int .i64 k.a.y] rfl w.heap.size _ (fun j v h => (HBk.out j v h).1)
  go_wp2_with (refine wpList_load_on (by first | rfl | simp [Region.wanted, yielded]) 42 _ rfl _ rfl _ hld ?_)
  clear hld
  refine (HNR.out _).mono ?_
  rintro e W ⟨rfl, hEW⟩
  replace HV := hide (Ext.trans HV.out hEW)
  replace HBk := hide (Blk.ext HBk.out hEW (World.block_lt_of_cell? _ _ (HBk.out 0 _ rfl).1))
  replace c3 := (HBk.out 3 _ rfl).1
  replace c4 := (HBk.out 4 _ rfl).1
  replace c5 := (HBk.out 5 _ rfl).1
  replace c6 := (HBk.out 6 _ rfl).1
  replace c7 := (HBk.out 7 _ rfl).1
  replace c8 := (HBk.out 8 _ rfl).1
  replace c9 := (HBk.out 9 _ rfl).1
  replace c10 := (HBk.out 10 _ rfl).1
  replace c11 := (HBk.out 11 _ rfl).1
  clear hEW
  cases r1
  · skip
    go_wp2
    go_ret
    exact ⟨ret_bool (by rw [HO.out]; simp), Ext.trans HE.out HV.out⟩
  · skip
    have hld := run_loadKey [.int .i64 k.kind, .slice ad k.n cap, .int .i64 k.e, .int .i64 k.cP, .int .i64 k.cA, .int .i64 k.cB, .int .i64 k.cN, .int .i64 k.cX, .int .i64 k.cY, .int .i64 k.q.x, .int .i64 k.q.y, .bool k.q.far, .int .i64 k.dP, .int .i64 k.dD, .int .i64 k.dL, .int .i64 k.dX, .int .i64 k.dY, .int .i64 k.a.x, .int .i64 k.a.y] rfl w.heap.size _ (fun j v h => (HBk.out j v h).1)
    go_wp2_with (refine wpList_load_on (by first | rfl | simp [Region.wanted, yielded]) 42 _ rfl _ rfl _ hld ?_)
    clear hld
    refine (HNE.out _).mono ?_
    rintro e W ⟨rfl, hEW⟩
    replace HV := hide (Ext.trans HV.out hEW)
    replace HBk := hide (Blk.ext HBk.out hEW (World.block_lt_of_cell? _ _ (HBk.out 0 _ rfl).1))
    replace c3 := (HBk.out 3 _ rfl).1
    replace c4 := (HBk.out 4 _ rfl).1
    replace c5 := (HBk.out 5 _ rfl).1
    replace c6 := (HBk.out 6 _ rfl).1
    replace c7 := (HBk.out 7 _ rfl).1
    replace c8 := (HBk.out 8 _ rfl).1
    replace c9 := (HBk.out 9 _ rfl).1
    replace c10 := (HBk.out 10 _ rfl).1
    replace c11 := (HBk.out 11 _ rfl).1
    clear hEW
    cases r2
    · skip
      go_wp2
      go_ret
      exact ⟨ret_bool (by rw [HO.out]; simp), Ext.trans HE.out HV.out⟩
    · skip
      go_wp2_with fail
      refine (HPO.out _).mono ?_
      rintro e W ⟨rfl, hEW⟩
      replace HV := hide (Ext.trans HV.out hEW)
      replace HBk := hide (Blk.ext HBk.out hEW (World.block_lt_of_cell? _ _ (HBk.out 0 _ rfl).1))
      replace c3 := (HBk.out 3 _ rfl).1
      replace c4 := (HBk.out 4 _ rfl).1
      replace c5 := (HBk.out 5 _ rfl).1
      replace c6 := (HBk.out 6 _ rfl).1
      replace c7 := (HBk.out 7 _ rfl).1
      replace c8 := (HBk.out 8 _ rfl).1
      replace c9 := (HBk.out 9 _ rfl).1
      replace c10 := (HBk.out 10 _ rfl).1
      replace c11 := (HBk.out 11 _ rfl).1
      clear hEW
      cases r4
      · skip
        go_wp2
        go_ret
        exact ⟨ret_bool (by rw [HO.out]; simp), Ext.trans HE.out HV.out⟩
      · clear HBk
        obtain ⟨qf, hqf⟩ : ∃ qf, k.q.far = qf := ⟨_, rfl⟩
        rw [hqf] at HO
        cases qf
        · have hM := HMU.out (by simp)
          rw [hqf] at hM
          have HM := hide hM
          clear hM
          go_wp2_with fail
          refine (HM.out _).mono ?_
          rintro e W ⟨rfl, hEW⟩
          replace HV := hide (Ext.trans HV.out hEW)
          clear hEW
          have hfd : ∀ w : World, (Instr.field 38 (.agg #[.int .i64 M.x, .int .i64 M.y, .bool M.far]) 2).run Tryz.prog w = .ok (.bool M.far) w := fun _ => by kernel_rfl
          go_wp2
          go_ret
          exact ⟨ret_bool (by rw [HO.out]; simp), Ext.trans HE.out HV.out⟩
        · skip
          go_wp2
          go_ret
          exact ⟨ret_bool (by rw [HO.out]; simp), Ext.trans HE.out HV.out⟩
end

section
set_option linter.unusedVariables false
set_option linter.unusedSimpArgs false

open Go.RowKit

set_option maxHeartbeats 6400000 in
set_option maxRecDepth 100000 in
theorem specKey_three (k : Ky) (ad : Option Addr) (b off cap : Nat) (ok r1 r2 r3 : Bool) (w : World) (hs : Seg w ad b off k.n k.f) (g1 : (k.kind == 1) = false) (g2 : (k.kind == 2) = false) (g3 : (k.kind == 3) = true)
    (HNR : Hid (∀ w, Calls Tryz.prog 88 #[.agg #[.int .i64 k.kind, .slice ad k.n cap, .int .i64 k.e, .int .i64 k.cP, .int .i64 k.cA, .int .i64 k.cB, .int .i64 k.cN, .int .i64 k.cX, .int .i64 k.cY, .int .i64 k.q.x, .int .i64 k.q.y, .bool k.q.far, .int .i64 k.dP, .int .i64 k.dD, .int .i64 k.dL, .int .i64 k.dX, .int .i64 k.dY, .int .i64 k.a.x, .int .i64 k.a.y]] w fun e w' => e = .returned (.bool r1) ∧ Ext w w'))
    (HNC : Hid (∀ w, Calls Tryz.prog 83 #[.agg #[.int .i64 k.kind, .slice ad k.n cap, .int .i64 k.e, .int .i64 k.cP, .int .i64 k.cA, .int .i64 k.cB, .int .i64 k.cN, .int .i64 k.cX, .int .i64 k.cY, .int .i64 k.q.x, .int .i64 k.q.y, .bool k.q.far, .int .i64 k.dP, .int .i64 k.dD, .int .i64 k.dL, .int .i64 k.dX, .int .i64 k.dY, .int .i64 k.a.x, .int .i64 k.a.y]] w fun e w' => e = .returned (.bool r2) ∧ Ext w w'))
    (HPA : Hid (∀ W, Calls Tryz.prog 91 #[.agg #[.int .i64 k.dP, .int .i64 k.dD, .int .i64 k.dL, .int .i64 k.dX, .int .i64 k.dY], .agg #[.int .i64 k.a.x, .int .i64 k.a.y]] W fun e w' => e = .returned (.bool r3) ∧ Ext W w'))
    (HO : Hid (ok = (r1 && (r2 && r3)))) :
    Calls Tryz.prog 37 #[.agg #[.int .i64 k.kind, .slice ad k.n cap, .int .i64 k.e, .int .i64 k.cP, .int .i64 k.cA, .int .i64 k.cB, .int .i64 k.cN, .int .i64 k.cX, .int .i64 k.cY, .int .i64 k.q.x, .int .i64 k.q.y, .bool k.q.far, .int .i64 k.dP, .int .i64 k.dD, .int .i64 k.dL, .int .i64 k.dX, .int .i64 k.dY, .int .i64 k.a.x, .int .i64 k.a.y]] w fun r w' => r = .returned (.bool ok) ∧ Ext w w' := by
  obtain ⟨V, hV⟩ : ∃ V, w.alloc (.cells #[.int .i64 k.kind, .slice ad k.n cap, .int .i64 k.e, .int .i64 k.cP, .int .i64 k.cA, .int .i64 k.cB, .int .i64 k.cN, .int .i64 k.cX, .int .i64 k.cY, .int .i64 k.q.x, .int .i64 k.q.y, .bool k.q.far, .int .i64 k.dP, .int .i64 k.dD, .int .i64 k.dL, .int .i64 k.dX, .int .i64 k.dY, .int .i64 k.a.x, .int .i64 k.a.y] 42) = V := ⟨_, rfl⟩
  obtain ⟨B0, hE, -⟩ := box1 w [.int .i64 k.kind, .slice ad k.n cap, .int .i64 k.e, .int .i64 k.cP, .int .i64 k.cA, .int .i64 k.cB, .int .i64 k.cN, .int .i64 k.cX, .int .i64 k.cY, .int .i64 k.q.x, .int .i64 k.q.y, .bool k.q.far, .int .i64 k.dP, .int .i64 k.dD, .int .i64 k.dL, .int .i64 k.dX, .int .i64 k.dY, .int .i64 k.a.x, .int .i64 k.a.y] 42 (w1 := V) (by rw [← hV]; exact Ext.refl _)
  have c0 := (B0 0 _ rfl).1
  have c12 := (B0 12 _ rfl).1
  have c13 := (B0 13 _ rfl).1
  have c14 := (B0 14 _ rfl).1
  have c15 := (B0 15 _ rfl).1
  have c16 := (B0 16 _ rfl).1
  have c17 := (B0 17 _ rfl).1
  have c18 := (B0 18 _ rfl).1
  have HBk := hide B0
  have HE := hide hE
  have HS := hide (hs.of_all hE)
  have HV : Hid (Ext V V) := Ext.refl _
  clear B0 hE hs
  go_enter Tryz.func37, Tryz.ntmps37
  have hld := run_loadKey [.int .i64 k.kind, .slice ad k.n cap, .int .i64 k.e, .int .i64 k.cP, .int .i64 k.cA, .int .i64 k.cB, .int .i64 k.cN, .int .i64 k.cX, .int .i64 k.cY, .int .i64 k.q.x, .int .i64 k.q.y, .bool k.q.far, .int .i64 k.dP, .int .i64 k.dD, .int .i64 k.dL, .int .i64 k.dX, .int .i64 k.dY, .int .i64 k.a.x, .int .i64 k.a.y] rfl w.heap.size _ (fun j v h => (HBk.out j v h).1)
  go_wp2_with (refine wpList_load_on (by first | rfl | simp [Region.wanted, yielded]) 42 _ rfl _ rfl _ hld ?_)
  clear hld
  refine (HNR.out _).mono ?_
  rintro e W ⟨rfl, hEW⟩
  replace HV := hide (Ext.trans HV.out hEW)
  replace HBk := hide (Blk.ext HBk.out hEW (World.block_lt_of_cell? _ _ (HBk.out 0 _ rfl).1))
  replace c12 := (HBk.out 12 _ rfl).1
  replace c13 := (HBk.out 13 _ rfl).1
  replace c14 := (HBk.out 14 _ rfl).1
  replace c15 := (HBk.out 15 _ rfl).1
  replace c16 := (HBk.out 16 _ rfl).1
  replace c17 := (HBk.out 17 _ rfl).1
  replace c18 := (HBk.out 18 _ rfl).1
  clear hEW
  cases r1
  · skip
    go_wp2
    go_ret
    exact ⟨ret_bool (by rw [HO.out]; simp), Ext.trans HE.out HV.out⟩
  · skip
    have hld := run_loadKey [.int .i64 k.kind, .slice ad k.n cap, .int .i64 k.e, .int .i64 k.cP, .int .i64 k.cA, .int .i64 k.cB, .int .i64 k.cN, .int .i64 k.cX, .int .i64 k.cY, .int .i64 k.q.x, .int .i64 k.q.y, .bool k.q.far, .int .i64 k.dP, .int .i64 k.dD, .int .i64 k.dL, .int .i64 k.dX, .int .i64 k.dY, .int .i64 k.a.x, .int .i64 k.a.y] rfl w.heap.size _ (fun j v h => (HBk.out j v h).1)
    go_wp2_with (refine wpList_load_on (by first | rfl | simp [Region.wanted, yielded]) 42 _ rfl _ rfl _ hld ?_)
    clear hld
    refine (HNC.out _).mono ?_
    rintro e W ⟨rfl, hEW⟩
    replace HV := hide (Ext.trans HV.out hEW)
    replace HBk := hide (Blk.ext HBk.out hEW (World.block_lt_of_cell? _ _ (HBk.out 0 _ rfl).1))
    replace c12 := (HBk.out 12 _ rfl).1
    replace c13 := (HBk.out 13 _ rfl).1
    replace c14 := (HBk.out 14 _ rfl).1
    replace c15 := (HBk.out 15 _ rfl).1
    replace c16 := (HBk.out 16 _ rfl).1
    replace c17 := (HBk.out 17 _ rfl).1
    replace c18 := (HBk.out 18 _ rfl).1
    clear hEW
    cases r2
    · skip
      go_wp2
      go_ret
      exact ⟨ret_bool (by rw [HO.out]; simp), Ext.trans HE.out HV.out⟩
    · skip
      go_wp2_with fail
      refine (HPA.out _).mono ?_
      rintro e W ⟨rfl, hEW⟩
      replace HV := hide (Ext.trans HV.out hEW)
      replace HBk := hide (Blk.ext HBk.out hEW (World.block_lt_of_cell? _ _ (HBk.out 0 _ rfl).1))
      clear hEW
      go_wp2
      go_ret
      exact ⟨ret_bool (by rw [HO.out]; simp), Ext.trans HE.out HV.out⟩

set_option maxHeartbeats 3200000 in
set_option maxRecDepth 100000 in
theorem specKey_none (k : Ky) (ad : Option Addr) (b off cap : Nat) (w : World) (hs : Seg w ad b off k.n k.f) (g1 : (k.kind == 1) = false) (g2 : (k.kind == 2) = false) (g3 : (k.kind == 3) = false) :
    Calls Tryz.prog 37 #[.agg #[.int .i64 k.kind, .slice ad k.n cap, .int .i64 k.e, .int .i64 k.cP, .int .i64 k.cA, .int .i64 k.cB, .int .i64 k.cN, .int .i64 k.cX, .int .i64 k.cY, .int .i64 k.q.x, .int .i64 k.q.y, .bool k.q.far, .int .i64 k.dP, .int .i64 k.dD, .int .i64 k.dL, .int .i64 k.dX, .int .i64 k.dY, .int .i64 k.a.x, .int .i64 k.a.y]] w fun r w' => r = .returned (.bool false) ∧ Ext w w' := by
  obtain ⟨V, hV⟩ : ∃ V, w.alloc (.cells #[.int .i64 k.kind, .slice ad k.n cap, .int .i64 k.e, .int .i64 k.cP, .int .i64 k.cA, .int .i64 k.cB, .int .i64 k.cN, .int .i64 k.cX, .int .i64 k.cY, .int .i64 k.q.x, .int .i64 k.q.y, .bool k.q.far, .int .i64 k.dP, .int .i64 k.dD, .int .i64 k.dL, .int .i64 k.dX, .int .i64 k.dY, .int .i64 k.a.x, .int .i64 k.a.y] 42) = V := ⟨_, rfl⟩
  obtain ⟨B0, hE, -⟩ := box1 w [.int .i64 k.kind, .slice ad k.n cap, .int .i64 k.e, .int .i64 k.cP, .int .i64 k.cA, .int .i64 k.cB, .int .i64 k.cN, .int .i64 k.cX, .int .i64 k.cY, .int .i64 k.q.x, .int .i64 k.q.y, .bool k.q.far, .int .i64 k.dP, .int .i64 k.dD, .int .i64 k.dL, .int .i64 k.dX, .int .i64 k.dY, .int .i64 k.a.x, .int .i64 k.a.y] 42 (w1 := V) (by rw [← hV]; exact Ext.refl _)
  have c0 := (B0 0 _ rfl).1
  have HBk := hide B0
  have HE := hide hE
  have HS := hide (hs.of_all hE)
  have HV : Hid (Ext V V) := Ext.refl _
  clear B0 hE hs
  clear HBk HS
  go_enter Tryz.func37, Tryz.ntmps37
  go_wp2
  go_ret
  exact ⟨rfl, HE.out⟩
end

section
set_option linter.unusedVariables false
set_option linter.unusedSimpArgs false

open Go.RowKit

theorem specKeyOk_at (k : Ky) (ad : Option Addr) (b off cap : Nat) (ok : Bool) (hk : ok = true ↔ KeyP k) (w : World) (hs : Seg w ad b off k.n k.f) (hI : KyIn k) :
    Calls Tryz.prog 37 #[.agg #[.int .i64 k.kind, .slice ad k.n cap, .int .i64 k.e, .int .i64 k.cP, .int .i64 k.cA, .int .i64 k.cB, .int .i64 k.cN, .int .i64 k.cX, .int .i64 k.cY, .int .i64 k.q.x, .int .i64 k.q.y, .bool k.q.far, .int .i64 k.dP, .int .i64 k.dD, .int .i64 k.dL, .int .i64 k.dX, .int .i64 k.dY, .int .i64 k.a.x, .int .i64 k.a.y]] w fun r w' => r = .returned (.bool ok) ∧ Ext w w' := by
  by_cases h1 : k.kind = 1
  · have hO := key1 hk h1
    rw [rs_all] at hO
    refine specKey_one k ad b off cap ok (ncB k) (neB k) (natOk k.n k.f) (decide (128 ≤ bitsOf k.n k.f) && decide (bitsOf k.n k.f ≤ 512)) (k.f 0 % 2 == 1) (decide (3 ≤ k.e) && decide (k.e ≤ 65537)) (bitsOf k.n k.f) (k.f 0) w hs (by simp [h1]) (hide fun w => noCurve_any k ad cap w) (hide fun w => noEd_any k ad cap w)
      (hide fun W h => specNatOk_any ad b off k.n cap k.f W (hs.of_all h) hI.n) (hide fun W h3 h => l1Bits_any ad b off k.n cap k.f W (hs.of_all h) hI.n ?_) (hide fun w => l1In_any _ _ _ w) (hide fun w => l1In_any _ _ _ w) (hide fun h3 h4 => ?_) rfl (hide fun h => by simp at h; exact h.1) (hide ?_)
    · by_cases e : k.n = 0
      · exact .inl e
      · exact .inr (((natOk_iff _ _).1 h3).1 (k.n - 1) (by omega))
    · have h0 : 0 < k.n := by
        rcases Nat.eq_zero_or_pos k.n with e | e
        · rw [e] at h4; simp [bitsOf] at h4
        · exact e
      exact ⟨h0, rfl, (((natOk_iff _ _).1 h3).1 0 h0).1⟩
    · rw [hO]
      generalize natOk k.n k.f = a1
      generalize (decide (128 ≤ bitsOf k.n k.f) && decide (bitsOf k.n k.f ≤ 512)) = a2
      generalize (k.f 0 % 2 == 1) = a3
      generalize (decide (3 ≤ k.e) && decide (k.e ≤ 65537)) = a4
      generalize (k.e % 2 == 1) = a5
      generalize ncB k = a6
      generalize neB k = a7
      revert a1 a2 a3 a4 a5 a6 a7
      decide
  by_cases h2 : k.kind = 2
  · obtain ⟨r3, h3⟩ := tell (CkOk k)
    have hO := key2 hk h3 h2
    obtain ⟨r4, h4⟩ := tell (CvOk k.cP k.cA k.cB k.cN k.cX k.cY ∧ On k.cP.toNat k.cA k.cB k.q)
    refine specKey_two k ad b off cap ok (nrB k) (neB k) r4 (mulF k.cP.toNat k.cA k.cN.toNat k.q) w hs (by simp [h2]) (by simp [h2]) (hide fun w => noRsa_any k ad cap w) (hide fun w => noEd_any k ad cap w)
      (hide fun W => (specPointOk_any k.cP k.cA k.cB k.cN k.cX k.cY k.q W hI.p hI.c).mono fun r w' ⟨⟨b, e, hb⟩, h⟩ => ⟨by rw [e, show b = r4 from Bool.eq_iff_iff.2 (hb.trans h4.symm)], h⟩) (hide fun hr W => ?_) (hide ?_)
    · have hc := h4.1 hr
      have p5 := hc.1.p5
      have n5 := hc.1.n5
      have := l3Mul_any k.cP.toNat k.cA k.cB k.cN k.cX k.cY k.cN.toNat k.q W hc.1.pp (by omega) (by have := hc.1.pM; omega) (by have := hc.1.a0; omega) (by have := hc.1.a1; have := hc.1.pM; omega) (on_inR (by omega) hc.2) (by have := hc.1.nM; omega)
      rw [Int.toNat_of_nonneg (by omega), Int.toNat_of_nonneg (by omega)] at this
      exact this
    · rw [hO]
      have : r3 = (r4 && (!k.q.far && (mulF k.cP.toNat k.cA k.cN.toNat k.q).far)) := by
        refine Bool.eq_iff_iff.2 ?_
        rw [h3]
        unfold CkOk
        rw [← h4]
        simp
      rw [this]
      generalize (mulF k.cP.toNat k.cA k.cN.toNat k.q).far = a1
      generalize k.q.far = a2
      generalize nrB k = a3
      generalize neB k = a4
      clear this h4 h3 hO
      revert r4 a1 a2 a3 a4
      decide
  by_cases h3 : k.kind = 3
  · obtain ⟨r3, hr3⟩ := tell (EkOk k)
    have hO := key3 hk hr3 h3
    refine specKey_three k ad b off cap ok (nrB k) (ncB k) r3 w hs (by simp [h3]) (by simp [h3]) (by simp [h3]) (hide fun w => noRsa_any k ad cap w) (hide fun w => noCurve_any k ad cap w) (hide fun W => specPairOk_at k.dP k.dD k.dL k.dX k.dY k.a hI.d hI.l r3 hr3 W) (hide ?_)
    rw [hO]
    generalize nrB k = a3
    generalize ncB k = a4
    clear hr3 hO
    revert r3 a3 a4
    decide
  · rw [key0 hk h1 h2 h3]
    exact specKey_none k ad b off cap w hs (by simp [h1]) (by simp [h2]) (by simp [h3])
end

section
set_option linter.unusedVariables false

open Go.RowKit

set_option maxHeartbeats 400000 in
theorem toEd_any (P D L bx cy : Int) (w : World) : Calls Tryz.prog 42 #[.agg #[.int .i64 P, .int .i64 D, .int .i64 L, .int .i64 bx, .int .i64 cy]] w fun r w' => r = .returned (.agg #[.int .i64 P, .int .i64 D, .int .i64 L, .int .i64 bx, .int .i64 cy]) ∧ Ext w w' := by
  go_enter Tryz.func42, Tryz.ntmps42
  go_wp2
  refine bodyPost_ret (v := .agg #[.int .i64 P, .int .i64 D, .int .i64 L, .int .i64 bx, .int .i64 cy]) (by simp [results, Tryz.results42, go_sem]) rfl ⟨rfl, ?_⟩
  unfold Ext
  repeat (first | exact Below.refl _ _ | refine Below.setCell ?_ (by simp <;> omega) _ | refine Below.alloc ?_ (by simp <;> omega) _)

set_option maxHeartbeats 400000 in
theorem toPair_any (x y : Int) (w : World) : Calls Tryz.prog 43 #[.agg #[.int .i64 x, .int .i64 y]] w fun r w' => r = .returned (.agg #[.int .i64 x, .int .i64 y]) ∧ Ext w w' := by
  go_enter Tryz.func43, Tryz.ntmps43
  go_wp2
  refine bodyPost_ret (v := .agg #[.int .i64 x, .int .i64 y]) (by simp [results, Tryz.results43, go_sem]) rfl ⟨rfl, ?_⟩
  unfold Ext
  repeat (first | exact Below.refl _ _ | refine Below.setCell ?_ (by simp <;> omega) _ | refine Below.alloc ?_ (by simp <;> omega) _)

set_option maxHeartbeats 400000 in
theorem eqPair_same (x y : Int) (w : World) : Calls Tryz.prog 51 #[.agg #[.int .i64 x, .int .i64 y], .agg #[.int .i64 x, .int .i64 y]] w fun r w' => r = .returned (.bool true) ∧ Ext w w' := by
  have h1 : (x != x) = false := by simp
  have h2 : (y != y) = false := by simp
  go_enter Tryz.func51, Tryz.ntmps51
  go_wp2
  go_ret
  exact ⟨rfl, ((Below.refl _ _).alloc (Nat.le_refl _) _).alloc (by simp) _⟩
end

section
set_option linter.unusedVariables false
set_option linter.unusedSimpArgs false

open Go.RowKit

/-- A result that lies in a block is read there as a whole. -/
theorem results_cell {P : Program} {fn : Func} {a : Nat} {T : TypeId} (hf : fn.results = #[.cell a T]) {tmps : Array Value} {q : Addr} {v : Value} {W : World} (ht : tmps.getD a undef = .pointer (some q)) (hl : (loadVar T q).run P W = .ok v W) : (results fn tmps).run P W = .ok v W := by
  have ht' : tmps[a]?.getD undef = .pointer (some q) := by simpa using ht
  simp [results, hf, ht', asAddr, hl]

theorem setCells_putK (b : Nat) : ∀ (vs : List Value) (o : Nat) (w : World), w.setCells b o vs = putL b o vs w
  | [], _, _ => rfl
  | v :: vs, o, w => by rw [World.setCells, putL, setCells_putK b vs]

/-- A key is stored as a whole. -/
theorem run_storeKey (cs : List Value) (hl : cs.length = 19) (h1 : ∀ v ∈ cs, v.oneCell' = true) (b : Nat) (w : World) {vs : List Value} (hB : Blk w b vs) (hv : vs.length = 19) :
    (Instr.storeAt 42 (.pointer (some ⟨b, 0, none⟩)) (.agg cs.toArray)).run Tryz.prog w = .ok () (putL b 0 cs w) := by
  have hs : (Go.sizeOf 42).run Tryz.prog w = .ok 19 w := by kernel_rfl
  have hx : ∀ j, j < 19 → ∃ v, vs[j]? = some v := fun j hj => ⟨_, List.getElem?_eq_getElem (by omega)⟩
  have hst := run_storeCells_cells (P := Tryz.prog) b 0 cs 0 w (fun j hj => by
    obtain ⟨v, h⟩ := hx j (by omega)
    simp [(hB j v h).1]) (fun j hj => by
    obtain ⟨v, h⟩ := hx j (by omega)
    simpa using (hB j v h).2) h1
  simp only [Instr.storeAt, Instr.sureAddr, storeVar, Sem.run_bind, Sem.run_pure, Result.andThen_ok, hs, Value.cells]
  rw [setCells_putK] at hst
  simp [hl, hst]

theorem wpList_store_on {P : Program} {w : World} {ops : Array Oper} {rest : List Oper} {o : Oper} {a : Act} {Q : Exit → Act → World → Prop} (hw : Region.wanted o (yielded ops a.tmps) = true) (ty : TypeId) (x y : Operand) (ho : o.op = .store ty x y) (vx : Value) (hx : a.eval x = vx) (vy : Value) (hy : a.eval y = vy) (w2 : World) (hl : (Instr.storeAt ty vx vy).run P w = .ok () w2)
    (h : wpList P ops Q rest (a.put o.dst undef) w2) : wpList P ops Q (o :: rest) a w := by
  rw [wpList]
  simp only [hw, if_true]
  refine Or.inl ?_
  unfold Oper.wp execOp
  simp only [ho, hx, hy, Sem.run_bind, Sem.run_pure, Result.andThen_ok, hl]
  exact h

theorem Blk.putAll {w : World} {C : Nat} {us vs : List Value} (h : Blk w C us) (hl : us.length = vs.length) : Blk (putL C 0 vs w) C vs := fun j v hj => by
  have hi := (List.getElem?_eq_some_iff.1 hj).1
  have := cell_putL C vs 0 w (fun k hk => by
    obtain ⟨y, hy⟩ : ∃ y, us[k]? = some y := ⟨_, List.getElem?_eq_getElem (by omega)⟩
    rw [Nat.zero_add, (h k y hy).1]
    rfl) j v hj
  rw [Nat.zero_add] at this
  obtain ⟨y, hy⟩ : ∃ y, us[j]? = some y := ⟨_, List.getElem?_eq_getElem (by omega)⟩
  exact ⟨this, by rw [frozen_putL]; exact (h j y hy).2⟩

theorem Seg.putAll {w : World} {a : Option Addr} {g o n D : Nat} {f : Nat → Int} (vs : List Value) (h : Seg w a g o n f) (hn : g ≠ D) : Seg (putL D 0 vs w) a g o n f :=
  ⟨h.at', fun j hj => (cell_putL_other D ⟨g, o + j, none⟩ vs 0 w (fun e => absurd e hn)).trans (h.cell j hj)⟩

theorem Blk.set {w : World} {C : Nat} {vs : List Value} (h : Blk w C vs) (i : Nat) (v : Value) (hi : i < vs.length) : Blk (w.setCell ⟨C, i, none⟩ v) C (vs.set i v) := fun j u hj => by
  by_cases e : j = i
  · subst e
    rw [List.getElem?_set_self hi] at hj
    simp only [Option.some.injEq] at hj
    subst hj
    obtain ⟨y, hy⟩ : ∃ y, vs[j]? = some y := ⟨_, List.getElem?_eq_getElem hi⟩
    exact ⟨World.cell?_setCell_same _ _ _ (h j y hy).1, by rw [World.frozen?_setCell]; exact (h j y hy).2⟩
  · rw [List.getElem?_set_ne (fun h => e h.symm)] at hj
    refine ⟨?_, by rw [World.frozen?_setCell]; exact (h j u hj).2⟩
    rw [World.cell?_setCell_other _ _ _ _ (fun k => e (by have := congrArg Addr.off k; simp at this; omega))]
    exact (h j u hj).1

theorem Blk.apart {w : World} {C D i : Nat} {vs : List Value} (h : Blk w C vs) (v : Value) (hn : C ≠ D) : Blk (w.setCell ⟨D, i, none⟩ v) C vs := fun j u hj => by
  have hb : (w.setCell ⟨D, i, none⟩ v).heap[C]? = w.heap[C]? := Below.heap_setCell _ _ _ _ hn
  exact ⟨(World.cell?_of_block (a := ⟨C, j, none⟩) hb).trans (h j u hj).1, (World.frozen?_of_block (a := ⟨C, j, none⟩) hb).trans (h j u hj).2⟩

theorem Seg.apart {w : World} {a : Option Addr} {g o n D i : Nat} {f : Nat → Int} (h : Seg w a g o n f) (v : Value) (hn : g ≠ D) : Seg (w.setCell ⟨D, i, none⟩ v) a g o n f :=
  ⟨h.at', fun j hj => (World.cell?_of_block (a := ⟨g, o + j, none⟩) (Below.heap_setCell _ _ _ _ hn)).trans (h.cell j hj)⟩

def szN (l : Int) (n : Nat) : Int := if l < n then -1 else l - n

theorem szN_facts {l : Int} {n : Nat} (h0 : 0 ≤ l) : -1 ≤ szN l n ∧ szN l n ≤ l ∧ (0 ≤ szN l n → (n : Int) ≤ l) := by
  unfold szN
  split <;> refine ⟨by omega, by omega, fun _ => by omega⟩

theorem szIntS_any (a : Option Addr) (n cap : Nat) (l : Int) (w : World) (l0 : 0 ≤ l) (l1 : l ≤ 1048576) (hn : n ≤ 9223372036854775807) :
    Calls Tryz.prog 36 #[.slice a n cap, .int .i64 l] w fun e w' => e = .returned (.int .i64 (szN l n)) ∧ w' = w := by
  unfold szN
  by_cases h : l < n
  · rw [if_pos h]
    have h1 : l - (n : Int) < 0 := by omega
    have h2 : -9223372036854775808 ≤ l - (n : Int) := by omega
    go_enter Tryz.func36, Tryz.ntmps36
    go_wp2
    go_ret
    exact ⟨rfl, rfl⟩
  · rw [if_neg h]
    have h1 : ¬ l - (n : Int) < 0 := by omega
    go_enter Tryz.func36, Tryz.ntmps36
    go_wp2
    go_ret
    exact ⟨rfl, rfl⟩

set_option maxHeartbeats 3200000 in
set_option maxRecDepth 100000 in
theorem szKey_any (k : Ky) (ad : Option Addr) (cap : Nat) (l : Int) (w : World) (l0 : 0 ≤ l) (l1 : l ≤ 1048576) (hn : k.n ≤ 9223372036854775807) :
    Calls Tryz.prog 9 #[.agg #[.int .i64 k.kind, .slice ad k.n cap, .int .i64 k.e, .int .i64 k.cP, .int .i64 k.cA, .int .i64 k.cB, .int .i64 k.cN, .int .i64 k.cX, .int .i64 k.cY, .int .i64 k.q.x, .int .i64 k.q.y, .bool k.q.far, .int .i64 k.dP, .int .i64 k.dD, .int .i64 k.dL, .int .i64 k.dX, .int .i64 k.dY, .int .i64 k.a.x, .int .i64 k.a.y], .int .i64 l] w fun e w' => (∃ z : Int, e = .returned (.int .i64 z) ∧ -1 ≤ z ∧ z ≤ l ∧ (0 ≤ z → (k.n : Int) ≤ l)) ∧ Ext w w' := by
  obtain ⟨V, hV⟩ : ∃ V, w.alloc (.cells #[.int .i64 k.kind, .slice ad k.n cap, .int .i64 k.e, .int .i64 k.cP, .int .i64 k.cA, .int .i64 k.cB, .int .i64 k.cN, .int .i64 k.cX, .int .i64 k.cY, .int .i64 k.q.x, .int .i64 k.q.y, .bool k.q.far, .int .i64 k.dP, .int .i64 k.dD, .int .i64 k.dL, .int .i64 k.dX, .int .i64 k.dY, .int .i64 k.a.x, .int .i64 k.a.y] 32) = V := ⟨_, rfl⟩
  obtain ⟨B0, hE, -⟩ := box1 w [.int .i64 k.kind, .slice ad k.n cap, .int .i64 k.e, .int .i64 k.cP, .int .i64 k.cA, .int .i64 k.cB, .int .i64 k.cN, .int .i64 k.cX, .int .i64 k.cY, .int .i64 k.q.x, .int .i64 k.q.y, .bool k.q.far, .int .i64 k.dP, .int .i64 k.dD, .int .i64 k.dL, .int .i64 k.dX, .int .i64 k.dY, .int .i64 k.a.x, .int .i64 k.a.y] 32 (w1 := V) (by rw [← hV]; exact Ext.refl _)
  have c1 := (B0 1 _ rfl).1
  have HE := hide hE
  have HS := hide (szIntS_any ad k.n cap l V l0 l1 hn)
  clear B0 hE
  go_enter Tryz.func9, Tryz.ntmps9
  go_wp2_with fail
  refine HS.out.mono ?_
  rintro e W ⟨rfl, hw⟩
  obtain rfl := hw.symm
  obtain ⟨z0, z1, hz⟩ := szN_facts (l := l) (n := k.n) l0
  generalize szN l k.n = z at *
  have Hz := hide hz
  clear hz
  by_cases h : z < 0
  · go_wp2
    go_ret
    exact ⟨⟨-1, rfl, by omega, by omega, fun h => by omega⟩, HE.out⟩
  · go_wp2
    go_ret
    exact ⟨⟨z, rfl, z0, z1, Hz.out⟩, HE.out⟩

set_option maxHeartbeats 1600000 in
theorem eqCurve_same (a b c d e f : Int) (w : World) : Calls Tryz.prog 48 #[.agg #[.int .i64 a, .int .i64 b, .int .i64 c, .int .i64 d, .int .i64 e, .int .i64 f], .agg #[.int .i64 a, .int .i64 b, .int .i64 c, .int .i64 d, .int .i64 e, .int .i64 f]] w fun r w' => r = .returned (.bool true) ∧ Ext w w' := by
  go_enter Tryz.func48, Tryz.ntmps48
  go_wp2
  go_ret
  exact ⟨rfl, Ext.trans (Ext.alloc _ _) (Ext.alloc _ _)⟩

set_option maxHeartbeats 1600000 in
theorem eqEd_same (a b c d e : Int) (w : World) : Calls Tryz.prog 50 #[.agg #[.int .i64 a, .int .i64 b, .int .i64 c, .int .i64 d, .int .i64 e], .agg #[.int .i64 a, .int .i64 b, .int .i64 c, .int .i64 d, .int .i64 e]] w fun r w' => r = .returned (.bool true) ∧ Ext w w' := by
  go_enter Tryz.func50, Tryz.ntmps50
  go_wp2
  go_ret
  exact ⟨rfl, Ext.trans (Ext.alloc _ _) (Ext.alloc _ _)⟩
end

section
set_option linter.unusedVariables false
set_option linter.unusedSimpArgs false

open Go.RowKit

set_option maxHeartbeats 6400000 in
set_option maxRecDepth 100000 in
theorem eqKey_same (k : Ky) (ad : Option Addr) (b off cap : Nat) (ad2 : Option Addr) (b2 off2 cap2 : Nat) (w : World) (hs : Seg w ad b off k.n k.f) (hs2 : Seg w ad2 b2 off2 k.n k.f) (hn : k.n ≤ 1048576) :
    Calls Tryz.prog 14 #[.agg #[.int .i64 k.kind, .slice ad k.n cap, .int .i64 k.e, .int .i64 k.cP, .int .i64 k.cA, .int .i64 k.cB, .int .i64 k.cN, .int .i64 k.cX, .int .i64 k.cY, .int .i64 k.q.x, .int .i64 k.q.y, .bool k.q.far, .int .i64 k.dP, .int .i64 k.dD, .int .i64 k.dL, .int .i64 k.dX, .int .i64 k.dY, .int .i64 k.a.x, .int .i64 k.a.y], .agg #[.int .i64 k.kind, .slice ad2 k.n cap2, .int .i64 k.e, .int .i64 k.cP, .int .i64 k.cA, .int .i64 k.cB, .int .i64 k.cN, .int .i64 k.cX, .int .i64 k.cY, .int .i64 k.q.x, .int .i64 k.q.y, .bool k.q.far, .int .i64 k.dP, .int .i64 k.dD, .int .i64 k.dL, .int .i64 k.dX, .int .i64 k.dY, .int .i64 k.a.x, .int .i64 k.a.y]] w fun e w' => e = .returned (.bool true) ∧ Ext w w' := by
  obtain ⟨V, hV⟩ : ∃ V, (w.alloc (.cells #[.int .i64 k.kind, .slice ad k.n cap, .int .i64 k.e, .int .i64 k.cP, .int .i64 k.cA, .int .i64 k.cB, .int .i64 k.cN, .int .i64 k.cX, .int .i64 k.cY, .int .i64 k.q.x, .int .i64 k.q.y, .bool k.q.far, .int .i64 k.dP, .int .i64 k.dD, .int .i64 k.dL, .int .i64 k.dX, .int .i64 k.dY, .int .i64 k.a.x, .int .i64 k.a.y] 42)).alloc (.cells #[.int .i64 k.kind, .slice ad2 k.n cap2, .int .i64 k.e, .int .i64 k.cP, .int .i64 k.cA, .int .i64 k.cB, .int .i64 k.cN, .int .i64 k.cX, .int .i64 k.cY, .int .i64 k.q.x, .int .i64 k.q.y, .bool k.q.far, .int .i64 k.dP, .int .i64 k.dD, .int .i64 k.dL, .int .i64 k.dX, .int .i64 k.dY, .int .i64 k.a.x, .int .i64 k.a.y] 42) = V := ⟨_, rfl⟩
  obtain ⟨B0, B1, hE, -⟩ := box2 w [.int .i64 k.kind, .slice ad k.n cap, .int .i64 k.e, .int .i64 k.cP, .int .i64 k.cA, .int .i64 k.cB, .int .i64 k.cN, .int .i64 k.cX, .int .i64 k.cY, .int .i64 k.q.x, .int .i64 k.q.y, .bool k.q.far, .int .i64 k.dP, .int .i64 k.dD, .int .i64 k.dL, .int .i64 k.dX, .int .i64 k.dY, .int .i64 k.a.x, .int .i64 k.a.y] [.int .i64 k.kind, .slice ad2 k.n cap2, .int .i64 k.e, .int .i64 k.cP, .int .i64 k.cA, .int .i64 k.cB, .int .i64 k.cN, .int .i64 k.cX, .int .i64 k.cY, .int .i64 k.q.x, .int .i64 k.q.y, .bool k.q.far, .int .i64 k.dP, .int .i64 k.dD, .int .i64 k.dL, .int .i64 k.dX, .int .i64 k.dY, .int .i64 k.a.x, .int .i64 k.a.y] 42 42 (w1 := V) (by rw [← hV]; exact Ext.refl _)
  have HEq : Hid (Calls Tryz.prog 47 #[.slice ad k.n cap, .slice ad2 k.n cap2] V fun e w' => e = .returned (.bool true) ∧ Ext V w') := (eqIntS_any ad b off k.n cap k.f ad2 b2 off2 k.n cap2 k.f V (hs.of_all hE) (hs2.of_all hE) hn).mono fun e w' ⟨h1, q, h2⟩ => ⟨by rw [h1, alike_refl], by rw [h2]; exact ⟨rfl, rfl, rfl, Nat.le_refl _, fun _ _ => rfl⟩⟩
  have HX := hide hE
  have HA := hide B0
  have HB := hide B1
  clear B0 B1 hE hs hs2
  have n0 : (k.kind != k.kind) = false := by simp
  have n2 : (k.e != k.e) = false := by simp
  have c0 := (HA.out 0 _ rfl).1
  have d0 := (HB.out 0 _ rfl).1
  have c1 := (HA.out 1 _ rfl).1
  have d1 := (HB.out 1 _ rfl).1
  go_enter Tryz.func14, Tryz.ntmps14
  go_wp2_with fail
  refine (HEq.out).mono ?_
  rintro e W ⟨rfl, hEW⟩
  clear c0 d0 c1 d1
  replace HX := hide (Ext.trans HX.out hEW)
  replace HA := hide (Blk.ext HA.out hEW (World.block_lt_of_cell? _ _ (HA.out 0 _ rfl).1))
  replace HB := hide (Blk.ext HB.out hEW (World.block_lt_of_cell? _ _ (HB.out 0 _ rfl).1))
  clear hEW
  have c2 := (HA.out 2 _ rfl).1
  have d2 := (HB.out 2 _ rfl).1
  have c3 := (HA.out 3 _ rfl).1
  have d3 := (HB.out 3 _ rfl).1
  have c4 := (HA.out 4 _ rfl).1
  have d4 := (HB.out 4 _ rfl).1
  have c5 := (HA.out 5 _ rfl).1
  have d5 := (HB.out 5 _ rfl).1
  have c6 := (HA.out 6 _ rfl).1
  have d6 := (HB.out 6 _ rfl).1
  have c7 := (HA.out 7 _ rfl).1
  have d7 := (HB.out 7 _ rfl).1
  have c8 := (HA.out 8 _ rfl).1
  have d8 := (HB.out 8 _ rfl).1
  go_wp2_with fail
  refine (eqCurve_same k.cP k.cA k.cB k.cN k.cX k.cY _).mono ?_
  rintro e W ⟨rfl, hEW⟩
  clear c2 d2 c3 d3 c4 d4 c5 d5 c6 d6 c7 d7 c8 d8
  replace HX := hide (Ext.trans HX.out hEW)
  replace HA := hide (Blk.ext HA.out hEW (World.block_lt_of_cell? _ _ (HA.out 0 _ rfl).1))
  replace HB := hide (Blk.ext HB.out hEW (World.block_lt_of_cell? _ _ (HB.out 0 _ rfl).1))
  clear hEW
  have c9 := (HA.out 9 _ rfl).1
  have d9 := (HB.out 9 _ rfl).1
  have c10 := (HA.out 10 _ rfl).1
  have d10 := (HB.out 10 _ rfl).1
  have c11 := (HA.out 11 _ rfl).1
  have d11 := (HB.out 11 _ rfl).1
  go_wp2_with fail
  refine (eqPoint_same k.q.x k.q.y k.q.far _).mono ?_
  rintro e W ⟨rfl, hEW⟩
  clear c9 d9 c10 d10 c11 d11
  replace HX := hide (Ext.trans HX.out hEW)
  replace HA := hide (Blk.ext HA.out hEW (World.block_lt_of_cell? _ _ (HA.out 0 _ rfl).1))
  replace HB := hide (Blk.ext HB.out hEW (World.block_lt_of_cell? _ _ (HB.out 0 _ rfl).1))
  clear hEW
  have c12 := (HA.out 12 _ rfl).1
  have d12 := (HB.out 12 _ rfl).1
  have c13 := (HA.out 13 _ rfl).1
  have d13 := (HB.out 13 _ rfl).1
  have c14 := (HA.out 14 _ rfl).1
  have d14 := (HB.out 14 _ rfl).1
  have c15 := (HA.out 15 _ rfl).1
  have d15 := (HB.out 15 _ rfl).1
  have c16 := (HA.out 16 _ rfl).1
  have d16 := (HB.out 16 _ rfl).1
  go_wp2_with fail
  refine (eqEd_same k.dP k.dD k.dL k.dX k.dY _).mono ?_
  rintro e W ⟨rfl, hEW⟩
  clear c12 d12 c13 d13 c14 d14 c15 d15 c16 d16
  replace HX := hide (Ext.trans HX.out hEW)
  replace HA := hide (Blk.ext HA.out hEW (World.block_lt_of_cell? _ _ (HA.out 0 _ rfl).1))
  replace HB := hide (Blk.ext HB.out hEW (World.block_lt_of_cell? _ _ (HB.out 0 _ rfl).1))
  clear hEW
  have c17 := (HA.out 17 _ rfl).1
  have d17 := (HB.out 17 _ rfl).1
  have c18 := (HA.out 18 _ rfl).1
  have d18 := (HB.out 18 _ rfl).1
  go_wp2_with fail
  refine (eqPair_same k.a.x k.a.y _).mono ?_
  rintro e W ⟨rfl, hEW⟩
  clear c17 d17 c18 d18
  replace HX := hide (Ext.trans HX.out hEW)
  replace HA := hide (Blk.ext HA.out hEW (World.block_lt_of_cell? _ _ (HA.out 0 _ rfl).1))
  replace HB := hide (Blk.ext HB.out hEW (World.block_lt_of_cell? _ _ (HB.out 0 _ rfl).1))
  clear hEW
  go_wp2
  go_ret
  exact ⟨rfl, HX.out⟩
end

end Go.Proofs.YtnnandjphlajnaaGreatDoor
