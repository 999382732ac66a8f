/- Keys: SigSize of both; the walk of the law FnExactSigSize (written by mkkey.py). -/
import Derived.Test.YtdaneanloknkpacGreatDoorKyOL
namespace Go.Proofs.YtdaneanloknkpacGreatDoor
set_option linter.unusedVariables false
set_option linter.unusedSimpArgs false
open Go.RowKit

/-- The kind that goes with an algorithm. -/
def kdV (alg : Int) : Int := if alg = 1 ∨ alg = 2 then 1 else if alg = 3 then 2 else if alg = 4 then 3 else 0
def sgV (ok : Bool) (kind alg Bq : Int) : Int := if ok = true ∧ kind = kdV alg then (if kind = 1 then (Bq + 7) / 8 else 6) else 0

set_option maxHeartbeats 1600000 in
theorem kindOf_any (alg : Int) (w : World) : Calls Tryz.prog 41 #[.int .i64 alg] w fun e w' => e = .returned (.int .i64 (kdV alg)) ∧ w' = w := by
  by_cases h1 : alg = 1
  · subst h1
    go_enter Tryz.func41, Tryz.ntmps41
    go_wp2
    go_ret
    exact ⟨rfl, rfl⟩
  by_cases h2 : alg = 2
  · subst h2
    go_enter Tryz.func41, Tryz.ntmps41
    go_wp2
    go_ret
    exact ⟨rfl, rfl⟩
  by_cases h3 : alg = 3
  · subst h3
    go_enter Tryz.func41, Tryz.ntmps41
    go_wp2
    go_ret
    exact ⟨rfl, rfl⟩
  by_cases h4 : alg = 4
  · subst h4
    go_enter Tryz.func41, Tryz.ntmps41
    go_wp2
    go_ret
    exact ⟨rfl, rfl⟩
  have hv : kdV alg = 0 := by unfold kdV; rw [if_neg (by omega), if_neg h3, if_neg h4]
  rw [hv]
  have g1 : (alg == 1) = false := by simp [h1]
  have g2 : (alg == 2) = false := by simp [h2]
  have g3 : (alg == 3) = false := by simp [h3]
  have g4 : (alg == 4) = false := by simp [h4]
  clear h1 h2 h3 h4 hv
  go_enter Tryz.func41, Tryz.ntmps41
  go_wp2
  go_ret
  exact ⟨rfl, rfl⟩

set_option maxHeartbeats 1600000 in
theorem l6Goes_any (kind alg : Int) (h0 : kind ≠ 0) (w : World) : Calls Tryz.prog 34 #[.int .i64 kind, .int .i64 alg] w fun e w' => e = .returned (.bool (kind == kdV alg)) ∧ w' = w := by
  have k1 : kdV 1 = 1 := rfl
  have k2 : kdV 2 = 1 := rfl
  have k3 : kdV 3 = 2 := rfl
  have k4 : kdV 4 = 3 := rfl
  by_cases h1 : alg = 1
  · subst h1
    rw [k1]
    go_enter Tryz.func34, Tryz.ntmps34
    go_wp2
    go_ret
    exact ⟨rfl, rfl⟩
  by_cases h2 : alg = 2
  · subst h2
    rw [k2]
    go_enter Tryz.func34, Tryz.ntmps34
    go_wp2
    go_ret
    exact ⟨rfl, rfl⟩
  by_cases h3 : alg = 3
  · subst h3
    rw [k3]
    go_enter Tryz.func34, Tryz.ntmps34
    go_wp2
    go_ret
    exact ⟨rfl, rfl⟩
  by_cases h4 : alg = 4
  · subst h4
    rw [k4]
    go_enter Tryz.func34, Tryz.ntmps34
    go_wp2
    go_ret
    exact ⟨rfl, rfl⟩
  have hv : kdV alg = 0 := by unfold kdV; rw [if_neg (by omega), if_neg h3, if_neg h4]
  have hk : (kind == kdV alg) = false := by rw [hv]; simp [h0]
  rw [hk]
  have g1 : (alg == 1) = false := by simp [h1]
  have g2 : (alg == 2) = false := by simp [h2]
  have g3 : (alg == 3) = false := by simp [h3]
  have g4 : (alg == 4) = false := by simp [h4]
  clear h1 h2 h3 h4 hv hk k1 k2 k3 k4
  go_enter Tryz.func34, Tryz.ntmps34
  go_wp2
  go_ret
  exact ⟨rfl, rfl⟩

set_option maxHeartbeats 800000 in
theorem bytesFor_any (n : Int) (w : World) (h0 : 0 ≤ n) (h1 : n ≤ 100000) : Calls Tryz.prog 42 #[.int .i64 n] w fun e w' => e = .returned (.int .i64 ((n + 7) / 8)) ∧ w' = w := by
  have w1 : wrap64 (n + 7) = n + 7 := by unfold wrap64; omega
  have m1 : Int.tdiv (n + 7) 8 = (n + 7) / 8 := by rw [Int.tdiv_eq_ediv_of_nonneg (by omega)]
  have w2 : wrap64 ((n + 7) / 8) = (n + 7) / 8 := by unfold wrap64; omega
  go_enter Tryz.func42, Tryz.ntmps42
  go_wp2
  go_ret
  exact ⟨by first | rfl | (congr 2), rfl⟩

set_option maxHeartbeats 6400000 in
set_option maxRecDepth 100000 in
theorem implSig_at (k : Ky) (ad : Option Addr) (b off cap : Nat) (alg : Int) (ok : Bool) (Bq : Int) (w : World)
    (HK : Hid (∀ W, Ext w W → Calls Tryz.prog 19 #[.agg #[.int .i64 k.kind, .slice ad k.n cap, .int .i64 k.e, .int .i64 k.cP, .int .i64 k.cA, .int .i64 k.cB, .int .i64 k.cN, .int .i64 k.cX, .int .i64 k.cY, .int .i64 k.q.x, .int .i64 k.q.y, .bool k.q.far, .int .i64 k.dP, .int .i64 k.dD, .int .i64 k.dL, .int .i64 k.dX, .int .i64 k.dY, .int .i64 k.a.x, .int .i64 k.a.y]] W fun e w' => e = .returned (.bool ok) ∧ Ext W w'))
    (HN : Hid (ok = true → k.kind = 1 → ∀ W, Ext w W → Calls Tryz.prog 43 #[.slice ad k.n cap] W fun e w' => e = .returned (.int .i64 Bq) ∧ w' = W))
    (Hb : Hid (ok = true → k.kind = 1 → 0 ≤ Bq ∧ Bq ≤ 512)) (Hd : Hid (ok = true → k.kind = 1 ∨ k.kind = 2 ∨ k.kind = 3)) :
    Calls Tryz.prog 11 #[.agg #[.int .i64 k.kind, .slice ad k.n cap, .int .i64 k.e, .int .i64 k.cP, .int .i64 k.cA, .int .i64 k.cB, .int .i64 k.cN, .int .i64 k.cX, .int .i64 k.cY, .int .i64 k.q.x, .int .i64 k.q.y, .bool k.q.far, .int .i64 k.dP, .int .i64 k.dD, .int .i64 k.dL, .int .i64 k.dX, .int .i64 k.dY, .int .i64 k.a.x, .int .i64 k.a.y], .int .i64 alg] w fun e w' => e = .returned (.int .i64 (sgV ok k.kind alg Bq)) ∧ Ext w w' := by
  obtain ⟨V, hV⟩ : ∃ V, w.alloc (.cells #[.int .i64 k.kind, .slice ad k.n cap, .int .i64 k.e, .int .i64 k.cP, .int .i64 k.cA, .int .i64 k.cB, .int .i64 k.cN, .int .i64 k.cX, .int .i64 k.cY, .int .i64 k.q.x, .int .i64 k.q.y, .bool k.q.far, .int .i64 k.dP, .int .i64 k.dD, .int .i64 k.dL, .int .i64 k.dX, .int .i64 k.dY, .int .i64 k.a.x, .int .i64 k.a.y] 40) = V := ⟨_, rfl⟩
  obtain ⟨B0, hE, -⟩ := box1 w [.int .i64 k.kind, .slice ad k.n cap, .int .i64 k.e, .int .i64 k.cP, .int .i64 k.cA, .int .i64 k.cB, .int .i64 k.cN, .int .i64 k.cX, .int .i64 k.cY, .int .i64 k.q.x, .int .i64 k.q.y, .bool k.q.far, .int .i64 k.dP, .int .i64 k.dD, .int .i64 k.dL, .int .i64 k.dX, .int .i64 k.dY, .int .i64 k.a.x, .int .i64 k.a.y] 40 (w1 := V) (by rw [← hV]; exact Ext.refl _)
  have HA := hide B0
  have HE := hide hE
  clear B0 hE
  have HV : Hid (sgV ok k.kind alg Bq = if ok = true ∧ k.kind = kdV alg then (if k.kind = 1 then (Bq + 7) / 8 else 6) else 0) := rfl
  generalize sgV ok k.kind alg Bq = R at *
  go_enter Tryz.func11, Tryz.ntmps11
  have HKd := hide (fun w => kindOf_any alg w)
  have ltp : w.heap.size < V.heap.size := World.block_lt_of_cell? _ _ (HA.out 0 _ rfl).1
  have e0 := cell_reC (X := fun _ => False) (HA.out 0 _ rfl).1 (fun h => h)
  go_wp2_with fail
  refine anyK_begin (fun _ => False) 10 rfl (by kernel_rfl) ?_
  refine anyK_take 0 1 9 rfl (by decide) (by kernel_rfl) (fun _ _ d _ _ h => by cases d <;> exact h) ?_
  refine head_load (by first | rfl | simp [Region.wanted, yielded]) rfl rfl (fun q => run_loadKey [.int .i64 k.kind, .slice ad k.n cap, .int .i64 k.e, .int .i64 k.cP, .int .i64 k.cA, .int .i64 k.cB, .int .i64 k.cN, .int .i64 k.cX, .int .i64 k.cY, .int .i64 k.q.x, .int .i64 k.q.y, .bool k.q.far, .int .i64 k.dP, .int .i64 k.dD, .int .i64 k.dL, .int .i64 k.dX, .int .i64 k.dY, .int .i64 k.a.x, .int .i64 k.a.y] rfl w.heap.size _ (fun j v h => (blk_re HA.out ltp q j v h).1)) ?_
  refine headC_nil ?_
  refine anyK_one 1 (by kernel_rfl) ?_
  refine stepK_run rfl ?_
  intro u1 g1 K hKK
  go_simp
  refine (HK.out _ (Ext.trans HE.out g1)).mono ?_
  rintro e u2 ⟨rfl, hE2⟩
  have HX := hide (Ext.trans g1 hE2)
  go_simp
  refine hKK _ _ (Grw.of_ext HX.out) ?_
  clear hKK K g1 hE2 HK ltp
  cases ok
  · have HR : Hid (0 = R) := by show _ = _; rw [HV.out, if_neg (by simp)]
    refine anyK_take 2 8 0 rfl (by decide) (by kernel_rfl) (fun _ _ d _ _ h => by cases d <;> exact h) ?_
    repeat (refine headC_step (fun K hK => ?_); go_simp; first | (refine hK _ ?_; clear hK K) | (apply Exists.intro; refine ⟨fun _ => ?_, hK _ ?_⟩; ((go_at_call 41; exact Calls.re_of ((HKd.out _).mono (by rintro e w' ⟨rfl, rfl⟩; exact ⟨rfl, Ext.refl _⟩)))); clear hK K))
    refine headC_nil ?_
    refine anyK_done (by kernel_rfl) ?_ 0
    intro u3 g3
    have HEW := Ext.trans HX.out g3
    replace HA := hide (Blk.ext HA.out HEW (World.block_lt_of_cell? _ _ (HA.out 0 _ rfl).1))
    replace HE := hide (Ext.trans HE.out HEW)
    have c0 := (HA.out 0 _ rfl).1
    have c1 := (HA.out 1 _ rfl).1
    clear HEW g3 HX e0
    go_wp2
    go_ret
    exact ⟨ret_int HR.out, HE.out⟩
  · have hd := Hd.out (by simp)
    by_cases hg : k.kind = kdV alg
    · have g0 : (k.kind == kdV alg) = true := by simp [hg]
      have g0' : (k.kind != kdV alg) = false := by simp [hg]
      have HR0 : Hid (R = if k.kind = 1 then (Bq + 7) / 8 else 6) := by show _ = _; rw [HV.out, if_pos ⟨rfl, hg⟩]
      clear HV hg
      generalize kdV alg = kd at *
      refine anyK_take 2 8 0 rfl (by decide) (by kernel_rfl) (fun _ _ d _ _ h => by cases d <;> exact h) ?_
      repeat (refine headC_step (fun K hK => ?_); go_simp; first | (refine hK _ ?_; clear hK K) | (apply Exists.intro; refine ⟨fun _ => ?_, hK _ ?_⟩; ((go_at_call 41; exact Calls.re_of ((HKd.out _).mono (by rintro e w' ⟨rfl, rfl⟩; exact ⟨rfl, Ext.refl _⟩)))); clear hK K))
      refine headC_nil ?_
      refine anyK_done (by kernel_rfl) ?_ 0
      intro u3 g3
      have HEW := Ext.trans HX.out g3
      replace HA := hide (Blk.ext HA.out HEW (World.block_lt_of_cell? _ _ (HA.out 0 _ rfl).1))
      replace HE := hide (Ext.trans HE.out HEW)
      have c0 := (HA.out 0 _ rfl).1
      have c1 := (HA.out 1 _ rfl).1
      clear HEW g3 HX e0
      by_cases h1 : k.kind = 1
      · obtain ⟨b0, b1⟩ := Hb.out (by simp) h1
        have hN := HN.out (by simp) h1
        have HN1 := hide hN
        have HR : Hid ((Bq + 7) / 8 = R) := by show _ = _; rw [HR0.out, if_pos h1]
        have g1 : (k.kind == 1) = true := by simp [h1]
        have HBf := hide (fun w => bytesFor_any Bq w b0 (by omega))
        clear h1 hd hN HR0 b0 b1
        go_wp2_with (first | (go_at_call 43; refine (HN1.out _ HE.out).mono ?_; rintro e W2 ⟨rfl, hw⟩; obtain rfl := hw.symm) | (go_at_call 42; refine (HBf.out _).mono ?_; rintro e W2 ⟨rfl, hw⟩; obtain rfl := hw.symm))
        go_ret
        exact ⟨ret_int HR.out, HE.out⟩
      · have HR : Hid (6 = R) := by show _ = _; rw [HR0.out, if_neg h1]
        have g1 : (k.kind == 1) = false := by simp [h1]
        by_cases h2 : k.kind = 2
        · have g2 : (k.kind == 2) = true := by simp [h2]
          clear h1 h2 hd HR0
          go_wp2_with fail
          go_ret
          exact ⟨ret_int HR.out, HE.out⟩
        · have g2 : (k.kind == 2) = false := by simp [h2]
          clear h1 h2 hd HR0
          go_wp2_with fail
          go_ret
          exact ⟨ret_int HR.out, HE.out⟩
    · have g0 : (k.kind == kdV alg) = false := by simp [hg]
      have g0' : (k.kind != kdV alg) = true := by simp [hg]
      have HR : Hid (0 = R) := by show _ = _; rw [HV.out, if_neg (fun h => hg h.2)]
      clear hg hd HV
      generalize kdV alg = kd at *
      refine anyK_take 2 8 0 rfl (by decide) (by kernel_rfl) (fun _ _ d _ _ h => by cases d <;> exact h) ?_
      repeat (refine headC_step (fun K hK => ?_); go_simp; first | (refine hK _ ?_; clear hK K) | (apply Exists.intro; refine ⟨fun _ => ?_, hK _ ?_⟩; ((go_at_call 41; exact Calls.re_of ((HKd.out _).mono (by rintro e w' ⟨rfl, rfl⟩; exact ⟨rfl, Ext.refl _⟩)))); clear hK K))
      refine headC_nil ?_
      refine anyK_done (by kernel_rfl) ?_ 0
      intro u3 g3
      have HEW := Ext.trans HX.out g3
      replace HA := hide (Blk.ext HA.out HEW (World.block_lt_of_cell? _ _ (HA.out 0 _ rfl).1))
      replace HE := hide (Ext.trans HE.out HEW)
      have c0 := (HA.out 0 _ rfl).1
      have c1 := (HA.out 1 _ rfl).1
      clear HEW g3 HX e0
      go_wp2
      go_ret
      exact ⟨ret_int HR.out, HE.out⟩

set_option maxHeartbeats 6400000 in
set_option maxRecDepth 100000 in
theorem specSig_at (k : Ky) (ad : Option Addr) (b off cap : Nat) (alg : Int) (ok : Bool) (Bq : Int) (w : World)
    (HK : Hid (∀ W, Ext w W → Calls Tryz.prog 33 #[.agg #[.int .i64 k.kind, .slice ad k.n cap, .int .i64 k.e, .int .i64 k.cP, .int .i64 k.cA, .int .i64 k.cB, .int .i64 k.cN, .int .i64 k.cX, .int .i64 k.cY, .int .i64 k.q.x, .int .i64 k.q.y, .bool k.q.far, .int .i64 k.dP, .int .i64 k.dD, .int .i64 k.dL, .int .i64 k.dX, .int .i64 k.dY, .int .i64 k.a.x, .int .i64 k.a.y]] W fun e w' => e = .returned (.bool ok) ∧ Ext W w'))
    (HN : Hid (ok = true → k.kind = 1 → ∀ W, Ext w W → Calls Tryz.prog 35 #[.slice ad k.n cap] W fun e w' => e = .returned (.int .i64 Bq) ∧ w' = W))
    (Hb : Hid (ok = true → k.kind = 1 → 0 ≤ Bq ∧ Bq ≤ 512)) (Hd : Hid (ok = true → k.kind = 1 ∨ k.kind = 2 ∨ k.kind = 3)) :
    Calls Tryz.prog 9 #[.agg #[.int .i64 k.kind, .slice ad k.n cap, .int .i64 k.e, .int .i64 k.cP, .int .i64 k.cA, .int .i64 k.cB, .int .i64 k.cN, .int .i64 k.cX, .int .i64 k.cY, .int .i64 k.q.x, .int .i64 k.q.y, .bool k.q.far, .int .i64 k.dP, .int .i64 k.dD, .int .i64 k.dL, .int .i64 k.dX, .int .i64 k.dY, .int .i64 k.a.x, .int .i64 k.a.y], .int .i64 alg] w fun e w' => e = .returned (.int .i64 (sgV ok k.kind alg Bq)) ∧ Ext w w' := by
  obtain ⟨V, hV⟩ : ∃ V, w.alloc (.cells #[.int .i64 k.kind, .slice ad k.n cap, .int .i64 k.e, .int .i64 k.cP, .int .i64 k.cA, .int .i64 k.cB, .int .i64 k.cN, .int .i64 k.cX, .int .i64 k.cY, .int .i64 k.q.x, .int .i64 k.q.y, .bool k.q.far, .int .i64 k.dP, .int .i64 k.dD, .int .i64 k.dL, .int .i64 k.dX, .int .i64 k.dY, .int .i64 k.a.x, .int .i64 k.a.y] 40) = V := ⟨_, rfl⟩
  obtain ⟨B0, hE, -⟩ := box1 w [.int .i64 k.kind, .slice ad k.n cap, .int .i64 k.e, .int .i64 k.cP, .int .i64 k.cA, .int .i64 k.cB, .int .i64 k.cN, .int .i64 k.cX, .int .i64 k.cY, .int .i64 k.q.x, .int .i64 k.q.y, .bool k.q.far, .int .i64 k.dP, .int .i64 k.dD, .int .i64 k.dL, .int .i64 k.dX, .int .i64 k.dY, .int .i64 k.a.x, .int .i64 k.a.y] 40 (w1 := V) (by rw [← hV]; exact Ext.refl _)
  have HA := hide B0
  have HE := hide hE
  clear B0 hE
  have hldA := run_loadKey [.int .i64 k.kind, .slice ad k.n cap, .int .i64 k.e, .int .i64 k.cP, .int .i64 k.cA, .int .i64 k.cB, .int .i64 k.cN, .int .i64 k.cX, .int .i64 k.cY, .int .i64 k.q.x, .int .i64 k.q.y, .bool k.q.far, .int .i64 k.dP, .int .i64 k.dD, .int .i64 k.dL, .int .i64 k.dX, .int .i64 k.dY, .int .i64 k.a.x, .int .i64 k.a.y] rfl w.heap.size _ (fun j v h => (HA.out j v h).1)
  have HV : Hid (sgV ok k.kind alg Bq = if ok = true ∧ k.kind = kdV alg then (if k.kind = 1 then (Bq + 7) / 8 else 6) else 0) := rfl
  generalize sgV ok k.kind alg Bq = R at *
  go_enter Tryz.func9, Tryz.ntmps9
  go_wp2_with (refine wpList_load_on (by first | rfl | simp [Region.wanted, yielded]) 40 _ rfl ⟨w.heap.size, 0, none⟩ rfl _ hldA ?_)
  refine (HK.out _ HE.out).mono ?_
  rintro e W1 ⟨rfl, HEW⟩
  replace HA := hide (Blk.ext HA.out HEW (World.block_lt_of_cell? _ _ (HA.out 0 _ rfl).1))
  replace HE := hide (Ext.trans HE.out HEW)
  have c0 := (HA.out 0 _ rfl).1
  have c1 := (HA.out 1 _ rfl).1
  clear HEW hldA HK
  cases ok
  · have HR : Hid (0 = R) := by show _ = _; rw [HV.out, if_neg (by simp)]
    go_wp2
    go_ret
    exact ⟨ret_int HR.out, HE.out⟩
  · have hd := Hd.out (by simp)
    by_cases hg : k.kind = kdV alg
    · have g0 : (k.kind == kdV alg) = true := by simp [hg]
      have g0' : (k.kind != kdV alg) = false := by simp [hg]
      have HR0 : Hid (R = if k.kind = 1 then (Bq + 7) / 8 else 6) := by show _ = _; rw [HV.out, if_pos ⟨rfl, hg⟩]
      have HG := hide hg
      clear HV hg
      by_cases h1 : k.kind = 1
      · obtain ⟨b0, b1⟩ := Hb.out (by simp) h1
        have hN := HN.out (by simp) h1
        have HN1 := hide hN
        have HR : Hid ((Bq + 7) / 8 = R) := by show _ = _; rw [HR0.out, if_pos h1]
        have g1 : (k.kind == 1) = true := by simp [h1]
        have w1 : wrap64 (Bq + 7) = Bq + 7 := by unfold wrap64; omega
        have m1 : Int.tdiv (Bq + 7) 8 = (Bq + 7) / 8 := by rw [Int.tdiv_eq_ediv_of_nonneg (by omega)]
        have w2 : wrap64 ((Bq + 7) / 8) = (Bq + 7) / 8 := by unfold wrap64; omega
        have hk0 : k.kind ≠ 0 := by omega
        have HGo := hide (fun w => l6Goes_any k.kind alg hk0 w)
        rw [g0] at HGo
        clear h1 hd hN HR0
        skip
        go_wp2_with (first | (go_at_call 34; refine (HGo.out _).mono ?_; rintro e W2 ⟨rfl, hw⟩; obtain rfl := hw.symm) | (go_at_call 35; refine (HN1.out _ HE.out).mono ?_; rintro e W2 ⟨rfl, hw⟩; obtain rfl := hw.symm))
        go_ret
        exact ⟨ret_int HR.out, HE.out⟩
      · have HR : Hid (6 = R) := by show _ = _; rw [HR0.out, if_neg h1]
        have g1 : (k.kind == 1) = false := by simp [h1]
        have HGo := hide (fun w => l6Goes_any k.kind alg (by omega) w)
        rw [g0] at HGo
        by_cases h2 : k.kind = 2
        · have g2 : (k.kind == 2) = true := by simp [h2]
          clear h1 h2 hd HR0
          skip
          go_wp2_with (go_at_call 34; refine (HGo.out _).mono ?_; rintro e W2 ⟨rfl, hw⟩; obtain rfl := hw.symm)
          go_ret
          exact ⟨ret_int HR.out, HE.out⟩
        · have g2 : (k.kind == 2) = false := by simp [h2]
          clear h1 h2 hd HR0
          skip
          go_wp2_with (go_at_call 34; refine (HGo.out _).mono ?_; rintro e W2 ⟨rfl, hw⟩; obtain rfl := hw.symm)
          go_ret
          exact ⟨ret_int HR.out, HE.out⟩
    · have g0 : (k.kind == kdV alg) = false := by simp [hg]
      have g0' : (k.kind != kdV alg) = true := by simp [hg]
      have HR : Hid (0 = R) := by show _ = _; rw [HV.out, if_neg (fun h => hg h.2)]
      have HGo := hide (fun w => l6Goes_any k.kind alg (by omega) w)
      rw [g0] at HGo
      clear hg hd HV
      skip
      go_wp2_with (go_at_call 34; refine (HGo.out _).mono ?_; rintro e W2 ⟨rfl, hw⟩; obtain rfl := hw.symm)
      go_ret
      exact ⟨ret_int HR.out, HE.out⟩

end Go.Proofs.YtdaneanloknkpacGreatDoor
