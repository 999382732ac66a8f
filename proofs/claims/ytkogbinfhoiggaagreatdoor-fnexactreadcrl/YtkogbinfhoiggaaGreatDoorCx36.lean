/- Walks: CrlOk of both (written by mkcrl.py). -/
import Derived.Test.YtkogbinfhoiggaaGreatDoorCx35
namespace Go.Proofs.YtkogbinfhoiggaaGreatDoor
set_option linter.unusedVariables false
set_option linter.unusedSimpArgs false
set_option maxRecDepth 100000
open Go.RowKit
def lvB (c : Cl) : Bool := decide (c.nv ≤ 20) && allB (fun i => inB (c.fv i) 1 1000000000000000) c.nv
def clB (c : Cl) : Bool := (nmB c.ni c.fi && (tsB c.fr c.to && (slB c.alg c.ng && (lvB c && allB (upB c.fv) c.nv))))
theorem cl_impl (c : Cl) : clB c = (nmB c.ni c.fi && (tsB c.fr c.to && (slB c.alg c.ng && (lvB c && allB (upB c.fv) c.nv)))) := rfl
theorem cl_spec (c : Cl) : clB c = (allB (fun i => inB (c.fv i) 1 1000000000000000 && upB c.fv i) c.nv && (nmB c.ni c.fi && (tmB c.fr && (tmB c.to && (decide (c.fr ≤ c.to) && (inB c.alg 1 4 && (decide (c.nv ≤ 20) && inB (c.ng : Int) 1 64))))))) := by
 unfold clB tsB slB lvB
 rw [allB_and]
 generalize nmB c.ni c.fi = q1
 generalize tmB c.fr = q3
 generalize tmB c.to = q4
 generalize decide (c.fr ≤ c.to) = q5
 generalize inB c.alg 1 4 = q6
 generalize inB (c.ng : Int) 1 64 = q7
 generalize decide (c.nv ≤ 20) = q8
 generalize allB (fun i => inB (c.fv i) 1 1000000000000000) c.nv = q9
 generalize allB (upB c.fv) c.nv = q10
 cases q1 <;> cases q3 <;> cases q4 <;> cases q5 <;> cases q6 <;> simp <;> cases q7 <;> cases q8 <;> cases q9 <;> cases q10 <;> rfl
set_option maxHeartbeats 12800000 in
theorem implCrlOk_at (c : Cl) (m : ClPl) (w : World) (hI : ClIn w c m) (hS : ClSm c 1048576) :
  Calls Tryz.prog 56 #[.agg (clL c m).toArray] w fun e w' => e = .returned (.bool (clB c)) ∧ Ext w w' := by
 obtain ⟨V, hV⟩ : ∃ V, w.alloc (.cells (clL c m).toArray 26) = V := ⟨_, rfl⟩
 obtain ⟨B0, hE, hl⟩ := box1 w (clL c m) 26 (w1 := V) (by rw [← hV]; exact Ext.refl _)
 have HB := hide B0
 have HE := hide hE
 have HX : Hid (Ext V V) := hide (Ext.refl _)
 have HIv := hide (hI.v.of_all hE)
 have hv1 := hS.v
 have H0 : Hid (∀ W, Ext V W → Calls Tryz.prog 90 #[.slice m.i.ad c.ni m.i.cap] W fun e w' => e = .returned (.bool (nmB c.ni c.fi)) ∧ Ext W w') := fun W hW => nameOk_any m.i c.ni c.fi W (hI.i.of_all (Ext.trans hE hW)) hS.i hS.is
 have H1 : Hid (∀ W, Ext V W → Calls Tryz.prog 91 #[.int .i64 c.fr, .int .i64 c.to] W fun e w' => e = .returned (.bool (tsB c.fr c.to)) ∧ Ext W w') := fun W hW => timesOk_any c.fr c.to W
 have H2 : Hid (∀ W, Ext V W → Calls Tryz.prog 92 #[.int .i64 c.alg, .slice m.g.ad c.ng m.g.cap] W fun e w' => e = .returned (.bool (slB c.alg c.ng)) ∧ Ext W w') := fun W hW => sealOk_any c.alg m.g.ad c.ng m.g.cap W
 have H3 : Hid (∀ W, Ext V W → Calls Tryz.prog 93 #[.slice m.v.ad c.nv m.v.cap, .int .i64 20, .func (.func 94) #[] #[]] W fun e w' => e = .returned (.bool (lvB c)) ∧ Ext W w') := fun W hW => aokI_any 94 (fun _ _ => by kernel_rfl) (fun i => inB (c.fv i) 1 1000000000000000) 20 m.v.ad m.v.b m.v.off c.nv m.v.cap _ W ((hI.v.of_all (Ext.trans hE hW)).v) hS.v (by omega) (hide fun i hi W2 _ => serialOk_any (c.fv i) W2)
 have H4 : Hid (∀ W, Ext V W → Calls Tryz.prog 95 #[.slice m.v.ad c.nv m.v.cap] W fun e w' => e = .returned (.bool (allB (upB c.fv) c.nv)) ∧ Ext W w') := fun W hW => isRising_any m.v c.nv c.fv W (hI.v.of_all (Ext.trans hE hW)) hS.v
 have HV := hide (cl_impl c)
 obtain ⟨R, hR⟩ : ∃ R, clB c = R := ⟨_, rfl⟩
 rw [hR] at HV ⊢
 clear hR B0 hE hl hI hS
 obtain ⟨q0, hq0⟩ : ∃ q, nmB c.ni c.fi = q := ⟨_, rfl⟩
 rw [hq0] at HV H0
 clear hq0
 obtain ⟨q1, hq1⟩ : ∃ q, tsB c.fr c.to = q := ⟨_, rfl⟩
 rw [hq1] at HV H1
 clear hq1
 obtain ⟨q2, hq2⟩ : ∃ q, slB c.alg c.ng = q := ⟨_, rfl⟩
 rw [hq2] at HV H2
 clear hq2
 obtain ⟨q3, hq3⟩ : ∃ q, lvB c = q := ⟨_, rfl⟩
 rw [hq3] at HV H3
 clear hq3
 obtain ⟨q4, hq4⟩ : ∃ q, allB (upB c.fv) c.nv = q := ⟨_, rfl⟩
 rw [hq4] at HV H4
 clear hq4
 go_enter Tryz.func56, Tryz.ntmps56
 have c0 := (HB.out 0 _ rfl).1
 go_wp2_with fail
 refine (H0.out _ HX.out).mono ?_
 rintro e w0 ⟨rfl, hE0⟩
 replace HB := hide (Blk.ext HB.out hE0 (Blk.lt HB.out (by simp [clL])))
 replace HX := hide (Ext.trans HX.out hE0)
 clear hE0 H0 c0
 cases q0
 ·go_wp2
  go_ret
  exact ⟨ret_bool (by rw [HV.out]; simp), Ext.trans HE.out HX.out⟩
 have c1 := (HB.out 1 _ rfl).1
 have c2 := (HB.out 2 _ rfl).1
 go_wp2_with fail
 refine (H1.out _ HX.out).mono ?_
 rintro e w1 ⟨rfl, hE1⟩
 replace HB := hide (Blk.ext HB.out hE1 (Blk.lt HB.out (by simp [clL])))
 replace HX := hide (Ext.trans HX.out hE1)
 clear hE1 H1 c1 c2
 cases q1
 ·go_wp2
  go_ret
  exact ⟨ret_bool (by rw [HV.out]; simp), Ext.trans HE.out HX.out⟩
 have c3 := (HB.out 3 _ rfl).1
 have c5 := (HB.out 5 _ rfl).1
 go_wp2_with fail
 refine (H2.out _ HX.out).mono ?_
 rintro e w2 ⟨rfl, hE2⟩
 replace HB := hide (Blk.ext HB.out hE2 (Blk.lt HB.out (by simp [clL])))
 replace HX := hide (Ext.trans HX.out hE2)
 clear hE2 H2 c3 c5
 cases q2
 ·go_wp2
  go_ret
  exact ⟨ret_bool (by rw [HV.out]; simp), Ext.trans HE.out HX.out⟩
 have c4 := (HB.out 4 _ rfl).1
 go_wp2_with fail
 refine (H3.out _ HX.out).mono ?_
 rintro e w3 ⟨rfl, hE3⟩
 replace HB := hide (Blk.ext HB.out hE3 (Blk.lt HB.out (by simp [clL])))
 replace HX := hide (Ext.trans HX.out hE3)
 clear hE3 H3 c4
 cases q3
 ·go_wp2
  go_ret
  exact ⟨ret_bool (by rw [HV.out]; simp), Ext.trans HE.out HX.out⟩
 have c4 := (HB.out 4 _ rfl).1
 go_wp2_with fail
 refine (H4.out _ HX.out).mono ?_
 rintro e w4 ⟨rfl, hE4⟩
 replace HB := hide (Blk.ext HB.out hE4 (Blk.lt HB.out (by simp [clL])))
 replace HX := hide (Ext.trans HX.out hE4)
 clear hE4 H4 c4
 go_wp2
 go_ret
 exact ⟨ret_bool (by rw [HV.out]; simp), Ext.trans HE.out HX.out⟩
set_option maxHeartbeats 12800000 in
theorem specCrlOk_at (c : Cl) (m : ClPl) (w : World) (hI : ClIn w c m) (hS : ClSm c 1048576) :
  Calls Tryz.prog 41 #[.agg (clL c m).toArray] w fun e w' => e = .returned (.bool (clB c)) ∧ Ext w w' := by
 obtain ⟨V, hV⟩ : ∃ V, w.alloc (.cells (clL c m).toArray 26) = V := ⟨_, rfl⟩
 obtain ⟨B0, hE, hl⟩ := box1 w (clL c m) 26 (w1 := V) (by rw [← hV]; exact Ext.refl _)
 have HB := hide B0
 have HE := hide hE
 have HX : Hid (Ext V V) := hide (Ext.refl _)
 have HIv := hide (hI.v.of_all hE)
 have hv1 := hS.v
 have H0 : Hid (∀ W, Ext V W → Calls Tryz.prog 68 #[.slice m.i.ad c.ni m.i.cap] W fun e w' => e = .returned (.bool (nmB c.ni c.fi)) ∧ Ext W w') := fun W hW => l10Name_any m.i c.ni c.fi W (hI.i.of_all (Ext.trans hE hW)) hS.i hS.is
 have H1 : Hid (∀ W, Ext V W → Calls Tryz.prog 69 #[.int .i64 c.fr] W fun e w' => e = .returned (.bool (tmB c.fr)) ∧ Ext W w') := fun W hW => (l9OkB c.fr W).mono fun e w' ⟨h1, h2⟩ => ⟨h1, h2 ▸ Ext.refl _⟩
 have H2 : Hid (∀ W, Ext V W → Calls Tryz.prog 69 #[.int .i64 c.to] W fun e w' => e = .returned (.bool (tmB c.to)) ∧ Ext W w') := fun W hW => (l9OkB c.to W).mono fun e w' ⟨h1, h2⟩ => ⟨h1, h2 ▸ Ext.refl _⟩
 have H4 : Hid (∀ W, Ext V W → Calls Tryz.prog 64 #[.int .i64 c.alg, .int .i64 1, .int .i64 4] W fun e w' => e = .returned (.bool (inB c.alg 1 4)) ∧ Ext W w') := fun W hW => (l1InB c.alg 1 4 W).mono fun e w' ⟨h1, h2⟩ => ⟨h1, h2 ▸ Ext.refl _⟩
 have H5 : Hid (∀ W, Ext V W → Calls Tryz.prog 64 #[.int .i64 (c.ng : Int), .int .i64 1, .int .i64 64] W fun e w' => e = .returned (.bool (inB (c.ng : Int) 1 64)) ∧ Ext W w') := fun W hW => (l1InB (c.ng : Int) 1 64 W).mono fun e w' ⟨h1, h2⟩ => ⟨h1, h2 ▸ Ext.refl _⟩
 have HV := hide (cl_spec c)
 obtain ⟨R, hR⟩ : ∃ R, clB c = R := ⟨_, rfl⟩
 rw [hR] at HV ⊢
 clear hR B0 hE hl hI hS
 obtain ⟨q0, hq0⟩ : ∃ q, nmB c.ni c.fi = q := ⟨_, rfl⟩
 rw [hq0] at HV H0
 clear hq0
 obtain ⟨q1, hq1⟩ : ∃ q, tmB c.fr = q := ⟨_, rfl⟩
 rw [hq1] at HV H1
 clear hq1
 obtain ⟨q2, hq2⟩ : ∃ q, tmB c.to = q := ⟨_, rfl⟩
 rw [hq2] at HV H2
 clear hq2
 obtain ⟨q3, hq3⟩ : ∃ q, decide (c.fr ≤ c.to) = q := ⟨_, rfl⟩
 rw [hq3] at HV
 obtain ⟨q4, hq4⟩ : ∃ q, inB c.alg 1 4 = q := ⟨_, rfl⟩
 rw [hq4] at HV H4
 clear hq4
 obtain ⟨q5, hq5⟩ : ∃ q, inB (c.ng : Int) 1 64 = q := ⟨_, rfl⟩
 rw [hq5] at HV H5
 clear hq5
 go_enter Tryz.func41, Tryz.ntmps41
 have HL0 := hide (Blk.lt HB.out (by simp [clL]))
 go_wp2
 go_loopw [3] (fun i wr => ∃ k : Nat, k ≤ c.nv ∧ i = .int .i64 (k : Int) ∧ (∀ j, j < k → (inB (c.fv j) 1 1000000000000000 && upB c.fv j) = true) ∧ Ext V wr) (fun i _ => c.nv - (intOf i).toNat)
 case atStart => exact ⟨0, Nat.zero_le _, rfl, fun j hj => absurd hj (Nat.not_lt_zero _), Ext.refl _⟩
 case round =>
  obtain ⟨k, hk, rfl, hd, hZ⟩ := hrel
  have HD2 := hide hd
  have HZ := hide hZ
  clear hd
  have c7 := ((Blk.ext HB.out hZ HL0.out) 4 _ rfl).1
  by_cases hlt : k < c.nv
  ·have hA := HIv.out.of_all hZ
   have cc := hA.cell k hlt
   have hat := hA.at' (by omega)
   rw [hat] at c7
   have hkn : (k : Int) < (c.nv : Int) := by omega
   have k7 := cell_regrown c7
   have kc := cell_regrown cc
   obtain ⟨q, hq⟩ : ∃ q, inB (c.fv k) 1 1000000000000000 = q := ⟨_, rfl⟩
   have HC : Hid (∀ d os, Calls Tryz.prog 64 #[.int .i64 (c.fv k), .int .i64 1, .int .i64 1000000000000000] (Sort.grow (redrawn wr d) os) fun e w'' => e = .returned (.bool q) ∧ ∃ p : Regrown, w'' = Sort.grow (redrawn wr p.d) p.os) := fun d os => by
    rw [← hq]
    exact Calls.regrown_of ((l1InB (c.fv k) 1 1000000000000000 _).mono fun e w' ⟨h1, h2⟩ => ⟨h1, h2 ▸ Ext.refl _⟩)
   have Hq := hide hq
   have HA := hide hA
   clear hq hat hZ hA
   cases q
   ·go_wp2_with fail
    refine wp_region_quiet_below (by kernel_rfl) (by kernel_rfl) ?_
    repeat (first | go_big_quiet_step (first | (go_at_call 64; exact HC.out _ _)) | quiet_step (first | (go_at_call 64; exact HC.out _ _)))
    refine wpQuiet_nil ?_
    intro _ hw'
    obtain ⟨⟨dq, osq⟩, hw''⟩ := hw'
    subst hw''
    have HE1 : Hid (Ext wr (Sort.grow (redrawn wr dq) osq)) := hide (below_regrown wr dq osq)
    go_wp2
    go_ret
    exact ⟨ret_bool (by rw [HV.out, allB_no hlt (by rw [Hq.out]; rfl)]; rfl), Ext.trans HE.out (Ext.trans HZ.out HE1.out)⟩
   ·by_cases hk0 : k = 0
    ·have Hk0 := hide hk0
     have g0 : decide ((0 : Int) < (k : Int)) = false := decide_eq_false (by omega)
     have g0n : decide (0 < k) = false := decide_eq_false (by omega)
     have g0p : ¬ 0 < k := by omega
     clear hk0
     go_wp2_with fail
     refine wp_region_quiet_below (by kernel_rfl) (by kernel_rfl) ?_
     repeat (first | go_big_quiet_step (first | (go_at_call 64; exact HC.out _ _)) | quiet_step (first | (go_at_call 64; exact HC.out _ _)))
     refine wpQuiet_nil ?_
     intro _ hw'
     obtain ⟨⟨dq, osq⟩, hw''⟩ := hw'
     subst hw''
     have HE1 : Hid (Ext wr (Sort.grow (redrawn wr dq) osq)) := hide (below_regrown wr dq osq)
     go_wp2
     go_roundw
     case rel => exact ⟨k + 1, by omega, by go_num, fun j hj => by
            by_cases e : j = k
            ·subst e; rw [Hq.out, Hk0.out]; rfl
            ·exact HD2.out j (by omega), Ext.trans HZ.out HE1.out⟩
     case measure => simp [intOf]; omega
    ·obtain ⟨m', rfl⟩ : ∃ m', k = m' + 1 := ⟨k - 1, by omega⟩
     have g0 : decide ((0 : Int) < ((m' : Int) + 1)) = true := decide_eq_true (by omega)
     have cm := HA.out.cell m' (by omega)
     have km := cell_regrown cm
     have hm1 : (m' : Int) < (c.nv : Int) := by omega
     have hw1 : wrap64 ((m' : Int) + 1 - 1) = m' := by unfold wrap64; omega
     have hw2 : IntKind.i64.wrap ((m' : Int) + 1 - 1) = m' := by rw [IntKind.wrap_i64]; omega
     have Hup : Hid (upB c.fv (m' + 1) = decide (c.fv m' < c.fv (m' + 1))) := hide (by unfold upB; simp)
     clear hk0
     obtain ⟨r, hr⟩ : ∃ r, decide (c.fv (m' + 1) ≤ c.fv m') = r := ⟨_, rfl⟩
     have Hr : Hid (upB c.fv (m' + 1) = !r) := hide (by
      rw [Hup.out, ← hr]
      by_cases e : c.fv m' < c.fv (m' + 1)
      ·rw [decide_eq_true e, decide_eq_false (by omega)]; rfl
      ·rw [decide_eq_false e, decide_eq_true (by omega)]; rfl)
     clear Hup
     go_wp2_with fail
     refine wp_region_quiet_below (by kernel_rfl) (by kernel_rfl) ?_
     repeat (first | go_big_quiet_step (first | (go_at_call 64; exact HC.out _ _)) | quiet_step (first | (go_at_call 64; exact HC.out _ _)))
     refine wpQuiet_nil ?_
     intro _ hw'
     obtain ⟨⟨dq, osq⟩, hw''⟩ := hw'
     subst hw''
     have HE1 : Hid (Ext wr (Sort.grow (redrawn wr dq) osq)) := hide (below_regrown wr dq osq)
     cases r
     ·go_wp2
      go_roundw
      case rel => exact ⟨m' + 1 + 1, by omega, by go_num, fun j hj => by
             by_cases e : j = m' + 1
             ·subst e; rw [Hq.out, Hr.out]; rfl
             ·exact HD2.out j (by omega), Ext.trans HZ.out HE1.out⟩
      case measure => simp [intOf]; omega
     ·go_wp2
      go_ret
      exact ⟨ret_bool (by rw [HV.out, allB_no hlt (by rw [Hr.out, Bool.not_true, Bool.and_false])]; rfl), Ext.trans HE.out (Ext.trans HZ.out HE1.out)⟩
  ·obtain rfl : k = c.nv := by omega
   rw [allB_yes HD2.out, Bool.true_and] at HV
   replace HB := hide (Blk.ext HB.out hZ HL0.out)
   replace HX := hide hZ
   clear hZ c7 HL0
   have c4 := (HB.out 4 _ rfl).1
   have c0 := (HB.out 0 _ rfl).1
   go_wp2_with fail
   refine (H0.out _ HX.out).mono ?_
   rintro e w0 ⟨rfl, hE0⟩
   replace HB := hide (Blk.ext HB.out hE0 (Blk.lt HB.out (by simp [clL])))
   replace HX := hide (Ext.trans HX.out hE0)
   clear hE0 H0 c0 c4
   cases q0
   ·go_wp2
    go_ret
    exact ⟨ret_bool (by rw [HV.out]; simp), Ext.trans HE.out HX.out⟩
   have c1 := (HB.out 1 _ rfl).1
   go_wp2_with fail
   refine (H1.out _ HX.out).mono ?_
   rintro e w1 ⟨rfl, hE1⟩
   replace HB := hide (Blk.ext HB.out hE1 (Blk.lt HB.out (by simp [clL])))
   replace HX := hide (Ext.trans HX.out hE1)
   clear hE1 H1 c1
   cases q1
   ·go_wp2
    go_ret
    exact ⟨ret_bool (by rw [HV.out]; simp), Ext.trans HE.out HX.out⟩
   have c2 := (HB.out 2 _ rfl).1
   go_wp2_with fail
   refine (H2.out _ HX.out).mono ?_
   rintro e w2 ⟨rfl, hE2⟩
   replace HB := hide (Blk.ext HB.out hE2 (Blk.lt HB.out (by simp [clL])))
   replace HX := hide (Ext.trans HX.out hE2)
   clear hE2 H2 c2
   cases q2
   ·clear hq3
    go_wp2
    go_ret
    exact ⟨ret_bool (by rw [HV.out]; simp), Ext.trans HE.out HX.out⟩
   have c3 := (HB.out 3 _ rfl).1
   have c1 := (HB.out 1 _ rfl).1
   have c2 := (HB.out 2 _ rfl).1
   cases q3
   ·go_wp2
    go_ret
    exact ⟨ret_bool (by rw [HV.out]; simp), Ext.trans HE.out HX.out⟩
   go_wp2_with fail
   refine (H4.out _ HX.out).mono ?_
   rintro e w4 ⟨rfl, hE4⟩
   replace HB := hide (Blk.ext HB.out hE4 (Blk.lt HB.out (by simp [clL])))
   replace HX := hide (Ext.trans HX.out hE4)
   clear hE4 H4 c3 c1 c2 hq3
   cases q4
   ·go_wp2
    go_ret
    exact ⟨ret_bool (by rw [HV.out]; simp), Ext.trans HE.out HX.out⟩
   have c5 := (HB.out 5 _ rfl).1
   have c4 := (HB.out 4 _ rfl).1
   by_cases h20 : c.nv ≤ 20
   case neg =>
    have g20 : (20 : Int) < (c.nv : Int) := by omega
    have g21 : ¬ (c.nv : Int) ≤ 20 := by omega
    rw [decide_eq_false h20] at HV
    clear h20
    go_wp2
    go_ret
    exact ⟨ret_bool (by rw [HV.out]; simp), Ext.trans HE.out HX.out⟩
   have g21 : (c.nv : Int) ≤ 20 := by omega
   rw [decide_eq_true h20] at HV
   clear h20
   go_wp2_with fail
   refine (H5.out _ HX.out).mono ?_
   rintro e w5 ⟨rfl, hE5⟩
   replace HB := hide (Blk.ext HB.out hE5 (Blk.lt HB.out (by simp [clL])))
   replace HX := hide (Ext.trans HX.out hE5)
   clear hE5 H5 c5 c4 g21
   go_wp2
   go_ret
   exact ⟨ret_bool (by rw [HV.out]; simp), Ext.trans HE.out HX.out⟩
end Go.Proofs.YtkogbinfhoiggaaGreatDoor
