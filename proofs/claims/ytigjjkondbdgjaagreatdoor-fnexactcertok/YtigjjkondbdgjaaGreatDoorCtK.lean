/- Walks: CertOk of both (written by mkcrt.py). -/
import Derived.Test.YtigjjkondbdgjaaGreatDoorCrt
import Derived.Test.YtigjjkondbdgjaaGreatDoorCtX
import Derived.Test.YtigjjkondbdgjaaGreatDoorKyT
namespace Go.Proofs.YtigjjkondbdgjaaGreatDoor
set_option linter.unusedVariables false
set_option linter.unusedSimpArgs false
set_option maxRecDepth 100000
open Go.RowKit

/-- What is asked of a certificate; ok tells whether its key is right. -/
def ctB (c : Ct) (ok : Bool) : Bool := (inB c.serial 1 1000000000000000 && (nmB c.ni c.fi && (nmB c.ns c.fs && (tmB c.fr && (tmB c.to && (decide (c.fr ≤ c.to) && (inB c.alg 1 4 && (inB (c.ng : Int) 1 64 && (exB c.x && ok)))))))))

theorem ct_impl (c : Ct) (ok : Bool) : ctB c ok = (inB c.serial 1 1000000000000000 && (nmB c.ni c.fi && (nmB c.ns c.fs && (tmB c.fr && (tmB c.to && (decide (c.fr ≤ c.to) && (inB c.alg 1 4 && (inB (c.ng : Int) 1 64 && (exB c.x && ok))))))))) := rfl

theorem ct_spec (c : Ct) (ok : Bool) : ctB c ok = (inB c.serial 1 1000000000000000 && (nmB c.ni c.fi && (nmB c.ns c.fs && (tmB c.fr && (tmB c.to && (decide (c.fr ≤ c.to) && (ok && (inB c.alg 1 4 && (exB c.x && inB (c.ng : Int) 1 64))))))))) := by
  unfold ctB
  generalize inB c.serial 1 1000000000000000 = q0
  generalize nmB c.ni c.fi = q1
  generalize nmB c.ns c.fs = q2
  generalize tmB c.fr = q3
  generalize tmB c.to = q4
  generalize decide (c.fr ≤ c.to) = q5
  generalize inB c.alg 1 4 = q6
  generalize inB (c.ng : Int) 1 64 = q7
  generalize exB c.x = q8
  congr 6
  cases q6 <;> cases q7 <;> cases q8 <;> cases ok <;> rfl

set_option maxHeartbeats 12800000 in
theorem implCertOk_at (c : Ct) (m : CtPl) (ok : Bool) (hk : ok = true ↔ KeyP c.k) (w : World) (hI : CtIn w c m) (hS : CtSm c 1048576) (hK : KyIn c.k) :
    Calls Tryz.prog 9 #[.agg (ctL c m).toArray] w fun e w' => e = .returned (.bool (ctB c ok)) ∧ Ext w w' := by
  obtain ⟨V, hV⟩ : ∃ V, w.alloc (.cells (ctL c m).toArray 50) = V := ⟨_, rfl⟩
  obtain ⟨B0, hE, hl⟩ := box1 w (ctL c m) 50 (w1 := V) (by rw [← hV]; exact Ext.refl _)
  have HB := hide B0
  have HE := hide hE
  have HX : Hid (Ext V V) := hide (Ext.refl _)
  have H0 : Hid (∀ W, Ext V W → Calls Tryz.prog 31 #[.int .i64 c.serial, .int .i64 1, .int .i64 1000000000000000] W fun e w' => e = .returned (.bool (inB c.serial 1 1000000000000000)) ∧ Ext W w') := fun W hW => (inRange_any c.serial 1 1000000000000000 W).mono fun e w' ⟨h1, h2⟩ => ⟨h1, h2 ▸ Ext.refl _⟩
  have H1 : Hid (∀ W, Ext V W → Calls Tryz.prog 32 #[.slice m.i.ad c.ni m.i.cap] W fun e w' => e = .returned (.bool (nmB c.ni c.fi)) ∧ Ext W w') := fun W hW => nameOk_any m.i c.ni c.fi W (hI.i.of_all (Ext.trans hE hW)) hS.i hS.is
  have H2 : Hid (∀ W, Ext V W → Calls Tryz.prog 32 #[.slice m.s.ad c.ns m.s.cap] W fun e w' => e = .returned (.bool (nmB c.ns c.fs)) ∧ Ext W w') := fun W hW => nameOk_any m.s c.ns c.fs W (hI.s.of_all (Ext.trans hE hW)) hS.s hS.ss
  have H3 : Hid (∀ W, Ext V W → Calls Tryz.prog 33 #[.int .i64 c.fr] W fun e w' => e = .returned (.bool (tmB c.fr)) ∧ Ext W w') := fun W hW => (isTimeB c.fr W).mono fun e w' ⟨h1, h2⟩ => ⟨h1, h2 ▸ Ext.refl _⟩
  have H4 : Hid (∀ W, Ext V W → Calls Tryz.prog 33 #[.int .i64 c.to] W fun e w' => e = .returned (.bool (tmB c.to)) ∧ Ext W w') := fun W hW => (isTimeB c.to W).mono fun e w' ⟨h1, h2⟩ => ⟨h1, h2 ▸ Ext.refl _⟩
  have H6 : Hid (∀ W, Ext V W → Calls Tryz.prog 31 #[.int .i64 c.alg, .int .i64 1, .int .i64 4] W fun e w' => e = .returned (.bool (inB c.alg 1 4)) ∧ Ext W w') := fun W hW => (inRange_any c.alg 1 4 W).mono fun e w' ⟨h1, h2⟩ => ⟨h1, h2 ▸ Ext.refl _⟩
  have H7 : Hid (∀ W, Ext V W → Calls Tryz.prog 31 #[.int .i64 (c.ng : Int), .int .i64 1, .int .i64 64] W fun e w' => e = .returned (.bool (inB (c.ng : Int) 1 64)) ∧ Ext W w') := fun W hW => (inRange_any (c.ng : Int) 1 64 W).mono fun e w' ⟨h1, h2⟩ => ⟨h1, h2 ▸ Ext.refl _⟩
  have H8 : Hid (∀ W, Ext V W → Calls Tryz.prog 34 #[.agg (exL c.x m.x).toArray] W fun e w' => e = .returned (.bool (exB c.x)) ∧ Ext W w') := fun W hW => extsOk_at c.x m.x W (hI.x.ext (Ext.trans hE hW)) hS.x
  have H9 : Hid (∀ W, Ext V W → Calls Tryz.prog 35 #[.agg (kyL c.k m.k).toArray] W fun e w' => e = .returned (.bool (ok)) ∧ Ext W w') := fun W hW => implKeyOk_at c.k m.k.ad m.k.b m.k.off m.k.cap ok hk W (hI.k.of_all (Ext.trans hE hW)) hK
  have HV := hide (ct_impl c ok)
  obtain ⟨R, hR⟩ : ∃ R, ctB c ok = R := ⟨_, rfl⟩
  rw [hR] at HV ⊢
  clear hR B0 hE hl hI hS hK hk
  obtain ⟨q0, hq0⟩ : ∃ q, inB c.serial 1 1000000000000000 = q := ⟨_, rfl⟩
  rw [hq0] at HV H0
  clear hq0
  obtain ⟨q1, hq1⟩ : ∃ q, nmB c.ni c.fi = q := ⟨_, rfl⟩
  rw [hq1] at HV H1
  clear hq1
  obtain ⟨q2, hq2⟩ : ∃ q, nmB c.ns c.fs = q := ⟨_, rfl⟩
  rw [hq2] at HV H2
  clear hq2
  obtain ⟨q3, hq3⟩ : ∃ q, tmB c.fr = q := ⟨_, rfl⟩
  rw [hq3] at HV H3
  clear hq3
  obtain ⟨q4, hq4⟩ : ∃ q, tmB c.to = q := ⟨_, rfl⟩
  rw [hq4] at HV H4
  clear hq4
  obtain ⟨q5, hq5⟩ : ∃ q, decide (c.fr ≤ c.to) = q := ⟨_, rfl⟩
  rw [hq5] at HV
  obtain ⟨q6, hq6⟩ : ∃ q, inB c.alg 1 4 = q := ⟨_, rfl⟩
  rw [hq6] at HV H6
  clear hq6
  obtain ⟨q7, hq7⟩ : ∃ q, inB (c.ng : Int) 1 64 = q := ⟨_, rfl⟩
  rw [hq7] at HV H7
  clear hq7
  obtain ⟨q8, hq8⟩ : ∃ q, exB c.x = q := ⟨_, rfl⟩
  rw [hq8] at HV H8
  clear hq8
  obtain ⟨q9, hq9⟩ : ∃ q, ok = q := ⟨_, rfl⟩
  rw [hq9] at HV H9
  clear hq9
  go_enter Tryz.func9, Tryz.ntmps9
  have c0 := (HB.out 0 _ rfl).1
  go_wp2_with fail
  refine (H0.out _ HX.out).mono ?_
  rintro e w0 ⟨rfl, hE0⟩
  replace HB := hide (Blk.ext HB.out hE0 (Blk.lt HB.out (by simp [ctL])))
  replace HX := hide (Ext.trans HX.out hE0)
  clear hE0 H0 c0
  cases q0
  · go_wp2
    go_ret
    exact ⟨ret_bool (by rw [HV.out]; simp), Ext.trans HE.out HX.out⟩
  have c1 := (HB.out 1 _ rfl).1
  go_wp2_with fail
  refine (H1.out _ HX.out).mono ?_
  rintro e w1 ⟨rfl, hE1⟩
  replace HB := hide (Blk.ext HB.out hE1 (Blk.lt HB.out (by simp [ctL])))
  replace HX := hide (Ext.trans HX.out hE1)
  clear hE1 H1 c1
  cases q1
  · go_wp2
    go_ret
    exact ⟨ret_bool (by rw [HV.out]; simp), Ext.trans HE.out HX.out⟩
  have c2 := (HB.out 2 _ rfl).1
  go_wp2_with fail
  refine (H2.out _ HX.out).mono ?_
  rintro e w2 ⟨rfl, hE2⟩
  replace HB := hide (Blk.ext HB.out hE2 (Blk.lt HB.out (by simp [ctL])))
  replace HX := hide (Ext.trans HX.out hE2)
  clear hE2 H2 c2
  cases q2
  · go_wp2
    go_ret
    exact ⟨ret_bool (by rw [HV.out]; simp), Ext.trans HE.out HX.out⟩
  have c3 := (HB.out 3 _ rfl).1
  go_wp2_with fail
  refine (H3.out _ HX.out).mono ?_
  rintro e w3 ⟨rfl, hE3⟩
  replace HB := hide (Blk.ext HB.out hE3 (Blk.lt HB.out (by simp [ctL])))
  replace HX := hide (Ext.trans HX.out hE3)
  clear hE3 H3 c3
  cases q3
  · go_wp2
    go_ret
    exact ⟨ret_bool (by rw [HV.out]; simp), Ext.trans HE.out HX.out⟩
  have c4 := (HB.out 4 _ rfl).1
  go_wp2_with fail
  refine (H4.out _ HX.out).mono ?_
  rintro e w4 ⟨rfl, hE4⟩
  replace HB := hide (Blk.ext HB.out hE4 (Blk.lt HB.out (by simp [ctL])))
  replace HX := hide (Ext.trans HX.out hE4)
  clear hE4 H4 c4
  cases q4
  · clear hq5
    go_wp2
    go_ret
    exact ⟨ret_bool (by rw [HV.out]; simp), Ext.trans HE.out HX.out⟩
  have c24 := (HB.out 24 _ rfl).1
  have c3 := (HB.out 3 _ rfl).1
  have c4 := (HB.out 4 _ rfl).1
  cases q5
  · go_wp2
    go_ret
    exact ⟨ret_bool (by rw [HV.out]; simp), Ext.trans HE.out HX.out⟩
  go_wp2_with fail
  refine (H6.out _ HX.out).mono ?_
  rintro e w6 ⟨rfl, hE6⟩
  replace HB := hide (Blk.ext HB.out hE6 (Blk.lt HB.out (by simp [ctL])))
  replace HX := hide (Ext.trans HX.out hE6)
  clear hE6 H6 c24 c3 c4 hq5
  cases q6
  · go_wp2
    go_ret
    exact ⟨ret_bool (by rw [HV.out]; simp), Ext.trans HE.out HX.out⟩
  have c33 := (HB.out 33 _ rfl).1
  go_wp2_with fail
  refine (H7.out _ HX.out).mono ?_
  rintro e w7 ⟨rfl, hE7⟩
  replace HB := hide (Blk.ext HB.out hE7 (Blk.lt HB.out (by simp [ctL])))
  replace HX := hide (Ext.trans HX.out hE7)
  clear hE7 H7 c33
  cases q7
  · go_wp2
    go_ret
    exact ⟨ret_bool (by rw [HV.out]; simp), Ext.trans HE.out HX.out⟩
  have hld := run_ld (P := Tryz.prog) 48 (exL c.x m.x) w7 (by kernel_rfl) (by kernel_rfl) w.heap.size 25 (Blk.ld HB.out 25 _ (fun j v h => sub_ex c m j v h))
  go_wp2_with (refine wpList_ld (by first | rfl | simp [Region.wanted, yielded]) 48 _ rfl _ rfl _ hld ?_)
  refine (H8.out _ HX.out).mono ?_
  rintro e w8 ⟨rfl, hE8⟩
  replace HB := hide (Blk.ext HB.out hE8 (Blk.lt HB.out (by simp [ctL])))
  replace HX := hide (Ext.trans HX.out hE8)
  clear hE8 H8 hld
  cases q8
  · go_wp2
    go_ret
    exact ⟨ret_bool (by rw [HV.out]; simp), Ext.trans HE.out HX.out⟩
  have hld := run_ld (P := Tryz.prog) 47 (kyL c.k m.k) w8 (by kernel_rfl) (by kernel_rfl) w.heap.size 5 (Blk.ld HB.out 5 _ (fun j v h => sub_key c m j v h))
  go_wp2_with (refine wpList_ld (by first | rfl | simp [Region.wanted, yielded]) 47 _ rfl _ rfl _ hld ?_)
  refine (H9.out _ HX.out).mono ?_
  rintro e w9 ⟨rfl, hE9⟩
  replace HB := hide (Blk.ext HB.out hE9 (Blk.lt HB.out (by simp [ctL])))
  replace HX := hide (Ext.trans HX.out hE9)
  clear hE9 H9 hld
  go_wp2
  go_ret
  exact ⟨ret_bool (by rw [HV.out]; simp), Ext.trans HE.out HX.out⟩

set_option maxHeartbeats 12800000 in
theorem specCertOk_at (c : Ct) (m : CtPl) (ok : Bool) (hk : ok = true ↔ KeyP c.k) (w : World) (hI : CtIn w c m) (hS : CtSm c 1048576) (hK : KyIn c.k) :
    Calls Tryz.prog 7 #[.agg (ctL c m).toArray] w fun e w' => e = .returned (.bool (ctB c ok)) ∧ Ext w w' := by
  obtain ⟨V, hV⟩ : ∃ V, w.alloc (.cells (ctL c m).toArray 50) = V := ⟨_, rfl⟩
  obtain ⟨B0, hE, hl⟩ := box1 w (ctL c m) 50 (w1 := V) (by rw [← hV]; exact Ext.refl _)
  have HB := hide B0
  have HE := hide hE
  have HX : Hid (Ext V V) := hide (Ext.refl _)
  have H0 : Hid (∀ W, Ext V W → Calls Tryz.prog 22 #[.int .i64 c.serial, .int .i64 1, .int .i64 1000000000000000] W fun e w' => e = .returned (.bool (inB c.serial 1 1000000000000000)) ∧ Ext W w') := fun W hW => (l1InB c.serial 1 1000000000000000 W).mono fun e w' ⟨h1, h2⟩ => ⟨h1, h2 ▸ Ext.refl _⟩
  have H1 : Hid (∀ W, Ext V W → Calls Tryz.prog 23 #[.slice m.i.ad c.ni m.i.cap] W fun e w' => e = .returned (.bool (nmB c.ni c.fi)) ∧ Ext W w') := fun W hW => l10Name_any m.i c.ni c.fi W (hI.i.of_all (Ext.trans hE hW)) hS.i hS.is
  have H2 : Hid (∀ W, Ext V W → Calls Tryz.prog 23 #[.slice m.s.ad c.ns m.s.cap] W fun e w' => e = .returned (.bool (nmB c.ns c.fs)) ∧ Ext W w') := fun W hW => l10Name_any m.s c.ns c.fs W (hI.s.of_all (Ext.trans hE hW)) hS.s hS.ss
  have H3 : Hid (∀ W, Ext V W → Calls Tryz.prog 24 #[.int .i64 c.fr] W fun e w' => e = .returned (.bool (tmB c.fr)) ∧ Ext W w') := fun W hW => (l9OkB c.fr W).mono fun e w' ⟨h1, h2⟩ => ⟨h1, h2 ▸ Ext.refl _⟩
  have H4 : Hid (∀ W, Ext V W → Calls Tryz.prog 24 #[.int .i64 c.to] W fun e w' => e = .returned (.bool (tmB c.to)) ∧ Ext W w') := fun W hW => (l9OkB c.to W).mono fun e w' ⟨h1, h2⟩ => ⟨h1, h2 ▸ Ext.refl _⟩
  have H6 : Hid (∀ W, Ext V W → Calls Tryz.prog 25 #[.agg (kyL c.k m.k).toArray] W fun e w' => e = .returned (.bool (ok)) ∧ Ext W w') := fun W hW => specKeyOk_at c.k m.k.ad m.k.b m.k.off m.k.cap ok hk W (hI.k.of_all (Ext.trans hE hW)) hK
  have H7 : Hid (∀ W, Ext V W → Calls Tryz.prog 22 #[.int .i64 c.alg, .int .i64 1, .int .i64 4] W fun e w' => e = .returned (.bool (inB c.alg 1 4)) ∧ Ext W w') := fun W hW => (l1InB c.alg 1 4 W).mono fun e w' ⟨h1, h2⟩ => ⟨h1, h2 ▸ Ext.refl _⟩
  have H8 : Hid (∀ W, Ext V W → Calls Tryz.prog 26 #[.agg (exL c.x m.x).toArray] W fun e w' => e = .returned (.bool (exB c.x)) ∧ Ext W w') := fun W hW => l10Exts_at c.x m.x W (hI.x.ext (Ext.trans hE hW)) hS.x
  have H9 : Hid (∀ W, Ext V W → Calls Tryz.prog 22 #[.int .i64 (c.ng : Int), .int .i64 1, .int .i64 64] W fun e w' => e = .returned (.bool (inB (c.ng : Int) 1 64)) ∧ Ext W w') := fun W hW => (l1InB (c.ng : Int) 1 64 W).mono fun e w' ⟨h1, h2⟩ => ⟨h1, h2 ▸ Ext.refl _⟩
  have HV := hide (ct_spec c ok)
  obtain ⟨R, hR⟩ : ∃ R, ctB c ok = R := ⟨_, rfl⟩
  rw [hR] at HV ⊢
  clear hR B0 hE hl hI hS hK hk
  obtain ⟨q0, hq0⟩ : ∃ q, inB c.serial 1 1000000000000000 = q := ⟨_, rfl⟩
  rw [hq0] at HV H0
  clear hq0
  obtain ⟨q1, hq1⟩ : ∃ q, nmB c.ni c.fi = q := ⟨_, rfl⟩
  rw [hq1] at HV H1
  clear hq1
  obtain ⟨q2, hq2⟩ : ∃ q, nmB c.ns c.fs = q := ⟨_, rfl⟩
  rw [hq2] at HV H2
  clear hq2
  obtain ⟨q3, hq3⟩ : ∃ q, tmB c.fr = q := ⟨_, rfl⟩
  rw [hq3] at HV H3
  clear hq3
  obtain ⟨q4, hq4⟩ : ∃ q, tmB c.to = q := ⟨_, rfl⟩
  rw [hq4] at HV H4
  clear hq4
  obtain ⟨q5, hq5⟩ : ∃ q, decide (c.fr ≤ c.to) = q := ⟨_, rfl⟩
  rw [hq5] at HV
  obtain ⟨q6, hq6⟩ : ∃ q, ok = q := ⟨_, rfl⟩
  rw [hq6] at HV H6
  clear hq6
  obtain ⟨q7, hq7⟩ : ∃ q, inB c.alg 1 4 = q := ⟨_, rfl⟩
  rw [hq7] at HV H7
  clear hq7
  obtain ⟨q8, hq8⟩ : ∃ q, exB c.x = q := ⟨_, rfl⟩
  rw [hq8] at HV H8
  clear hq8
  obtain ⟨q9, hq9⟩ : ∃ q, inB (c.ng : Int) 1 64 = q := ⟨_, rfl⟩
  rw [hq9] at HV H9
  clear hq9
  go_enter Tryz.func7, Tryz.ntmps7
  have c0 := (HB.out 0 _ rfl).1
  go_wp2_with fail
  refine (H0.out _ HX.out).mono ?_
  rintro e w0 ⟨rfl, hE0⟩
  replace HB := hide (Blk.ext HB.out hE0 (Blk.lt HB.out (by simp [ctL])))
  replace HX := hide (Ext.trans HX.out hE0)
  clear hE0 H0 c0
  cases q0
  · go_wp2
    go_ret
    exact ⟨ret_bool (by rw [HV.out]; simp), Ext.trans HE.out HX.out⟩
  have c1 := (HB.out 1 _ rfl).1
  go_wp2_with fail
  refine (H1.out _ HX.out).mono ?_
  rintro e w1 ⟨rfl, hE1⟩
  replace HB := hide (Blk.ext HB.out hE1 (Blk.lt HB.out (by simp [ctL])))
  replace HX := hide (Ext.trans HX.out hE1)
  clear hE1 H1 c1
  cases q1
  · go_wp2
    go_ret
    exact ⟨ret_bool (by rw [HV.out]; simp), Ext.trans HE.out HX.out⟩
  have c2 := (HB.out 2 _ rfl).1
  go_wp2_with fail
  refine (H2.out _ HX.out).mono ?_
  rintro e w2 ⟨rfl, hE2⟩
  replace HB := hide (Blk.ext HB.out hE2 (Blk.lt HB.out (by simp [ctL])))
  replace HX := hide (Ext.trans HX.out hE2)
  clear hE2 H2 c2
  cases q2
  · go_wp2
    go_ret
    exact ⟨ret_bool (by rw [HV.out]; simp), Ext.trans HE.out HX.out⟩
  have c3 := (HB.out 3 _ rfl).1
  go_wp2_with fail
  refine (H3.out _ HX.out).mono ?_
  rintro e w3 ⟨rfl, hE3⟩
  replace HB := hide (Blk.ext HB.out hE3 (Blk.lt HB.out (by simp [ctL])))
  replace HX := hide (Ext.trans HX.out hE3)
  clear hE3 H3 c3
  cases q3
  · go_wp2
    go_ret
    exact ⟨ret_bool (by rw [HV.out]; simp), Ext.trans HE.out HX.out⟩
  have c4 := (HB.out 4 _ rfl).1
  go_wp2_with fail
  refine (H4.out _ HX.out).mono ?_
  rintro e w4 ⟨rfl, hE4⟩
  replace HB := hide (Blk.ext HB.out hE4 (Blk.lt HB.out (by simp [ctL])))
  replace HX := hide (Ext.trans HX.out hE4)
  clear hE4 H4 c4
  cases q4
  · clear hq5
    go_wp2
    go_ret
    exact ⟨ret_bool (by rw [HV.out]; simp), Ext.trans HE.out HX.out⟩
  have hld := run_ld (P := Tryz.prog) 47 (kyL c.k m.k) w4 (by kernel_rfl) (by kernel_rfl) w.heap.size 5 (Blk.ld HB.out 5 _ (fun j v h => sub_key c m j v h))
  have c3 := (HB.out 3 _ rfl).1
  have c4 := (HB.out 4 _ rfl).1
  cases q5
  · go_wp2
    go_ret
    exact ⟨ret_bool (by rw [HV.out]; simp), Ext.trans HE.out HX.out⟩
  go_wp2_with (refine wpList_ld (by first | rfl | simp [Region.wanted, yielded]) 47 _ rfl _ rfl _ hld ?_)
  refine (H6.out _ HX.out).mono ?_
  rintro e w6 ⟨rfl, hE6⟩
  replace HB := hide (Blk.ext HB.out hE6 (Blk.lt HB.out (by simp [ctL])))
  replace HX := hide (Ext.trans HX.out hE6)
  clear hE6 H6 hld c3 c4 hq5
  cases q6
  · go_wp2
    go_ret
    exact ⟨ret_bool (by rw [HV.out]; simp), Ext.trans HE.out HX.out⟩
  have c24 := (HB.out 24 _ rfl).1
  go_wp2_with fail
  refine (H7.out _ HX.out).mono ?_
  rintro e w7 ⟨rfl, hE7⟩
  replace HB := hide (Blk.ext HB.out hE7 (Blk.lt HB.out (by simp [ctL])))
  replace HX := hide (Ext.trans HX.out hE7)
  clear hE7 H7 c24
  cases q7
  · go_wp2
    go_ret
    exact ⟨ret_bool (by rw [HV.out]; simp), Ext.trans HE.out HX.out⟩
  have hld := run_ld (P := Tryz.prog) 48 (exL c.x m.x) w7 (by kernel_rfl) (by kernel_rfl) w.heap.size 25 (Blk.ld HB.out 25 _ (fun j v h => sub_ex c m j v h))
  go_wp2_with (refine wpList_ld (by first | rfl | simp [Region.wanted, yielded]) 48 _ rfl _ rfl _ hld ?_)
  refine (H8.out _ HX.out).mono ?_
  rintro e w8 ⟨rfl, hE8⟩
  replace HB := hide (Blk.ext HB.out hE8 (Blk.lt HB.out (by simp [ctL])))
  replace HX := hide (Ext.trans HX.out hE8)
  clear hE8 H8 hld
  cases q8
  · go_wp2
    go_ret
    exact ⟨ret_bool (by rw [HV.out]; simp), Ext.trans HE.out HX.out⟩
  have c33 := (HB.out 33 _ rfl).1
  go_wp2_with fail
  refine (H9.out _ HX.out).mono ?_
  rintro e w9 ⟨rfl, hE9⟩
  replace HB := hide (Blk.ext HB.out hE9 (Blk.lt HB.out (by simp [ctL])))
  replace HX := hide (Ext.trans HX.out hE9)
  clear hE9 H9 c33
  go_wp2
  go_ret
  exact ⟨ret_bool (by rw [HV.out]; simp), Ext.trans HE.out HX.out⟩

end Go.Proofs.YtigjjkondbdgjaaGreatDoor
