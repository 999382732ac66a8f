/- Walks: extensions that are right: extsOk of the program, l10Exts of the model (written by mkctx.py). -/
import Derived.Test.YtfhiiakoilkbkaaGreatDoorCv46
namespace Go.Proofs.YtfhiiakoilkbkaaGreatDoor
set_option linter.unusedVariables false
set_option linter.unusedSimpArgs false
set_option maxRecDepth 100000
open Go.RowKit
set_option maxHeartbeats 6400000 in
theorem extsOk_at (x : Ex) (m : ExPl) (w : World) (hI : ExIn w x m) (hS : ExSm x 1048576) :
  Calls Tryz.prog 85 #[.agg (exL x m).toArray] w fun e w' => e = .returned (.bool (exB x)) ∧ Ext w w' := by
 obtain ⟨V, hV⟩ : ∃ V, w.alloc (.cells (exL x m).toArray 52) = V := ⟨_, rfl⟩
 obtain ⟨B0, hE, hl⟩ := box1 w (exL x m) 52 (w1 := V) (by rw [← hV]; exact Ext.refl _)
 have HB := hide B0
 have HE := hide hE
 have HX : Hid (Ext V V) := hide (Ext.refl _)
 have HL0 : Hid (w.heap.size < V.heap.size) := hide (Blk.lt B0 (by simp [exL]))
 have hld := run_ld (P := Tryz.prog) 52 (exL x m) V (by kernel_rfl) (by kernel_rfl) w.heap.size 0 (Blk.ld B0 0 _ (fun j v h => by rw [Nat.zero_add]; exact h))
 have H1 : Hid (∀ W, Ext V W → Calls Tryz.prog 105 #[.agg (exL x m).toArray] W fun e w' => e = .returned (.bool (pathB x)) ∧ Ext W w') := fun W hW => pathOk_any x m W
 have H2 : Hid (∀ W, Ext V W → Calls Tryz.prog 63 #[.int .i64 x.usage, .int .i64 0, .int .i64 7] W fun e w' => e = .returned (.bool (inB x.usage 0 7)) ∧ Ext W w') := fun W hW => (inRange_any x.usage 0 7 W).mono fun e w' ⟨h1, h2⟩ => ⟨h1, h2 ▸ Ext.refl _⟩
 have H3 : Hid (∀ W, Ext V W → Calls Tryz.prog 102 #[.slice m.h.ad x.nh m.h.cap, .int .i64 6, .func (.func 106) #[] #[]] W fun e w' => e = .returned (.bool (lsB (fun i => patB (x.fh i)) x.nh)) ∧ Ext W w') := fun W hW =>
  aokS_any 106 (fun _ _ => by kernel_rfl) (fun i => patB (x.fh i)) 6 m.h.ad m.h.b m.h.off x.nh m.h.cap _ W ((hI.h.of_all (Ext.trans hE hW)).v) hS.h (by omega) (hide fun i hi W2 _ => implPatternOk_any (x.fh i) (by have := hS.hs i hi; omega) W2)
 have H4 : Hid (∀ W, Ext V W → Calls Tryz.prog 107 #[.slice m.n.ad x.nn m.n.cap, .int .i64 6, .func (.func 108) #[] #[]] W fun e w' => e = .returned (.bool (lsB (fun i => fourB (x.ln i) (x.fn i)) x.nn)) ∧ Ext W w') := fun W hW =>
  aokN_any 108 (fun _ _ => by kernel_rfl) (fun i => fourB (x.ln i) (x.fn i)) 6 m.n.ad m.n.b m.n.off x.nn m.n.cap _ W ((hI.n.of_all (Ext.trans hE hW)).v) hS.n (by omega) (hide fun i hi W2 hW2 => (addressOk_any (m.ni i).ad (m.ni i).b (m.ni i).off (x.ln i) (m.ni i).cap (x.fn i) W2 ((hI.n.row i hi).of_all (Ext.trans hE (Ext.trans hW hW2))) (hS.ns i hi)).mono fun e w' ⟨h1, h2⟩ => ⟨h1, h2 ▸ Ext.refl _⟩)
 have H5 : Hid (∀ W, Ext V W → Calls Tryz.prog 102 #[.slice m.a.ad x.na m.a.cap, .int .i64 6, .func (.func 109) #[] #[]] W fun e w' => e = .returned (.bool (lsB (fun i => hostB (x.fa i)) x.na)) ∧ Ext W w') := fun W hW =>
  aokS_any 109 (fun _ _ => by kernel_rfl) (fun i => hostB (x.fa i)) 6 m.a.ad m.a.b m.a.off x.na m.a.cap _ W ((hI.a.of_all (Ext.trans hE hW)).v) hS.a (by omega) (hide fun i hi W2 _ => implHostOk_any (x.fa i) (by have := hS.as' i hi; omega) W2)
 have H6 : Hid (∀ W, Ext V W → Calls Tryz.prog 102 #[.slice m.d.ad x.nd m.d.cap, .int .i64 6, .func (.func 109) #[] #[]] W fun e w' => e = .returned (.bool (lsB (fun i => hostB (x.fd i)) x.nd)) ∧ Ext W w') := fun W hW =>
  aokS_any 109 (fun _ _ => by kernel_rfl) (fun i => hostB (x.fd i)) 6 m.d.ad m.d.b m.d.off x.nd m.d.cap _ W ((hI.d.of_all (Ext.trans hE hW)).v) hS.d (by omega) (hide fun i hi W2 _ => implHostOk_any (x.fd i) (by have := hS.ds i hi; omega) W2)
 have H7 : Hid (∀ W, Ext V W → Calls Tryz.prog 64 #[.slice m.p.ad x.np m.p.cap, .int .i64 6, .func (.func 110) #[] #[]] W fun e w' => e = .returned (.bool (lsB (fun i => ppB (x.fp i)) x.np)) ∧ Ext W w') := fun W hW =>
  aokI_any 110 (fun _ _ => by kernel_rfl) (fun i => ppB (x.fp i)) 6 m.p.ad m.p.b m.p.off x.np m.p.cap _ W ((hI.p.of_all (Ext.trans hE hW)).v) hS.p (by omega) (hide fun i hi W2 _ => purposeOk_any (x.fp i) W2)
 have H8 : Hid (∀ W, Ext V W → Calls Tryz.prog 111 #[.slice m.p.ad x.np m.p.cap] W fun e w' => e = .returned (.bool (allB (upB x.fp) x.np)) ∧ Ext W w') := fun W hW => isRising_any m.p x.np x.fp W (hI.p.of_all (Ext.trans hE hW)) hS.p
 have HV : Hid (exB x = (pathB x && (inB x.usage 0 7 && (lsB (fun i => patB (x.fh i)) x.nh && (lsB (fun i => fourB (x.ln i) (x.fn i)) x.nn && (lsB (fun i => hostB (x.fa i)) x.na && (lsB (fun i => hostB (x.fd i)) x.nd && (lsB (fun i => ppB (x.fp i)) x.np && allB (upB x.fp) x.np)))))))) := rfl
 rw [HV.out]
 clear HV B0 hE hl hI hS
 generalize pathB x = q1 at *
 generalize inB x.usage 0 7 = q2 at *
 generalize lsB (fun i => patB (x.fh i)) x.nh = q3 at *
 generalize lsB (fun i => fourB (x.ln i) (x.fn i)) x.nn = q4 at *
 generalize lsB (fun i => hostB (x.fa i)) x.na = q5 at *
 generalize lsB (fun i => hostB (x.fd i)) x.nd = q6 at *
 generalize lsB (fun i => ppB (x.fp i)) x.np = q7 at *
 generalize allB (upB x.fp) x.np = q8 at *
 go_enter Tryz.func85, Tryz.ntmps85
 go_wp2_with (refine wpList_ld (by first | rfl | simp [Region.wanted, yielded]) 52 _ rfl _ rfl _ hld ?_)
 refine (H1.out _ HX.out).mono ?_
 rintro e w1 ⟨rfl, hE1⟩
 replace HB := hide (Blk.ext HB.out hE1 (Blk.lt HB.out (by simp [exL])))
 replace HX := hide (Ext.trans HX.out hE1)
 clear hE1 H1 hld
 cases q1
 ·go_wp2
  go_ret
  exact ⟨ret_bool rfl, Ext.trans HE.out HX.out⟩
 have c2 := (HB.out 2 _ rfl).1
 go_wp2_with fail
 refine (H2.out _ HX.out).mono ?_
 rintro e w2 ⟨rfl, hE2⟩
 replace HB := hide (Blk.ext HB.out hE2 (Blk.lt HB.out (by simp [exL])))
 replace HX := hide (Ext.trans HX.out hE2)
 clear hE2 H2 c2
 cases q2
 ·go_wp2
  go_ret
  exact ⟨ret_bool rfl, Ext.trans HE.out HX.out⟩
 have c3 := (HB.out 3 _ rfl).1
 go_wp2_with fail
 refine (H3.out _ HX.out).mono ?_
 rintro e w3 ⟨rfl, hE3⟩
 replace HB := hide (Blk.ext HB.out hE3 (Blk.lt HB.out (by simp [exL])))
 replace HX := hide (Ext.trans HX.out hE3)
 clear hE3 H3 c3
 cases q3
 ·go_wp2
  go_ret
  exact ⟨ret_bool rfl, Ext.trans HE.out HX.out⟩
 have c4 := (HB.out 4 _ rfl).1
 go_wp2_with fail
 refine (H4.out _ HX.out).mono ?_
 rintro e w4 ⟨rfl, hE4⟩
 replace HB := hide (Blk.ext HB.out hE4 (Blk.lt HB.out (by simp [exL])))
 replace HX := hide (Ext.trans HX.out hE4)
 clear hE4 H4 c4
 cases q4
 ·go_wp2
  go_ret
  exact ⟨ret_bool rfl, Ext.trans HE.out HX.out⟩
 have c5 := (HB.out 5 _ rfl).1
 go_wp2_with fail
 refine (H5.out _ HX.out).mono ?_
 rintro e w5 ⟨rfl, hE5⟩
 replace HB := hide (Blk.ext HB.out hE5 (Blk.lt HB.out (by simp [exL])))
 replace HX := hide (Ext.trans HX.out hE5)
 clear hE5 H5 c5
 cases q5
 ·go_wp2
  go_ret
  exact ⟨ret_bool rfl, Ext.trans HE.out HX.out⟩
 have c6 := (HB.out 6 _ rfl).1
 go_wp2_with fail
 refine (H6.out _ HX.out).mono ?_
 rintro e w6 ⟨rfl, hE6⟩
 replace HB := hide (Blk.ext HB.out hE6 (Blk.lt HB.out (by simp [exL])))
 replace HX := hide (Ext.trans HX.out hE6)
 clear hE6 H6 c6
 cases q6
 ·go_wp2
  go_ret
  exact ⟨ret_bool rfl, Ext.trans HE.out HX.out⟩
 have c7 := (HB.out 7 _ rfl).1
 go_wp2_with fail
 refine (H7.out _ HX.out).mono ?_
 rintro e w7 ⟨rfl, hE7⟩
 replace HB := hide (Blk.ext HB.out hE7 (Blk.lt HB.out (by simp [exL])))
 replace HX := hide (Ext.trans HX.out hE7)
 clear hE7 H7 c7
 cases q7
 ·go_wp2
  go_ret
  exact ⟨ret_bool rfl, Ext.trans HE.out HX.out⟩
 have c8 := (HB.out 7 _ rfl).1
 go_wp2_with fail
 refine (H8.out _ HX.out).mono ?_
 rintro e w8 ⟨rfl, hE8⟩
 replace HB := hide (Blk.ext HB.out hE8 (Blk.lt HB.out (by simp [exL])))
 replace HX := hide (Ext.trans HX.out hE8)
 clear hE8 H8 c8
 go_wp2
 go_ret
 exact ⟨ret_bool rfl, Ext.trans HE.out HX.out⟩
theorem pt_alt (x : Ex) : pathB x = (inB x.path (-1) 10 && (x.ca || decide (x.path = -1))) := by
 unfold pathB inB
 by_cases h1 : x.path = -1
 ·rw [h1]
  simp
 ·rw [decide_eq_false h1, Bool.false_or, Bool.or_false]
  cases x.ca
  ·simp
  ·rw [Bool.true_and, Bool.and_true]
   congr 1
   by_cases h2 : 0 ≤ x.path
   ·rw [decide_eq_true h2, decide_eq_true (by omega)]
   ·rw [decide_eq_false h2, decide_eq_false (by omega)]
theorem ex_alt (x : Ex) : exB x = (inB x.path (-1) 10 && ((x.ca || decide (x.path = -1)) && (inB x.usage 0 7 && (lsB (fun i => patB (x.fh i)) x.nh && (lsB (fun i => hostB (x.fa i)) x.na && (lsB (fun i => hostB (x.fd i)) x.nd && (decide (x.nn ≤ 6) && (decide (x.np ≤ 6) && (allB (fun i => fourB (x.ln i) (x.fn i)) x.nn && allB (fun i => ppB (x.fp i) && upB x.fp i) x.np))))))))) := by
 unfold exB
 rw [pt_alt, allB_and]
 unfold lsB
 generalize inB x.path (-1) 10 = q1
 generalize (x.ca || decide (x.path = -1)) = q2
 generalize inB x.usage 0 7 = q3
 generalize (decide (x.nh ≤ 6) && allB (fun i => patB (x.fh i)) x.nh) = q4
 generalize (decide (x.na ≤ 6) && allB (fun i => hostB (x.fa i)) x.na) = q5
 generalize (decide (x.nd ≤ 6) && allB (fun i => hostB (x.fd i)) x.nd) = q6
 generalize decide (x.nn ≤ 6) = q7
 generalize decide (x.np ≤ 6) = q8
 generalize allB (fun i => fourB (x.ln i) (x.fn i)) x.nn = q9
 generalize allB (fun i => ppB (x.fp i)) x.np = q10
 generalize allB (upB x.fp) x.np = q11
 cases q1 <;> cases q2 <;> cases q3 <;> cases q4 <;> cases q5 <;> cases q6 <;> cases q7 <;> cases q8 <;> cases q9 <;> simp
set_option maxHeartbeats 12800000 in
theorem l10Exts_at (x : Ex) (m : ExPl) (w : World) (hI : ExIn w x m) (hS : ExSm x 1048576) :
  Calls Tryz.prog 78 #[.agg (exL x m).toArray] w fun e w' => e = .returned (.bool (exB x)) ∧ Ext w w' := by
 obtain ⟨V, hV⟩ : ∃ V, w.alloc (.cells (exL x m).toArray 52) = V := ⟨_, rfl⟩
 obtain ⟨B0, hE, hl⟩ := box1 w (exL x m) 52 (w1 := V) (by rw [← hV]; exact Ext.refl _)
 have HB := hide B0
 have HE := hide hE
 have HX : Hid (Ext V V) := hide (Ext.refl _)
 have HL0 : Hid (w.heap.size < V.heap.size) := hide (Blk.lt B0 (by simp [exL]))
 have H1 : Hid (∀ W, Calls Tryz.prog 23 #[.int .i64 x.path, .int .i64 (-1), .int .i64 10] W fun e w' => e = .returned (.bool (inB x.path (-1) 10)) ∧ Ext W w') := fun W => (l1InB x.path (-1) 10 W).mono fun e w' ⟨h1, h2⟩ => ⟨h1, h2 ▸ Ext.refl _⟩
 have H3 : Hid (∀ W, Calls Tryz.prog 23 #[.int .i64 x.usage, .int .i64 0, .int .i64 7] W fun e w' => e = .returned (.bool (inB x.usage 0 7)) ∧ Ext W w') := fun W => (l1InB x.usage 0 7 W).mono fun e w' ⟨h1, h2⟩ => ⟨h1, h2 ▸ Ext.refl _⟩
 have H4 : Hid (∀ W, Ext V W → Calls Tryz.prog 99 #[.slice m.h.ad x.nh m.h.cap, .bool true] W fun e w' => e = .returned (.bool (lsB (fun i => patB (x.fh i)) x.nh)) ∧ Ext W w') := fun W hW =>
  l10Hosts_any true patB m.h x.nh x.fh W (hI.h.of_all (Ext.trans hE hW)) hS.h (hide fun _ i hi W2 => specPatternOk_any (x.fh i) (by have := hS.hs i hi; omega) W2) (hide fun h => by cases h)
 have H5 : Hid (∀ W, Ext V W → Calls Tryz.prog 99 #[.slice m.a.ad x.na m.a.cap, .bool false] W fun e w' => e = .returned (.bool (lsB (fun i => hostB (x.fa i)) x.na)) ∧ Ext W w') := fun W hW =>
  l10Hosts_any false hostB m.a x.na x.fa W (hI.a.of_all (Ext.trans hE hW)) hS.a (hide fun h => by cases h) (hide fun _ i hi W2 => specHostOk_any (x.fa i) (by have := hS.as' i hi; omega) W2)
 have H6 : Hid (∀ W, Ext V W → Calls Tryz.prog 99 #[.slice m.d.ad x.nd m.d.cap, .bool false] W fun e w' => e = .returned (.bool (lsB (fun i => hostB (x.fd i)) x.nd)) ∧ Ext W w') := fun W hW =>
  l10Hosts_any false hostB m.d x.nd x.fd W (hI.d.of_all (Ext.trans hE hW)) hS.d (hide fun h => by cases h) (hide fun _ i hi W2 => specHostOk_any (x.fd i) (by have := hS.ds i hi; omega) W2)
 have HNt : Hid (∀ i, i < x.nn → ∀ W, Ext V W → Calls Tryz.prog 100 #[.slice (m.ni i).ad (x.ln i) (m.ni i).cap] W fun e w' => e = .returned (.bool (fourB (x.ln i) (x.fn i))) ∧ w' = W) := fun i hi W hW => l8Four_any (m.ni i).ad (m.ni i).b (m.ni i).off (x.ln i) (m.ni i).cap (x.fn i) W ((hI.n.row i hi).of_all (Ext.trans hE hW)) (hS.ns i hi)
 have HIn := hide (hI.n.of_all hE)
 have HIp := hide (hI.p.of_all hE)
 have HV := hide (ex_alt x)
 obtain ⟨R, hR⟩ : ∃ R, exB x = R := ⟨_, rfl⟩
 rw [hR] at HV ⊢
 have nn1 := hS.n
 have np1 := hS.p
 clear hR B0 hE hl hI hS
 have c0 := (HB.out 0 _ rfl).1
 have c1 := (HB.out 1 _ rfl).1
 have g2 : (x.path != -1) = !decide (x.path = -1) := by
  by_cases h : x.path = -1
  ·rw [h]; rfl
  ·rw [decide_eq_false h]; simp [h]
 obtain ⟨q1, hq1⟩ : ∃ q, inB x.path (-1) 10 = q := ⟨_, rfl⟩
 obtain ⟨d1, hd1⟩ : ∃ q, decide (x.path = -1) = q := ⟨_, rfl⟩
 obtain ⟨q3, hq3⟩ : ∃ q, inB x.usage 0 7 = q := ⟨_, rfl⟩
 obtain ⟨q4, hq4⟩ : ∃ q, lsB (fun i => patB (x.fh i)) x.nh = q := ⟨_, rfl⟩
 obtain ⟨q5, hq5⟩ : ∃ q, lsB (fun i => hostB (x.fa i)) x.na = q := ⟨_, rfl⟩
 obtain ⟨q6, hq6⟩ : ∃ q, lsB (fun i => hostB (x.fd i)) x.nd = q := ⟨_, rfl⟩
 rw [hq1] at H1
 rw [hq3] at H3
 rw [hq4] at H4
 rw [hq5] at H5
 rw [hq6] at H6
 rw [hd1] at g2
 rw [hq1, hd1, hq3, hq4, hq5, hq6] at HV
 clear hq1 hd1 hq3 hq4 hq5 hq6
 obtain ⟨ca, hca⟩ : ∃ c, x.ca = c := ⟨_, rfl⟩
 rw [hca] at HV c0
 have Hca := hide hca
 clear hca
 go_enter Tryz.func78, Tryz.ntmps78
 go_wp2_with fail
 refine (H1.out _).mono ?_
 rintro e w1 ⟨rfl, hE1⟩
 replace HB := hide (Blk.ext HB.out hE1 (Blk.lt HB.out (by simp [exL])))
 replace HX := hide (Ext.trans HX.out hE1)
 clear hE1 H1 c0 c1
 cases q1
 ·go_wp2
  go_ret
  exact ⟨ret_bool (by rw [HV.out]; rfl), Ext.trans HE.out HX.out⟩
 have c0 := (HB.out 0 _ rfl).1
 have c1 := (HB.out 1 _ rfl).1
 have c2 := (HB.out 2 _ rfl).1
 rw [Hca.out] at c0
 cases hz : (ca || d1)
 ·obtain ⟨rfl, rfl⟩ : ca = false ∧ d1 = false := by cases ca <;> cases d1 <;> simp_all
  clear hz
  have g3 : (x.path != -1) = true := g2
  clear g2
  go_wp2
  go_ret
  exact ⟨ret_bool (by rw [HV.out]; rfl), Ext.trans HE.out HX.out⟩
 have Hz := hide hz
 rw [hz] at HV
 clear hz
 cases ca
 ·have hd1 : d1 = true := by have h := Hz.out; rw [Bool.false_or] at h; exact h
  subst hd1
  have g3 : (x.path != -1) = false := g2
  go_wp2_with fail
  refine (H3.out _).mono ?_
  rintro e w3 ⟨rfl, hE3⟩
  replace HB := hide (Blk.ext HB.out hE3 (Blk.lt HB.out (by simp [exL])))
  replace HX := hide (Ext.trans HX.out hE3)
  clear hE3 H3 c0 c1 c2 g2 g3 Hz
  cases q3
  ·go_wp2
   go_ret
   exact ⟨ret_bool (by rw [HV.out]; rfl), Ext.trans HE.out HX.out⟩
  have c3 := (HB.out 3 _ rfl).1
  go_wp2_with fail
  refine (H4.out _ HX.out).mono ?_
  rintro e w4 ⟨rfl, hE4⟩
  replace HB := hide (Blk.ext HB.out hE4 (Blk.lt HB.out (by simp [exL])))
  replace HX := hide (Ext.trans HX.out hE4)
  clear hE4 H4 c3
  cases q4
  ·go_wp2
   go_ret
   exact ⟨ret_bool (by rw [HV.out]; rfl), Ext.trans HE.out HX.out⟩
  have c5 := (HB.out 5 _ rfl).1
  go_wp2_with fail
  refine (H5.out _ HX.out).mono ?_
  rintro e w5 ⟨rfl, hE5⟩
  replace HB := hide (Blk.ext HB.out hE5 (Blk.lt HB.out (by simp [exL])))
  replace HX := hide (Ext.trans HX.out hE5)
  clear hE5 H5 c5
  cases q5
  ·go_wp2
   go_ret
   exact ⟨ret_bool (by rw [HV.out]; rfl), Ext.trans HE.out HX.out⟩
  have c6 := (HB.out 6 _ rfl).1
  go_wp2_with fail
  refine (H6.out _ HX.out).mono ?_
  rintro e w6 ⟨rfl, hE6⟩
  replace HB := hide (Blk.ext HB.out hE6 (Blk.lt HB.out (by simp [exL])))
  replace HX := hide (Ext.trans HX.out hE6)
  clear hE6 H6 c6
  cases q6
  ·go_wp2
   go_ret
   exact ⟨ret_bool (by rw [HV.out]; rfl), Ext.trans HE.out HX.out⟩
  have c4 := (HB.out 4 _ rfl).1
  have c7 := (HB.out 7 _ rfl).1
  simp only [Bool.true_and] at HV
  by_cases hn6 : x.nn ≤ 6
  case neg =>
   have g6 : (6 : Int) < (x.nn : Int) := by omega
   rw [decide_eq_false hn6] at HV
   clear hn6
   go_wp2
   go_ret
   exact ⟨ret_bool (by rw [HV.out]; rfl), Ext.trans HE.out HX.out⟩
  have g6 : ¬ (6 : Int) < (x.nn : Int) := by omega
  by_cases hp6 : x.np ≤ 6
  case neg =>
   have g7 : (6 : Int) < (x.np : Int) := by omega
   rw [decide_eq_false hp6, Bool.false_and, Bool.and_false] at HV
   clear hp6
   go_wp2
   go_ret
   exact ⟨ret_bool (by rw [HV.out]), Ext.trans HE.out HX.out⟩
  have g7 : ¬ (6 : Int) < (x.np : Int) := by omega
  rw [decide_eq_true hn6, decide_eq_true hp6, Bool.true_and, Bool.true_and] at HV
  clear hn6 hp6
  have HB6 := HB
  have HX6 := hide (Blk.lt HB.out (by simp [exL]))
  go_wp2
  clear c4 c7 g6 g7
  go_loopw [3] (fun i wr => ∃ k : Nat, k ≤ x.nn ∧ i = .int .i64 (k : Int) ∧ (∀ j, j < k → fourB (x.ln j) (x.fn j) = true) ∧ Ext w6 wr) (fun i _ => x.nn - (intOf i).toNat)
  case atStart => exact ⟨0, Nat.zero_le _, rfl, fun j hj => absurd hj (Nat.not_lt_zero _), Ext.refl _⟩
  case round =>
   obtain ⟨k, hk, rfl, hd, hY⟩ := hrel
   have HD := hide hd
   have HY := hide hY
   clear hd
   have c4 := ((Blk.ext HB.out hY HX6.out) 4 _ rfl).1
   by_cases hlt : k < x.nn
   ·have hA := HIn.out.of_all (Ext.trans HX.out hY)
    have cc := hA.cell k hlt
    have hat := hA.at' (by omega)
    rw [hat] at c4
    have hkn : (k : Int) < (x.nn : Int) := by omega
    have HC := hide (HNt.out k hlt wr (Ext.trans HX.out hY))
    clear hA hat hY
    obtain ⟨q, hq⟩ : ∃ q, fourB (x.ln k) (x.fn k) = q := ⟨_, rfl⟩
    rw [hq] at HC
    have Hq := hide hq
    clear hq
    go_wp2_with fail
    refine HC.out.mono ?_
    rintro e W ⟨rfl, hw⟩
    obtain rfl := hw.symm
    clear hw HC
    cases q
    ·go_wp2
     go_ret
     exact ⟨ret_bool (by rw [HV.out, allB_no hlt Hq.out]; rfl), Ext.trans HE.out (Ext.trans HX.out HY.out)⟩
    ·go_wp2
     go_roundw
     case rel => exact ⟨k + 1, by omega, by go_num, fun j hj => by
            by_cases e : j = k
            ·subst e; exact Hq.out
            ·exact HD.out j (by omega), HY.out⟩
     case measure => simp [intOf]; omega
   ·obtain rfl : k = x.nn := by omega
    rw [allB_yes HD.out, Bool.true_and] at HV
    have HBw := hide (Blk.ext HB.out hY HX6.out)
    have HXw := hide (Ext.trans HX.out hY)
    have HLw := hide (Blk.lt HBw.out (by simp [exL]))
    clear hY
    generalize wr = wO at *
    go_wp2
    clear c4
    go_loopw [4] (fun i wr2 => ∃ k2 : Nat, k2 ≤ x.np ∧ i = .int .i64 (k2 : Int) ∧ (∀ j, j < k2 → (ppB (x.fp j) && upB x.fp j) = true) ∧ Ext wO wr2) (fun i _ => x.np - (intOf i).toNat)
    case atStart => exact ⟨0, Nat.zero_le _, rfl, fun j hj => absurd hj (Nat.not_lt_zero _), Ext.refl _⟩
    case round =>
     obtain ⟨k, hk, rfl, hd, hZ⟩ := hrel
     have HD2 := hide hd
     have HZ := hide hZ
     clear hd
     have c7 := ((Blk.ext HBw.out hZ HLw.out) 7 _ rfl).1
     by_cases hlt : k < x.np
     ·have hA := HIp.out.of_all (Ext.trans HXw.out hZ)
      have cc := hA.cell k hlt
      have hat := hA.at' (by omega)
      rw [hat] at c7
      have hkn : (k : Int) < (x.np : Int) := by omega
      have k7 := cell_regrown c7
      have kc := cell_regrown cc
      obtain ⟨q, hq⟩ : ∃ q, ppB (x.fp k) = q := ⟨_, rfl⟩
      have HC : Hid (∀ d os, Calls Tryz.prog 23 #[.int .i64 (x.fp k), .int .i64 1, .int .i64 1000] (Sort.grow (redrawn wr d) os) fun e w'' => e = .returned (.bool q) ∧ ∃ p : Regrown, w'' = Sort.grow (redrawn wr p.d) p.os) := fun d os => by
       rw [← hq]
       exact Calls.regrown_of ((l1InB (x.fp k) 1 1000 _).mono fun e w' ⟨h1, h2⟩ => ⟨h1, h2 ▸ Ext.refl _⟩)
      have Hq := hide hq
      have HA := hide hA
      clear hq hat hZ hA
      cases q
      ·go_wp2_with fail
       refine wp_region_quiet_below (by kernel_rfl) (by kernel_rfl) ?_
       repeat (first | go_big_quiet_step (first | (go_at_call 23; exact HC.out _ _)) | quiet_step (first | (go_at_call 23; exact HC.out _ _)))
       refine wpQuiet_nil ?_
       intro _ hw'
       obtain ⟨⟨dq, osq⟩, hw''⟩ := hw'
       subst hw''
       have HE1 : Hid (Ext wr (Sort.grow (redrawn wr dq) osq)) := hide (below_regrown wr dq osq)
       go_wp2
       go_ret
       exact ⟨ret_bool (by rw [HV.out, allB_no hlt (by rw [Hq.out]; rfl)]), Ext.trans HE.out (Ext.trans HXw.out (Ext.trans HZ.out HE1.out))⟩
      ·by_cases hk0 : k = 0
       ·have Hk0 := hide hk0
        have g0 : decide ((0 : Int) < (k : Int)) = false := decide_eq_false (by omega)
        have g0n : decide (0 < k) = false := decide_eq_false (by omega)
        have g0p : ¬ 0 < k := by omega
        clear hk0
        go_wp2_with fail
        refine wp_region_quiet_below (by kernel_rfl) (by kernel_rfl) ?_
        repeat (first | go_big_quiet_step (first | (go_at_call 23; exact HC.out _ _)) | quiet_step (first | (go_at_call 23; exact HC.out _ _)))
        refine wpQuiet_nil ?_
        intro _ hw'
        obtain ⟨⟨dq, osq⟩, hw''⟩ := hw'
        subst hw''
        have HE1 : Hid (Ext wr (Sort.grow (redrawn wr dq) osq)) := hide (below_regrown wr dq osq)
        go_wp2
        go_roundw
        case rel => exact ⟨k + 1, by omega, by go_num, fun j hj => by
               by_cases e : j = k
               ·subst e; rw [Hq.out, Hk0.out]; rfl
               ·exact HD2.out j (by omega), Ext.trans HZ.out HE1.out⟩
        case measure => simp [intOf]; omega
       ·obtain ⟨m', rfl⟩ : ∃ m', k = m' + 1 := ⟨k - 1, by omega⟩
        have g0 : decide ((0 : Int) < ((m' : Int) + 1)) = true := decide_eq_true (by omega)
        have cm := HA.out.cell m' (by omega)
        have km := cell_regrown cm
        have hm1 : (m' : Int) < (x.np : Int) := by omega
        have hw1 : wrap64 ((m' : Int) + 1 - 1) = m' := by unfold wrap64; omega
        have hw2 : IntKind.i64.wrap ((m' : Int) + 1 - 1) = m' := by rw [IntKind.wrap_i64]; omega
        have Hup : Hid (upB x.fp (m' + 1) = decide (x.fp m' < x.fp (m' + 1))) := hide (by unfold upB; simp)
        clear hk0
        obtain ⟨r, hr⟩ : ∃ r, decide (x.fp (m' + 1) ≤ x.fp m') = r := ⟨_, rfl⟩
        have Hr : Hid (upB x.fp (m' + 1) = !r) := hide (by
         rw [Hup.out, ← hr]
         by_cases e : x.fp m' < x.fp (m' + 1)
         ·rw [decide_eq_true e, decide_eq_false (by omega)]; rfl
         ·rw [decide_eq_false e, decide_eq_true (by omega)]; rfl)
        clear Hup
        go_wp2_with fail
        refine wp_region_quiet_below (by kernel_rfl) (by kernel_rfl) ?_
        repeat (first | go_big_quiet_step (first | (go_at_call 23; exact HC.out _ _)) | quiet_step (first | (go_at_call 23; exact HC.out _ _)))
        refine wpQuiet_nil ?_
        intro _ hw'
        obtain ⟨⟨dq, osq⟩, hw''⟩ := hw'
        subst hw''
        have HE1 : Hid (Ext wr (Sort.grow (redrawn wr dq) osq)) := hide (below_regrown wr dq osq)
        cases r
        ·go_wp2
         go_roundw
         case rel => exact ⟨m' + 1 + 1, by omega, by go_num, fun j hj => by
                by_cases e : j = m' + 1
                ·subst e; rw [Hq.out, Hr.out]; rfl
                ·exact HD2.out j (by omega), Ext.trans HZ.out HE1.out⟩
         case measure => simp [intOf]; omega
        ·go_wp2
         go_ret
         exact ⟨ret_bool (by rw [HV.out, allB_no hlt (by rw [Hr.out, Bool.not_true, Bool.and_false])]), Ext.trans HE.out (Ext.trans HXw.out (Ext.trans HZ.out HE1.out))⟩
     ·obtain rfl : k = x.np := by omega
      clear hZ
      go_wp2
      go_ret
      exact ⟨ret_bool (by rw [HV.out, allB_yes HD2.out]), Ext.trans HE.out (Ext.trans HXw.out HZ.out)⟩
 ·go_wp2_with fail
  refine (H3.out _).mono ?_
  rintro e w3 ⟨rfl, hE3⟩
  replace HB := hide (Blk.ext HB.out hE3 (Blk.lt HB.out (by simp [exL])))
  replace HX := hide (Ext.trans HX.out hE3)
  clear hE3 H3 c0 c1 c2 g2 Hz
  cases q3
  ·go_wp2
   go_ret
   exact ⟨ret_bool (by rw [HV.out]; rfl), Ext.trans HE.out HX.out⟩
  have c3 := (HB.out 3 _ rfl).1
  go_wp2_with fail
  refine (H4.out _ HX.out).mono ?_
  rintro e w4 ⟨rfl, hE4⟩
  replace HB := hide (Blk.ext HB.out hE4 (Blk.lt HB.out (by simp [exL])))
  replace HX := hide (Ext.trans HX.out hE4)
  clear hE4 H4 c3
  cases q4
  ·go_wp2
   go_ret
   exact ⟨ret_bool (by rw [HV.out]; rfl), Ext.trans HE.out HX.out⟩
  have c5 := (HB.out 5 _ rfl).1
  go_wp2_with fail
  refine (H5.out _ HX.out).mono ?_
  rintro e w5 ⟨rfl, hE5⟩
  replace HB := hide (Blk.ext HB.out hE5 (Blk.lt HB.out (by simp [exL])))
  replace HX := hide (Ext.trans HX.out hE5)
  clear hE5 H5 c5
  cases q5
  ·go_wp2
   go_ret
   exact ⟨ret_bool (by rw [HV.out]; rfl), Ext.trans HE.out HX.out⟩
  have c6 := (HB.out 6 _ rfl).1
  go_wp2_with fail
  refine (H6.out _ HX.out).mono ?_
  rintro e w6 ⟨rfl, hE6⟩
  replace HB := hide (Blk.ext HB.out hE6 (Blk.lt HB.out (by simp [exL])))
  replace HX := hide (Ext.trans HX.out hE6)
  clear hE6 H6 c6
  cases q6
  ·go_wp2
   go_ret
   exact ⟨ret_bool (by rw [HV.out]; rfl), Ext.trans HE.out HX.out⟩
  have c4 := (HB.out 4 _ rfl).1
  have c7 := (HB.out 7 _ rfl).1
  simp only [Bool.true_and] at HV
  by_cases hn6 : x.nn ≤ 6
  case neg =>
   have g6 : (6 : Int) < (x.nn : Int) := by omega
   rw [decide_eq_false hn6] at HV
   clear hn6
   go_wp2
   go_ret
   exact ⟨ret_bool (by rw [HV.out]; rfl), Ext.trans HE.out HX.out⟩
  have g6 : ¬ (6 : Int) < (x.nn : Int) := by omega
  by_cases hp6 : x.np ≤ 6
  case neg =>
   have g7 : (6 : Int) < (x.np : Int) := by omega
   rw [decide_eq_false hp6, Bool.false_and, Bool.and_false] at HV
   clear hp6
   go_wp2
   go_ret
   exact ⟨ret_bool (by rw [HV.out]), Ext.trans HE.out HX.out⟩
  have g7 : ¬ (6 : Int) < (x.np : Int) := by omega
  rw [decide_eq_true hn6, decide_eq_true hp6, Bool.true_and, Bool.true_and] at HV
  clear hn6 hp6
  have HB6 := HB
  have HX6 := hide (Blk.lt HB.out (by simp [exL]))
  go_wp2
  clear c4 c7 g6 g7
  go_loopw [3] (fun i wr => ∃ k : Nat, k ≤ x.nn ∧ i = .int .i64 (k : Int) ∧ (∀ j, j < k → fourB (x.ln j) (x.fn j) = true) ∧ Ext w6 wr) (fun i _ => x.nn - (intOf i).toNat)
  case atStart => exact ⟨0, Nat.zero_le _, rfl, fun j hj => absurd hj (Nat.not_lt_zero _), Ext.refl _⟩
  case round =>
   obtain ⟨k, hk, rfl, hd, hY⟩ := hrel
   have HD := hide hd
   have HY := hide hY
   clear hd
   have c4 := ((Blk.ext HB.out hY HX6.out) 4 _ rfl).1
   by_cases hlt : k < x.nn
   ·have hA := HIn.out.of_all (Ext.trans HX.out hY)
    have cc := hA.cell k hlt
    have hat := hA.at' (by omega)
    rw [hat] at c4
    have hkn : (k : Int) < (x.nn : Int) := by omega
    have HC := hide (HNt.out k hlt wr (Ext.trans HX.out hY))
    clear hA hat hY
    obtain ⟨q, hq⟩ : ∃ q, fourB (x.ln k) (x.fn k) = q := ⟨_, rfl⟩
    rw [hq] at HC
    have Hq := hide hq
    clear hq
    go_wp2_with fail
    refine HC.out.mono ?_
    rintro e W ⟨rfl, hw⟩
    obtain rfl := hw.symm
    clear hw HC
    cases q
    ·go_wp2
     go_ret
     exact ⟨ret_bool (by rw [HV.out, allB_no hlt Hq.out]; rfl), Ext.trans HE.out (Ext.trans HX.out HY.out)⟩
    ·go_wp2
     go_roundw
     case rel => exact ⟨k + 1, by omega, by go_num, fun j hj => by
            by_cases e : j = k
            ·subst e; exact Hq.out
            ·exact HD.out j (by omega), HY.out⟩
     case measure => simp [intOf]; omega
   ·obtain rfl : k = x.nn := by omega
    rw [allB_yes HD.out, Bool.true_and] at HV
    have HBw := hide (Blk.ext HB.out hY HX6.out)
    have HXw := hide (Ext.trans HX.out hY)
    have HLw := hide (Blk.lt HBw.out (by simp [exL]))
    clear hY
    generalize wr = wO at *
    go_wp2
    clear c4
    go_loopw [4] (fun i wr2 => ∃ k2 : Nat, k2 ≤ x.np ∧ i = .int .i64 (k2 : Int) ∧ (∀ j, j < k2 → (ppB (x.fp j) && upB x.fp j) = true) ∧ Ext wO wr2) (fun i _ => x.np - (intOf i).toNat)
    case atStart => exact ⟨0, Nat.zero_le _, rfl, fun j hj => absurd hj (Nat.not_lt_zero _), Ext.refl _⟩
    case round =>
     obtain ⟨k, hk, rfl, hd, hZ⟩ := hrel
     have HD2 := hide hd
     have HZ := hide hZ
     clear hd
     have c7 := ((Blk.ext HBw.out hZ HLw.out) 7 _ rfl).1
     by_cases hlt : k < x.np
     ·have hA := HIp.out.of_all (Ext.trans HXw.out hZ)
      have cc := hA.cell k hlt
      have hat := hA.at' (by omega)
      rw [hat] at c7
      have hkn : (k : Int) < (x.np : Int) := by omega
      have k7 := cell_regrown c7
      have kc := cell_regrown cc
      obtain ⟨q, hq⟩ : ∃ q, ppB (x.fp k) = q := ⟨_, rfl⟩
      have HC : Hid (∀ d os, Calls Tryz.prog 23 #[.int .i64 (x.fp k), .int .i64 1, .int .i64 1000] (Sort.grow (redrawn wr d) os) fun e w'' => e = .returned (.bool q) ∧ ∃ p : Regrown, w'' = Sort.grow (redrawn wr p.d) p.os) := fun d os => by
       rw [← hq]
       exact Calls.regrown_of ((l1InB (x.fp k) 1 1000 _).mono fun e w' ⟨h1, h2⟩ => ⟨h1, h2 ▸ Ext.refl _⟩)
      have Hq := hide hq
      have HA := hide hA
      clear hq hat hZ hA
      cases q
      ·go_wp2_with fail
       refine wp_region_quiet_below (by kernel_rfl) (by kernel_rfl) ?_
       repeat (first | go_big_quiet_step (first | (go_at_call 23; exact HC.out _ _)) | quiet_step (first | (go_at_call 23; exact HC.out _ _)))
       refine wpQuiet_nil ?_
       intro _ hw'
       obtain ⟨⟨dq, osq⟩, hw''⟩ := hw'
       subst hw''
       have HE1 : Hid (Ext wr (Sort.grow (redrawn wr dq) osq)) := hide (below_regrown wr dq osq)
       go_wp2
       go_ret
       exact ⟨ret_bool (by rw [HV.out, allB_no hlt (by rw [Hq.out]; rfl)]), Ext.trans HE.out (Ext.trans HXw.out (Ext.trans HZ.out HE1.out))⟩
      ·by_cases hk0 : k = 0
       ·have Hk0 := hide hk0
        have g0 : decide ((0 : Int) < (k : Int)) = false := decide_eq_false (by omega)
        have g0n : decide (0 < k) = false := decide_eq_false (by omega)
        have g0p : ¬ 0 < k := by omega
        clear hk0
        go_wp2_with fail
        refine wp_region_quiet_below (by kernel_rfl) (by kernel_rfl) ?_
        repeat (first | go_big_quiet_step (first | (go_at_call 23; exact HC.out _ _)) | quiet_step (first | (go_at_call 23; exact HC.out _ _)))
        refine wpQuiet_nil ?_
        intro _ hw'
        obtain ⟨⟨dq, osq⟩, hw''⟩ := hw'
        subst hw''
        have HE1 : Hid (Ext wr (Sort.grow (redrawn wr dq) osq)) := hide (below_regrown wr dq osq)
        go_wp2
        go_roundw
        case rel => exact ⟨k + 1, by omega, by go_num, fun j hj => by
               by_cases e : j = k
               ·subst e; rw [Hq.out, Hk0.out]; rfl
               ·exact HD2.out j (by omega), Ext.trans HZ.out HE1.out⟩
        case measure => simp [intOf]; omega
       ·obtain ⟨m', rfl⟩ : ∃ m', k = m' + 1 := ⟨k - 1, by omega⟩
        have g0 : decide ((0 : Int) < ((m' : Int) + 1)) = true := decide_eq_true (by omega)
        have cm := HA.out.cell m' (by omega)
        have km := cell_regrown cm
        have hm1 : (m' : Int) < (x.np : Int) := by omega
        have hw1 : wrap64 ((m' : Int) + 1 - 1) = m' := by unfold wrap64; omega
        have hw2 : IntKind.i64.wrap ((m' : Int) + 1 - 1) = m' := by rw [IntKind.wrap_i64]; omega
        have Hup : Hid (upB x.fp (m' + 1) = decide (x.fp m' < x.fp (m' + 1))) := hide (by unfold upB; simp)
        clear hk0
        obtain ⟨r, hr⟩ : ∃ r, decide (x.fp (m' + 1) ≤ x.fp m') = r := ⟨_, rfl⟩
        have Hr : Hid (upB x.fp (m' + 1) = !r) := hide (by
         rw [Hup.out, ← hr]
         by_cases e : x.fp m' < x.fp (m' + 1)
         ·rw [decide_eq_true e, decide_eq_false (by omega)]; rfl
         ·rw [decide_eq_false e, decide_eq_true (by omega)]; rfl)
        clear Hup
        go_wp2_with fail
        refine wp_region_quiet_below (by kernel_rfl) (by kernel_rfl) ?_
        repeat (first | go_big_quiet_step (first | (go_at_call 23; exact HC.out _ _)) | quiet_step (first | (go_at_call 23; exact HC.out _ _)))
        refine wpQuiet_nil ?_
        intro _ hw'
        obtain ⟨⟨dq, osq⟩, hw''⟩ := hw'
        subst hw''
        have HE1 : Hid (Ext wr (Sort.grow (redrawn wr dq) osq)) := hide (below_regrown wr dq osq)
        cases r
        ·go_wp2
         go_roundw
         case rel => exact ⟨m' + 1 + 1, by omega, by go_num, fun j hj => by
                by_cases e : j = m' + 1
                ·subst e; rw [Hq.out, Hr.out]; rfl
                ·exact HD2.out j (by omega), Ext.trans HZ.out HE1.out⟩
         case measure => simp [intOf]; omega
        ·go_wp2
         go_ret
         exact ⟨ret_bool (by rw [HV.out, allB_no hlt (by rw [Hr.out, Bool.not_true, Bool.and_false])]), Ext.trans HE.out (Ext.trans HXw.out (Ext.trans HZ.out HE1.out))⟩
     ·obtain rfl : k = x.np := by omega
      clear hZ
      go_wp2
      go_ret
      exact ⟨ret_bool (by rw [HV.out, allB_yes HD2.out]), Ext.trans HE.out (Ext.trans HXw.out HZ.out)⟩
end Go.Proofs.YtfhiiakoilkbkaaGreatDoor
