/- Walks: ReadTime of the model. ReadTime of the model, whatever the text. Plain: what stays of a list in the making when numbers are put onto it. -/
import Derived.Test.YtkogbinfhoiggaaGreatDoorCx43
namespace Go.Proofs.YtkogbinfhoiggaaGreatDoor
set_option linter.unusedVariables false
set_option linter.unusedSimpArgs false
section
open Go.RowKit Go.Sort
theorem Grw.of_belowT {X : Nat → Prop} {B : Nat} {a b : World} (h : Below B a b) (hX : ∀ k, B ≤ k → X k) : Grw X a b :=
 ⟨h.os, h.tape, h.output, h.size, fun k hk hn => h.block k (by
  by_cases hh : k < B
  ·exact hh
  ·exact absurd (hX k (by omega)) hn)⟩
theorem own_of_intsc {w : World} {B n : Nat} {v : Value} {F : Nat → Int} (h : w.ownsRow B 3 1 v n (ints F n)) (h0 : 0 < n) : ∃ g cap, v = .slice (some ⟨g, 0, none⟩) n cap ∧ n ≤ cap ∧ cap ≤ maxLen ∧ ∀ i, i < n → w.cell? ⟨g, i, none⟩ = some (.int .i64 (F i)) := by
 have h' := h
 obtain ⟨a, g, cap, rfl, -, hO⟩ := own_of_owns h
 obtain rfl := hO.at' h0
 rcases h'.2 with ⟨e, h1⟩ | ⟨g2, cap2, cur, hv, -, -, h1, h2, -⟩
 ·omega
 ·obtain ⟨rfl, rfl⟩ : g = g2 ∧ cap = cap2 := by injection hv with e1 e2 e3; injection e1 with e1; injection e1 with e1; exact ⟨e1, e3⟩
  refine ⟨g, cap, rfl, h1, h2, fun i hi => ?_⟩
  have := hO.cell i hi
  rwa [Nat.zero_add] at this
theorem reg_ofT {f : Nat} {args : Array Value} {v : Value} (H : ∀ W, Calls Tryz.prog f args W fun e w' => e = .returned v ∧ Ext W w') : Hid (∀ (W : World) d os, Calls Tryz.prog f args (grow (redrawn W d) os) fun e w'' => e = .returned v ∧ ∃ p : Regrown, w'' = grow (redrawn W p.d) p.os) := fun W d os => Calls.regrown_of (H _)
theorem ext_drewT (w : World) (q : Nat) : Ext w (w.drewN q) := ⟨rfl, rfl, rfl, Nat.le_refl _, fun _ _ => rfl⟩
theorem seg_one (w : World) (x : Int) : Seg (w.alloc (.cells #[.int .i64 x] 3)) (some ⟨w.heap.size, 0, none⟩) w.heap.size 0 1 (fun _ => x) :=
 ⟨fun _ => rfl, fun i hi => by
  obtain rfl : i = 0 := by omega
  exact (Blk.alloc w [.int .i64 x] 3 0 _ rfl).1⟩
theorem ints_push {F : Nat → Int} {k : Nat} {V : Int} (h : F k = V) : ints F k ++ ints (fun _ => V) 1 = ints F (k + 1) := by
 rw [ints_succ F k, h]
 rfl
theorem ix_str (s : ByteArray) (j : Nat) (h : j < s.size) (W : World) : (Instr.index 9 (.string s) (.int .i64 (j : Int))).run Tryz.prog W = .ok (.int .u8 (bt s j : Int)) W := by
 rw [run_index_string W _ s _ _ Tryz.underlying9, dif_pos ⟨by omega, by omega⟩, ← bt_get s j h]
 rfl
theorem pair_facts {c1 c2 m1 m2 : Nat} (h1 : m1 = c1 - 48) (h2 : m2 = c2 - 48) (a : 48 ≤ c1) (b : c1 ≤ 57) (c : 48 ≤ c2) (d : c2 ≤ 57) : IntKind.u8.wrap ((c1 : Int) - 48) = (m1 : Int) ∧ IntKind.u8.wrap ((c2 : Int) - 48) = (m2 : Int) ∧ wrap64 (m1 : Int) = m1 ∧ wrap64 (m2 : Int) = m2 ∧ IntKind.i64.wrap (m1 : Int) = m1 ∧ IntKind.i64.wrap (m2 : Int) = m2 ∧ wrap64 (10 * (m1 : Int)) = 10 * m1 ∧ wrap64 (10 * (m1 : Int) + (m2 : Int)) = ((10 * m1 + m2 : Nat) : Int) ∧ IntKind.i64.wrap (10 * (m1 : Int)) = 10 * m1 ∧ IntKind.i64.wrap (10 * (m1 : Int) + (m2 : Int)) = ((10 * m1 + m2 : Nat) : Int) := by
 refine ⟨by rw [IntKind.wrap_u8]; omega, by rw [IntKind.wrap_u8]; omega, by unfold wrap64; omega, by unfold wrap64; omega, by rw [IntKind.wrap_i64]; omega, by rw [IntKind.wrap_i64]; omega, by unfold wrap64; omega, by unfold wrap64; omega, by rw [IntKind.wrap_i64]; omega, by rw [IntKind.wrap_i64]; omega⟩
theorem dgB_le {c : Nat} (h : dgB c = true) : 48 ≤ c ∧ c ≤ 57 := by
 unfold dgB at h
 simpa using h
theorem vp_le {s : ByteArray} {n i : Nat} (h : allN dgB s n = true) (hi : 2 * i + 1 < n) : vp s i ≤ 99 := by
 have a := dgB_le ((allN_iff _ _ _).1 h (2 * i) (by omega))
 have b := dgB_le ((allN_iff _ _ _).1 h (2 * i + 1) (by omega))
 unfold vp
 omega
theorem year_facts {a b : Nat} (ha : a ≤ 99) (hb : b ≤ 99) : wrap64 (2000 + (a : Int)) = ((2000 + a : Nat) : Int) ∧ wrap64 (1900 + (a : Int)) = ((1900 + a : Nat) : Int) ∧ wrap64 (100 * (a : Int)) = ((100 * a : Nat) : Int) ∧ wrap64 (((100 * a : Nat) : Int) + (b : Int)) = ((100 * a + b : Nat) : Int) ∧ IntKind.i64.wrap (100 * (a : Int)) = ((100 * a : Nat) : Int) ∧ IntKind.i64.wrap (((100 * a : Nat) : Int) + (b : Int)) = ((100 * a + b : Nat) : Int) := by
 refine ⟨by unfold wrap64; omega, by unfold wrap64; omega, by unfold wrap64; omega, by unfold wrap64; omega, by rw [IntKind.wrap_i64]; omega, by rw [IntKind.wrap_i64]; omega⟩
theorem sec_facts {a b c : Nat} (ha : a ≤ 99) (hb : b ≤ 99) (hc : c ≤ 99) : wrap64 (3600 * (a : Int)) = ((3600 * a : Nat) : Int) ∧ wrap64 (60 * (b : Int)) = ((60 * b : Nat) : Int) ∧ wrap64 (((3600 * a : Nat) : Int) + ((60 * b : Nat) : Int)) = ((3600 * a + 60 * b : Nat) : Int) ∧ wrap64 (((3600 * a + 60 * b : Nat) : Int) + (c : Int)) = ((3600 * a + 60 * b + c : Nat) : Int) ∧ IntKind.i64.wrap (3600 * (a : Int)) = ((3600 * a : Nat) : Int) ∧ IntKind.i64.wrap (60 * (b : Int)) = ((60 * b : Nat) : Int) ∧ IntKind.i64.wrap (((3600 * a : Nat) : Int) + ((60 * b : Nat) : Int)) = ((3600 * a + 60 * b : Nat) : Int) ∧ IntKind.i64.wrap (((3600 * a + 60 * b : Nat) : Int) + (c : Int)) = ((3600 * a + 60 * b + c : Nat) : Int) := by
 refine ⟨by unfold wrap64; omega, by unfold wrap64; omega, by unfold wrap64; omega, by unfold wrap64; omega, by rw [IntKind.wrap_i64]; omega, by rw [IntKind.wrap_i64]; omega, by rw [IntKind.wrap_i64]; omega, by rw [IntKind.wrap_i64]; omega⟩
theorem tTm_if (y m d s : Int) : (if tOk y m d s = true then tTm y m d s else 0) = tTm y m d s := by
 cases h : tOk y m d s
 ·unfold tTm; rw [h]; rfl
 ·rfl
set_option maxHeartbeats 3200000 in
set_option maxRecDepth 100000 in
theorem specRead_13 (s : ByteArray) (hs : s.size = 13) (w : World) : Calls Tryz.prog 17 #[.string s] w fun e w' => e = .returned (.tuple #[.int .i64 (txV (cenB s ++ s)), .bool (txOk (cenB s ++ s))]) ∧ Ext w w' := by
 obtain ⟨i0, hi0, hz0, hz1, hz2⟩ := info_parts Tryz.info3
 obtain ⟨E1, E2⟩ := tx13 hs
 rw [E2, E1]
 clear E1 E2
 have hn1 : (s.size : Int) = 13 := by omega
 have hlast := bt_get s 12 (by omega)
 have hzx : s.extract 0 12 = s.extract 0 12 := rfl
 have HDg := hide (l8Digits_any (s.extract 0 12) (by rw [ByteArray.size_extract]; omega) w)
 rw [dig_cut s 12 (by omega), show decide (0 < (s.extract 0 12).size) = true from decide_eq_true (by rw [ByteArray.size_extract]; omega), Bool.and_true] at HDg
 by_cases hz : bt s 12 = 90
 ·rw [decide_eq_true hz, Bool.true_and]
  have hz' : ((bt s 12 : Int) != 90) = false := by simp; omega
  cases hd : allN dgB s 12
  ·rw [hd] at HDg
   rw [Bool.false_and, if_neg Bool.false_ne_true]
   generalize bt s 12 = c at *
   clear hd hz
   go_enter Tryz.func17, Tryz.ntmps17
   go_wp2_with (go_at_call 39; refine HDg.out.mono ?_; rintro e w1 ⟨rfl, hw⟩; obtain rfl := hw.symm)
   go_ret2
   exact ⟨rfl, Ext.refl _⟩
  ·rw [hd] at HDg
   rw [Bool.true_and]
   have HB := hide ((allN_iff _ _ _).1 hd)
   have HV : Hid (∀ i, i < 6 → vp s i ≤ 99) := fun i hi => vp_le hd (by omega)
   have HS := hide hs
   have HQ : Hid (q13 s = (decide (vp s 3 ≤ 23 ∧ vp s 4 ≤ 59 ∧ vp s 5 ≤ 59) && tOk (yr2 (vp s 0) : Int) (vp s 1 : Int) (vp s 2 : Int) ((3600 * vp s 3 + 60 * vp s 4 + vp s 5 : Nat) : Int))) := rfl
   generalize q13 s = QB at *
   generalize hTV : tTm (yr2 (vp s 0) : Int) (vp s 1 : Int) (vp s 2 : Int) ((3600 * vp s 3 + 60 * vp s 4 + vp s 5 : Nat) : Int) = TV at *
   have HTV := hide hTV
   clear hTV
   generalize hRV : (if QB = true then TV else 0) = RV at *
   have HRV := hide hRV
   clear hRV
   have HO := hide (World.ownsRow_made (base := w.heap.size) (e := 3) (size := 1) w #[] 0 (Nat.le_refl _) (by simp) rfl)
   generalize hcc : bt s 12 = c at *
   clear hd hz hcc
   go_enter Tryz.func17, Tryz.ntmps17
   go_wp2_with (go_at_call 39; refine HDg.out.mono ?_; rintro e w1 ⟨rfl, hw⟩; obtain rfl := hw.symm)
   clear hz' hlast HDg
   go_loopw [5, 6] (fun v i wr => ∃ k : Nat, k ≤ 6 ∧ i = .int .i64 ((2 * k : Nat) : Int) ∧ wr.ownsRow w.heap.size 3 1 v k (ints (fun i => (vp s i : Int)) k) ∧ Ext w wr) (fun _ i _ => 14 - (intOf i).toNat)
   case atStart => exact ⟨0, Nat.zero_le _, rfl, HO.out, Ext.alloc _ _⟩
   case round =>
    obtain ⟨k, hk, rfl, hO, hE⟩ := hrel
    have HEx := hide hE
    clear hE HO
    by_cases hlt : k < 6
    ·obtain ⟨j, hj⟩ : ∃ j, j = 2 * k := ⟨_, rfl⟩
     rw [← hj]
     have hj1 : j < s.size := by rw [HS.out]; omega
     have hj2 : j + 1 < s.size := by rw [HS.out]; omega
     have hb1 := ix_str s j hj1
     have hb2 := ix_str s (j + 1) hj2
     rw [show (((j + 1 : Nat)) : Int) = (j : Int) + 1 from rfl] at hb2
     have g1 := dgB_le (HB.out j (by omega))
     have g2 := dgB_le (HB.out (j + 1) (by omega))
     have hvp : vp s k = 10 * (bt s j - 48) + (bt s (j + 1) - 48) := by rw [hj]; rfl
     generalize bt s j = c1 at *
     generalize bt s (j + 1) = c2 at *
     obtain ⟨m1, hm1⟩ : ∃ m1, m1 = c1 - 48 := ⟨_, rfl⟩
     obtain ⟨m2, hm2⟩ : ∃ m2, m2 = c2 - 48 := ⟨_, rfl⟩
     have HP := hide (pair_facts hm1 hm2 g1.1 g1.2 g2.1 g2.2)
     rw [← hm1, ← hm2] at hvp
     have Hvp := hide (congrArg (fun z : Nat => (z : Int)) hvp)
     have h1 : (j : Int) + 1 < 13 := by omega
     have hw1 : wrap64 ((j : Int) + 1) = (j : Int) + 1 := by unfold wrap64; omega
     have hw3 : IntKind.i64.wrap ((j : Int) + 1) = (j : Int) + 1 := by rw [IntKind.wrap_i64]; omega
     have hw2 : wrap64 ((j : Int) + 2) = (j : Int) + 2 := by unfold wrap64; omega
     have Hj := hide hj
     have hj13 : j + 1 < 13 := by omega
     generalize 10 * m1 + m2 = V at *
     have HO := hide hO
     clear hO hj hm1 hm2 hvp g1 g2
     obtain ⟨f1, f2, f3, f4, f5, f6, f7, f8, f9, f10⟩ := HP.out
     clear HP
     have hs := HS.out
     have x1 : ∀ b, w.heap.size ≤ b → w.heap.size ≤ b := fun _ h => h
     go_wp2
     refine anyK_begin (fun b => w.heap.size ≤ b) 17 rfl (by kernel_rfl) ?_
     refine anyK_take 0 14 3 rfl (by decide) (by kernel_rfl) (fun _ _ d _ _ h => by cases d <;> exact h) ?_
     repeat (refine headC_step (fun K hK => ?_); go_simp; refine hK _ ?_; clear hK K)
     refine headC_nil ?_
     refine anyK_one 14 (by kernel_rfl) ?_
     refine stepK_run rfl ?_
     intro w3 h3 K2 hK2
     go_simp
     refine hK2 _ _ (.of_ext (h3.trans (Ext.alloc _ _))) ?_
     clear hK2 K2 f1 f2 f3 f4 f5 f6 f7 f8 f9 f10
     have HS3 := hide (seg_one w3 (V : Int))
     have E4 := hide (h3.trans (Ext.alloc w3 (.cells #[.int .i64 (V : Int)] 3)))
     generalize w3.alloc (.cells #[.int .i64 (V : Int)] 3) = w4 at *
     generalize w3.heap.size = SL at *
     clear h3
     refine anyK_one 15 (by kernel_rfl) ?_
     refine stepK_run rfl ?_
     intro w5 h5 K2 hK2
     have HO5 := hide (iowns_ext' HO.out (E4.out.trans h5))
     have HS5 := hide (HS3.out.of_all h5)
     have E5 := hide (E4.out.trans h5)
     have hB5 : w.heap.size ≤ w5.heap.size := Nat.le_trans (Below.size HEx.out) (Below.size E5.out)
     rw [if_pos (show _ = true by kernel_rfl)]
     refine wp_append_is _ _ rfl w.heap.size _ k _ rfl HO5.out _ SL 0 1 _ (fun _ => (V : Int)) rfl HS5.out (by omega) hB5 ?_
     intro v6 w6 hO6 h6
     refine hK2 _ _ ((Grw.of_ext E5.out).trans (Grw.of_belowT h6 x1)) ?_
     clear hK2 K2
     have HF4 : Hid (w6.ownsRow w.heap.size 3 1 v6 (k + 1) (ints (fun i => (vp s i : Int)) (k + 1)) ∧ Ext w w6) := by
      refine ⟨?_, Below.trans (HEx.out.trans E5.out) h6⟩
      rw [← ints_push (F := fun i => (vp s i : Int)) (k := k) (V := (V : Int)) Hvp.out]
      exact hO6
     clear hO6 h6 HS5 HO5 HS3 E4 h5 E5 hB5 HO
     refine anyK_take 16 1 0 rfl (by decide) (by kernel_rfl) (fun _ _ d _ _ h => by cases d <;> exact h) ?_
     repeat (refine headC_step (fun K hK => ?_); go_simp; refine hK _ ?_; clear hK K)
     refine headC_nil ?_
     refine anyK_done (by kernel_rfl) ?_ 0
     intro w7 h7
     replace HF4 := hide (And.intro (iowns_ext' HF4.out.1 h7) (HF4.out.2.trans h7))
     clear h7
     go_wp2
     go_roundw
     case rel => clear hw1 hw2 hw3; have := Hj.out; exact ⟨k + 1, by omega, congrArg (Value.int IntKind.i64) (by omega), HF4.out⟩
     case measure => clear hw1 hw2 hw3; simp [intOf]; omega
    ·obtain rfl : k = 6 := by omega
     have hlt' : ¬ (((12 : Nat) : Int) + 1 < 13) := by omega
     obtain ⟨g, cap, rfl, hc1, hc2, hcells⟩ := own_of_intsc hO (by omega)
     have c0 := hcells 0 (by omega)
     have c1 := hcells 1 (by omega)
     have c2 := hcells 2 (by omega)
     have c3 := hcells 3 (by omega)
     have c4 := hcells 4 (by omega)
     have c5 := hcells 5 (by omega)
     clear hcells
     have b0 := HV.out 0 (by omega)
     have b1 := HV.out 1 (by omega)
     have b2 := HV.out 2 (by omega)
     have b3 := HV.out 3 (by omega)
     have b4 := HV.out 4 (by omega)
     have b5 := HV.out 5 (by omega)
     generalize vp s 0 = x0 at *
     generalize vp s 1 = x1 at *
     generalize vp s 2 = x2 at *
     generalize vp s 3 = x3 at *
     generalize vp s 4 = x4 at *
     generalize vp s 5 = x5 at *
     clear hO hk hlt hc2 HB HV HS
     have hcap : ¬ cap = 1 := by omega
     have HBd := hide (And.intro b0 (And.intro b1 (And.intro b2 (And.intro b3 (And.intro b4 b5)))))
     clear b0 b1 b2 b3 b4 b5
     obtain ⟨y1, y2, y3, y4, y5, y6⟩ := year_facts (a := x0) (b := x1) (by have := HBd.out; omega) (by have := HBd.out; omega)
     obtain ⟨z1, z2, z3, z4, z5, z6, z7, z8⟩ := sec_facts (a := x3) (b := x4) (c := x5) (by have := HBd.out; omega) (by have := HBd.out; omega) (by have := HBd.out; omega)
     generalize 3600 * x3 + 60 * x4 + x5 = SS at *
     generalize 3600 * x3 + 60 * x4 = S1 at *
     generalize 3600 * x3 = S2 at *
     generalize 60 * x4 = S3 at *
     by_cases hy : 50 ≤ x0
     ·have hY : yr2 x0 = 1900 + x0 := by unfold yr2; rw [if_pos hy]
      have hyi : decide ((50 : Int) ≤ (x0 : Int)) = true := decide_eq_true (by omega)
      have hyj : decide (50 ≤ x0) = true := decide_eq_true hy
      rw [hY] at HQ HTV
      generalize 1900 + x0 = YY at *
      generalize 2000 + x0 = YZ at *
      clear hY hy
      by_cases r1 : x3 ≤ 23 ∧ x4 ≤ 59 ∧ x5 ≤ 59
      ·have q1 : ¬ (23 : Int) < (x3 : Int) := by omega
       have q2 : ¬ (59 : Int) < (x4 : Int) := by omega
       have q3 : ¬ (59 : Int) < (x5 : Int) := by omega
       have hQ : QB = tOk (YY : Int) (x1 : Int) (x2 : Int) (SS : Int) := by rw [HQ.out, decide_eq_true r1, Bool.true_and]
       have hTV := HTV.out
       have HT := reg_ofT (fun W => specTimeOf_any (YY : Int) (x1 : Int) (x2 : Int) (SS : Int) W)
       have Hif := hide (tTm_if (YY : Int) (x1 : Int) (x2 : Int) (SS : Int))
       rw [← hQ, hTV] at HT Hif
       have hR : RV = TV := HRV.out.symm.trans Hif.out
       subst hR
       clear r1 HQ HTV hQ hTV Hif HRV
       go_wp2
       replace c0 := fun d os => cell_regrown c0 d os
       replace c1 := fun d os => cell_regrown c1 d os
       replace c2 := fun d os => cell_regrown c2 d os
       replace c3 := fun d os => cell_regrown c3 d os
       replace c4 := fun d os => cell_regrown c4 d os
       replace c5 := fun d os => cell_regrown c5 d os
       refine wp_region_quiet_below (by kernel_rfl) (by kernel_rfl) ?_
       repeat (first | go_big_quiet_step (first | (go_at_call 40; exact HT.out _ _ _)) | quiet_step (first | (go_at_call 40; exact HT.out _ _ _)))
       refine wpQuiet_nil ?_
       intro _ hw'
       obtain ⟨⟨dq, osq⟩, hw''⟩ := hw'
       subst hw''
       go_wp2
       go_ret2
       exact ⟨rfl, Ext.trans HEx.out (below_regrown _ _ _)⟩
      ·have hQ : QB = false := by rw [HQ.out, decide_eq_false r1, Bool.false_and]
       subst hQ
       have hR : RV = 0 := HRV.out.symm.trans (if_neg Bool.false_ne_true)
       subst hR
       have r2 : (23 : Int) < (x3 : Int) ∨ (¬ (23 : Int) < (x3 : Int) ∧ (59 : Int) < (x4 : Int)) ∨ (¬ (23 : Int) < (x3 : Int) ∧ ¬ (59 : Int) < (x4 : Int) ∧ (59 : Int) < (x5 : Int)) := by omega
       clear r1 HQ HTV
       rcases r2 with q1 | ⟨q1, q2⟩ | ⟨q1, q2, q3⟩
       all_goals
        go_wp2
        go_ret2
        exact ⟨rfl, HEx.out⟩
     ·have hY : yr2 x0 = 2000 + x0 := by unfold yr2; rw [if_neg hy]
      have hyi : decide ((50 : Int) ≤ (x0 : Int)) = false := decide_eq_false (by omega)
      have hyj : decide (50 ≤ x0) = false := decide_eq_false hy
      rw [hY] at HQ HTV
      generalize 2000 + x0 = YY at *
      generalize 1900 + x0 = YZ at *
      clear hY hy
      by_cases r1 : x3 ≤ 23 ∧ x4 ≤ 59 ∧ x5 ≤ 59
      ·have q1 : ¬ (23 : Int) < (x3 : Int) := by omega
       have q2 : ¬ (59 : Int) < (x4 : Int) := by omega
       have q3 : ¬ (59 : Int) < (x5 : Int) := by omega
       have hQ : QB = tOk (YY : Int) (x1 : Int) (x2 : Int) (SS : Int) := by rw [HQ.out, decide_eq_true r1, Bool.true_and]
       have hTV := HTV.out
       have HT := reg_ofT (fun W => specTimeOf_any (YY : Int) (x1 : Int) (x2 : Int) (SS : Int) W)
       have Hif := hide (tTm_if (YY : Int) (x1 : Int) (x2 : Int) (SS : Int))
       rw [← hQ, hTV] at HT Hif
       have hR : RV = TV := HRV.out.symm.trans Hif.out
       subst hR
       clear r1 HQ HTV hQ hTV Hif HRV
       go_wp2
       replace c0 := fun d os => cell_regrown c0 d os
       replace c1 := fun d os => cell_regrown c1 d os
       replace c2 := fun d os => cell_regrown c2 d os
       replace c3 := fun d os => cell_regrown c3 d os
       replace c4 := fun d os => cell_regrown c4 d os
       replace c5 := fun d os => cell_regrown c5 d os
       refine wp_region_quiet_below (by kernel_rfl) (by kernel_rfl) ?_
       repeat (first | go_big_quiet_step (first | (go_at_call 40; exact HT.out _ _ _)) | quiet_step (first | (go_at_call 40; exact HT.out _ _ _)))
       refine wpQuiet_nil ?_
       intro _ hw'
       obtain ⟨⟨dq, osq⟩, hw''⟩ := hw'
       subst hw''
       go_wp2
       go_ret2
       exact ⟨rfl, Ext.trans HEx.out (below_regrown _ _ _)⟩
      ·have hQ : QB = false := by rw [HQ.out, decide_eq_false r1, Bool.false_and]
       subst hQ
       have hR : RV = 0 := HRV.out.symm.trans (if_neg Bool.false_ne_true)
       subst hR
       have r2 : (23 : Int) < (x3 : Int) ∨ (¬ (23 : Int) < (x3 : Int) ∧ (59 : Int) < (x4 : Int)) ∨ (¬ (23 : Int) < (x3 : Int) ∧ ¬ (59 : Int) < (x4 : Int) ∧ (59 : Int) < (x5 : Int)) := by omega
       clear r1 HQ HTV
       rcases r2 with q1 | ⟨q1, q2⟩ | ⟨q1, q2, q3⟩
       all_goals
        go_wp2
        go_ret2
        exact ⟨rfl, HEx.out⟩
 ·rw [decide_eq_false hz, Bool.false_and, if_neg Bool.false_ne_true]
  have hz' : ((bt s 12 : Int) != 90) = true := by simp; omega
  generalize bt s 12 = c at *
  clear hz HDg
  go_enter Tryz.func17, Tryz.ntmps17
  go_wp2
  go_ret2
  exact ⟨rfl, Ext.refl _⟩
set_option maxHeartbeats 3200000 in
set_option maxRecDepth 100000 in
theorem specRead_15 (s : ByteArray) (hs : s.size = 15) (w : World) : Calls Tryz.prog 17 #[.string s] w fun e w' => e = .returned (.tuple #[.int .i64 (txV s), .bool (txOk s)]) ∧ Ext w w' := by
 obtain ⟨i0, hi0, hz0, hz1, hz2⟩ := info_parts Tryz.info3
 obtain ⟨E1, E2⟩ := tx15 hs
 rw [E2, E1]
 clear E1 E2
 have hn1 : (s.size : Int) = 15 := by omega
 have hlast := bt_get s 14 (by omega)
 have hzx : s.extract 0 14 = s.extract 0 14 := rfl
 have HDg := hide (l8Digits_any (s.extract 0 14) (by rw [ByteArray.size_extract]; omega) w)
 rw [dig_cut s 14 (by omega), show decide (0 < (s.extract 0 14).size) = true from decide_eq_true (by rw [ByteArray.size_extract]; omega), Bool.and_true] at HDg
 by_cases hz : bt s 14 = 90
 ·rw [decide_eq_true hz, Bool.true_and]
  have hz' : ((bt s 14 : Int) != 90) = false := by simp; omega
  cases hd : allN dgB s 14
  ·rw [hd] at HDg
   rw [Bool.false_and, if_neg Bool.false_ne_true]
   generalize bt s 14 = c at *
   clear hd hz
   go_enter Tryz.func17, Tryz.ntmps17
   go_wp2_with (go_at_call 39; refine HDg.out.mono ?_; rintro e w1 ⟨rfl, hw⟩; obtain rfl := hw.symm)
   go_ret2
   exact ⟨rfl, Ext.refl _⟩
  ·rw [hd] at HDg
   rw [Bool.true_and]
   have HB := hide ((allN_iff _ _ _).1 hd)
   have HV : Hid (∀ i, i < 7 → vp s i ≤ 99) := fun i hi => vp_le hd (by omega)
   have HS := hide hs
   have HQ : Hid (q15 s = (decide (vp s 4 ≤ 23 ∧ vp s 5 ≤ 59 ∧ vp s 6 ≤ 59) && tOk ((100 * vp s 0 + vp s 1 : Nat) : Int) (vp s 2 : Int) (vp s 3 : Int) ((3600 * vp s 4 + 60 * vp s 5 + vp s 6 : Nat) : Int))) := rfl
   generalize q15 s = QB at *
   generalize hTV : tTm ((100 * vp s 0 + vp s 1 : Nat) : Int) (vp s 2 : Int) (vp s 3 : Int) ((3600 * vp s 4 + 60 * vp s 5 + vp s 6 : Nat) : Int) = TV at *
   have HTV := hide hTV
   clear hTV
   generalize hRV : (if QB = true then TV else 0) = RV at *
   have HRV := hide hRV
   clear hRV
   have HO := hide (World.ownsRow_made (base := w.heap.size) (e := 3) (size := 1) w #[] 0 (Nat.le_refl _) (by simp) rfl)
   generalize hcc : bt s 14 = c at *
   clear hd hz hcc
   go_enter Tryz.func17, Tryz.ntmps17
   go_wp2_with (go_at_call 39; refine HDg.out.mono ?_; rintro e w1 ⟨rfl, hw⟩; obtain rfl := hw.symm)
   clear hz' hlast HDg
   go_loopw [5, 6] (fun v i wr => ∃ k : Nat, k ≤ 7 ∧ i = .int .i64 ((2 * k : Nat) : Int) ∧ wr.ownsRow w.heap.size 3 1 v k (ints (fun i => (vp s i : Int)) k) ∧ Ext w wr) (fun _ i _ => 16 - (intOf i).toNat)
   case atStart => exact ⟨0, Nat.zero_le _, rfl, HO.out, Ext.alloc _ _⟩
   case round =>
    obtain ⟨k, hk, rfl, hO, hE⟩ := hrel
    have HEx := hide hE
    clear hE HO
    by_cases hlt : k < 7
    ·obtain ⟨j, hj⟩ : ∃ j, j = 2 * k := ⟨_, rfl⟩
     rw [← hj]
     have hj1 : j < s.size := by rw [HS.out]; omega
     have hj2 : j + 1 < s.size := by rw [HS.out]; omega
     have hb1 := ix_str s j hj1
     have hb2 := ix_str s (j + 1) hj2
     rw [show (((j + 1 : Nat)) : Int) = (j : Int) + 1 from rfl] at hb2
     have g1 := dgB_le (HB.out j (by omega))
     have g2 := dgB_le (HB.out (j + 1) (by omega))
     have hvp : vp s k = 10 * (bt s j - 48) + (bt s (j + 1) - 48) := by rw [hj]; rfl
     generalize bt s j = c1 at *
     generalize bt s (j + 1) = c2 at *
     obtain ⟨m1, hm1⟩ : ∃ m1, m1 = c1 - 48 := ⟨_, rfl⟩
     obtain ⟨m2, hm2⟩ : ∃ m2, m2 = c2 - 48 := ⟨_, rfl⟩
     have HP := hide (pair_facts hm1 hm2 g1.1 g1.2 g2.1 g2.2)
     rw [← hm1, ← hm2] at hvp
     have Hvp := hide (congrArg (fun z : Nat => (z : Int)) hvp)
     have h1 : (j : Int) + 1 < 15 := by omega
     have hw1 : wrap64 ((j : Int) + 1) = (j : Int) + 1 := by unfold wrap64; omega
     have hw3 : IntKind.i64.wrap ((j : Int) + 1) = (j : Int) + 1 := by rw [IntKind.wrap_i64]; omega
     have hw2 : wrap64 ((j : Int) + 2) = (j : Int) + 2 := by unfold wrap64; omega
     have Hj := hide hj
     have hj13 : j + 1 < 15 := by omega
     generalize 10 * m1 + m2 = V at *
     have HO := hide hO
     clear hO hj hm1 hm2 hvp g1 g2
     obtain ⟨f1, f2, f3, f4, f5, f6, f7, f8, f9, f10⟩ := HP.out
     clear HP
     have hs := HS.out
     have x1 : ∀ b, w.heap.size ≤ b → w.heap.size ≤ b := fun _ h => h
     go_wp2
     refine anyK_begin (fun b => w.heap.size ≤ b) 17 rfl (by kernel_rfl) ?_
     refine anyK_take 0 14 3 rfl (by decide) (by kernel_rfl) (fun _ _ d _ _ h => by cases d <;> exact h) ?_
     repeat (refine headC_step (fun K hK => ?_); go_simp; refine hK _ ?_; clear hK K)
     refine headC_nil ?_
     refine anyK_one 14 (by kernel_rfl) ?_
     refine stepK_run rfl ?_
     intro w3 h3 K2 hK2
     go_simp
     refine hK2 _ _ (.of_ext (h3.trans (Ext.alloc _ _))) ?_
     clear hK2 K2 f1 f2 f3 f4 f5 f6 f7 f8 f9 f10
     have HS3 := hide (seg_one w3 (V : Int))
     have E4 := hide (h3.trans (Ext.alloc w3 (.cells #[.int .i64 (V : Int)] 3)))
     generalize w3.alloc (.cells #[.int .i64 (V : Int)] 3) = w4 at *
     generalize w3.heap.size = SL at *
     clear h3
     refine anyK_one 15 (by kernel_rfl) ?_
     refine stepK_run rfl ?_
     intro w5 h5 K2 hK2
     have HO5 := hide (iowns_ext' HO.out (E4.out.trans h5))
     have HS5 := hide (HS3.out.of_all h5)
     have E5 := hide (E4.out.trans h5)
     have hB5 : w.heap.size ≤ w5.heap.size := Nat.le_trans (Below.size HEx.out) (Below.size E5.out)
     rw [if_pos (show _ = true by kernel_rfl)]
     refine wp_append_is _ _ rfl w.heap.size _ k _ rfl HO5.out _ SL 0 1 _ (fun _ => (V : Int)) rfl HS5.out (by omega) hB5 ?_
     intro v6 w6 hO6 h6
     refine hK2 _ _ ((Grw.of_ext E5.out).trans (Grw.of_belowT h6 x1)) ?_
     clear hK2 K2
     have HF4 : Hid (w6.ownsRow w.heap.size 3 1 v6 (k + 1) (ints (fun i => (vp s i : Int)) (k + 1)) ∧ Ext w w6) := by
      refine ⟨?_, Below.trans (HEx.out.trans E5.out) h6⟩
      rw [← ints_push (F := fun i => (vp s i : Int)) (k := k) (V := (V : Int)) Hvp.out]
      exact hO6
     clear hO6 h6 HS5 HO5 HS3 E4 h5 E5 hB5 HO
     refine anyK_take 16 1 0 rfl (by decide) (by kernel_rfl) (fun _ _ d _ _ h => by cases d <;> exact h) ?_
     repeat (refine headC_step (fun K hK => ?_); go_simp; refine hK _ ?_; clear hK K)
     refine headC_nil ?_
     refine anyK_done (by kernel_rfl) ?_ 0
     intro w7 h7
     replace HF4 := hide (And.intro (iowns_ext' HF4.out.1 h7) (HF4.out.2.trans h7))
     clear h7
     go_wp2
     go_roundw
     case rel => clear hw1 hw2 hw3; have := Hj.out; exact ⟨k + 1, by omega, congrArg (Value.int IntKind.i64) (by omega), HF4.out⟩
     case measure => clear hw1 hw2 hw3; simp [intOf]; omega
    ·obtain rfl : k = 7 := by omega
     have hlt' : ¬ (((14 : Nat) : Int) + 1 < 15) := by omega
     obtain ⟨g, cap, rfl, hc1, hc2, hcells⟩ := own_of_intsc hO (by omega)
     have c0 := hcells 0 (by omega)
     have c1 := hcells 1 (by omega)
     have c2 := hcells 2 (by omega)
     have c3 := hcells 3 (by omega)
     have c4 := hcells 4 (by omega)
     have c5 := hcells 5 (by omega)
     have c6 := hcells 6 (by omega)
     clear hcells
     have b0 := HV.out 0 (by omega)
     have b1 := HV.out 1 (by omega)
     have b2 := HV.out 2 (by omega)
     have b3 := HV.out 3 (by omega)
     have b4 := HV.out 4 (by omega)
     have b5 := HV.out 5 (by omega)
     have b6 := HV.out 6 (by omega)
     generalize vp s 0 = x0 at *
     generalize vp s 1 = x1 at *
     generalize vp s 2 = x2 at *
     generalize vp s 3 = x3 at *
     generalize vp s 4 = x4 at *
     generalize vp s 5 = x5 at *
     generalize vp s 6 = x6 at *
     clear hO hk hlt hc2 HB HV HS
     have hcap : ¬ cap = 1 := by omega
     have HBd := hide (And.intro b0 (And.intro b1 (And.intro b2 (And.intro b3 (And.intro b4 (And.intro b5 b6))))))
     clear b0 b1 b2 b3 b4 b5 b6
     obtain ⟨y1, y2, y3, y4, y5, y6⟩ := year_facts (a := x0) (b := x1) (by have := HBd.out; omega) (by have := HBd.out; omega)
     obtain ⟨z1, z2, z3, z4, z5, z6, z7, z8⟩ := sec_facts (a := x4) (b := x5) (c := x6) (by have := HBd.out; omega) (by have := HBd.out; omega) (by have := HBd.out; omega)
     generalize 3600 * x4 + 60 * x5 + x6 = SS at *
     generalize 3600 * x4 + 60 * x5 = S1 at *
     generalize 3600 * x4 = S2 at *
     generalize 60 * x5 = S3 at *
     generalize 100 * x0 + x1 = YY at *
     generalize 100 * x0 = Y0 at *
     go_wp2
     go_quiet (fail)
     rename_i nq
     replace HEx := hide (Ext.trans HEx.out (ext_drewT wr nq))
     replace c0 : (wr.drewN nq).cell? ⟨g, 0, none⟩ = some (.int .i64 (x0 : Int)) := c0
     replace c1 : (wr.drewN nq).cell? ⟨g, 1, none⟩ = some (.int .i64 (x1 : Int)) := c1
     replace c2 : (wr.drewN nq).cell? ⟨g, 2, none⟩ = some (.int .i64 (x2 : Int)) := c2
     replace c3 : (wr.drewN nq).cell? ⟨g, 3, none⟩ = some (.int .i64 (x3 : Int)) := c3
     replace c4 : (wr.drewN nq).cell? ⟨g, 4, none⟩ = some (.int .i64 (x4 : Int)) := c4
     replace c5 : (wr.drewN nq).cell? ⟨g, 5, none⟩ = some (.int .i64 (x5 : Int)) := c5
     replace c6 : (wr.drewN nq).cell? ⟨g, 6, none⟩ = some (.int .i64 (x6 : Int)) := c6
     generalize wr.drewN nq = wq at *
     by_cases r1 : x4 ≤ 23 ∧ x5 ≤ 59 ∧ x6 ≤ 59
     ·have q1 : ¬ (23 : Int) < (x4 : Int) := by omega
      have q2 : ¬ (59 : Int) < (x5 : Int) := by omega
      have q3 : ¬ (59 : Int) < (x6 : Int) := by omega
      have hQ : QB = tOk (YY : Int) (x2 : Int) (x3 : Int) (SS : Int) := by rw [HQ.out, decide_eq_true r1, Bool.true_and]
      have hTV := HTV.out
      have HT := reg_ofT (fun W => specTimeOf_any (YY : Int) (x2 : Int) (x3 : Int) (SS : Int) W)
      have Hif := hide (tTm_if (YY : Int) (x2 : Int) (x3 : Int) (SS : Int))
      rw [← hQ, hTV] at HT Hif
      have hR : RV = TV := HRV.out.symm.trans Hif.out
      subst hR
      clear r1 HQ HTV hQ hTV Hif HRV
      go_wp2
      replace c0 := fun d os => cell_regrown c0 d os
      replace c1 := fun d os => cell_regrown c1 d os
      replace c2 := fun d os => cell_regrown c2 d os
      replace c3 := fun d os => cell_regrown c3 d os
      replace c4 := fun d os => cell_regrown c4 d os
      replace c5 := fun d os => cell_regrown c5 d os
      replace c6 := fun d os => cell_regrown c6 d os
      refine wp_region_quiet_below (by kernel_rfl) (by kernel_rfl) ?_
      repeat (first | go_big_quiet_step (first | (go_at_call 40; exact HT.out _ _ _)) | quiet_step (first | (go_at_call 40; exact HT.out _ _ _)))
      refine wpQuiet_nil ?_
      intro _ hw'
      obtain ⟨⟨dq, osq⟩, hw''⟩ := hw'
      subst hw''
      go_wp2
      go_ret2
      exact ⟨rfl, Ext.trans HEx.out (below_regrown _ _ _)⟩
     ·have hQ : QB = false := by rw [HQ.out, decide_eq_false r1, Bool.false_and]
      subst hQ
      have hR : RV = 0 := HRV.out.symm.trans (if_neg Bool.false_ne_true)
      subst hR
      have r2 : (23 : Int) < (x4 : Int) ∨ (¬ (23 : Int) < (x4 : Int) ∧ (59 : Int) < (x5 : Int)) ∨ (¬ (23 : Int) < (x4 : Int) ∧ ¬ (59 : Int) < (x5 : Int) ∧ (59 : Int) < (x6 : Int)) := by omega
      clear r1 HQ HTV
      rcases r2 with q1 | ⟨q1, q2⟩ | ⟨q1, q2, q3⟩
      all_goals
       go_wp2
       go_ret2
       exact ⟨rfl, HEx.out⟩
 ·rw [decide_eq_false hz, Bool.false_and, if_neg Bool.false_ne_true]
  have hz' : ((bt s 14 : Int) != 90) = true := by simp; omega
  generalize bt s 14 = c at *
  clear hz HDg
  go_enter Tryz.func17, Tryz.ntmps17
  go_wp2
  go_ret2
  exact ⟨rfl, Ext.refl _⟩
theorem specRead_any (s : ByteArray) (w : World) : Calls Tryz.prog 17 #[.string s] w fun e w' => e = .returned (.tuple #[.int .i64 (rdV s), .bool (rdOk s)]) ∧ Ext w w' := by
 by_cases h13 : s.size = 13
 ·have e1 : rdTx s = cenB s ++ s := by unfold rdTx; rw [if_pos h13]
  have e2 : rdOk s = txOk (cenB s ++ s) := by unfold rdOk; rw [e1]; simp [h13]
  have e3 : rdV s = txV (cenB s ++ s) := by unfold rdV; rw [e1, if_pos (Or.inl h13)]
  rw [e2, e3]
  exact specRead_13 s h13 w
 ·by_cases h15 : s.size = 15
  ·have e1 : rdTx s = s := by unfold rdTx; rw [if_neg h13]
   have e2 : rdOk s = txOk s := by unfold rdOk; rw [e1]; simp [h15]
   have e3 : rdV s = txV s := by unfold rdV; rw [e1, if_pos (Or.inr h15)]
   rw [e2, e3]
   exact specRead_15 s h15 w
  ·have e2 : rdOk s = false := by unfold rdOk; simp [h13, h15]
   have e3 : rdV s = 0 := by unfold rdV; rw [if_neg (by omega)]
   rw [e2, e3]
   have k1 : ((s.size : Int) != 13) = true := by simp; omega
   have k2 : ((s.size : Int) != 15) = true := by simp; omega
   clear e2 e3 h13 h15
   go_enter Tryz.func17, Tryz.ntmps17
   go_wp2
   go_ret2
   exact ⟨rfl, Ext.refl _⟩
end
section
open Go.RowKit
theorem wp_appN {o : Oper} {a0 : Act} {K : Act → World → Prop} {Q : Exit → Act → World → Prop} {w : World} (s x : Operand)
  (ho : o.op = .call { callee := .builtin .append, args := #[s, x], argTypes := #[24, 24] })
  (base : Nat) (v : Value) (n : Nat) (f : Nat → Int) (hs : a0.eval s = v) (hown : w.ownsRow base 3 1 v n (ints f n))
  (b : Nat) (hx : a0.eval x = .slice (some ⟨b, 0, none⟩) 1 1) (hc : w.cell? ⟨b, 0, none⟩ = some (.int .i64 (f n))) (hlen : n ≤ 1048576) (hbase : base ≤ w.heap.size)
  (h : ∀ v' w', w'.ownsRow base 3 1 v' (n + 1) (ints f (n + 1)) → w.grownBy w' v.ownBlock → (v'.ownBlock = v.ownBlock ∨ v'.ownBlock = some w.heap.size) → K (a0.put o.dst v') w') : o.wp Tryz.prog a0 w K Q := by
 obtain ⟨i0, hi, hz0, hz1, hz2⟩ := info_parts Tryz.info3
 obtain ⟨v', w', hr, h2, h3, -, h5⟩ := run_append_own_at (P := Tryz.prog) w base 24 o.type 3 i0 (.int .i64 0) 1 8 Tryz.underlying24 hi hz0 hz1 hz2 rfl (by decide) v n (ints f n) hown ⟨b, 0, none⟩ 1 1 [.int .i64 (f n)] rfl (by
  intro j u hj
  cases j with
  | zero => simp at hj; subst hj; simpa [Addr.add] using hc
  | succ j => simp at hj) (iys_one (f n)) (by unfold maxLen; omega) (by omega) hbase
 unfold Oper.wp execOp
 simp only [ho, resolve, invoke, builtin, Sem.run_bind, Sem.run_pure, Result.andThen_ok, List.map_toArray, List.map_cons, List.map_nil, hs, hx, hr]
 rw [← ints_succ] at h2
 exact h v' w' h2 h3 h5
theorem grb_ext {w w1 w2 : World} {C : Nat} (h : w.grownBy w1 (some C)) (e : Ext w1 w2) : w.grownBy w2 (some C) :=
 ⟨e.os.trans h.os, e.tape.trans h.tape, e.output.trans h.output, Nat.le_trans h.size e.size, fun k hk hn => (e.block k (Nat.lt_of_lt_of_le hk h.size)).trans (h.block k hk hn)⟩
theorem grb_grown {w w1 w2 : World} {C : Nat} {o : Option Nat} (h : w.grownBy w1 (some C)) (e : w1.grownBy w2 o) (ho : ∀ g, o = some g → w.heap.size ≤ g) : w.grownBy w2 (some C) :=
 ⟨e.os.trans h.os, e.tape.trans h.tape, e.output.trans h.output, Nat.le_trans h.size e.size, fun k hk hn => (e.block k (Nat.lt_of_lt_of_le hk h.size) (fun he => by have := ho k he.symm; omega)).trans (h.block k hk hn)⟩
theorem grb_set {w w1 : World} {C : Nat} (h : w.grownBy w1 (some C)) (i : Nat) (v : Value) : w.grownBy (w1.setCell ⟨C, i, none⟩ v) (some C) :=
 ⟨h.os, h.tape, h.output, by simp [World.setCell]; exact h.size, fun k hk hn => (Below.heap_setCell _ _ _ _ (fun e => hn (by rw [e]))).trans (h.block k hk hn)⟩
theorem grb_refl (w : World) (C : Nat) : w.grownBy w (some C) := ⟨rfl, rfl, rfl, Nat.le_refl _, fun _ _ _ => rfl⟩
theorem grb_below {w w1 w0 : World} {C : Nat} (h : w.grownBy w1 (some C)) (e : Ext w0 w) (hC : w0.heap.size ≤ C) : Ext w0 w1 :=
 ⟨h.os.trans e.os, h.tape.trans e.tape, h.output.trans e.output, Nat.le_trans e.size h.size, fun k hk => (h.block k (Nat.lt_of_lt_of_le hk e.size) (by simp; omega)).trans (e.block k hk)⟩
theorem grb_cell {w w1 : World} {C b o : Nat} {v : Value} (h : w.grownBy w1 (some C)) (hne : b ≠ C) (hc : w.cell? ⟨b, o, none⟩ = some v) : w1.cell? ⟨b, o, none⟩ = some v :=
 (World.cell?_of_block (a := ⟨b, o, none⟩) (h.block b (World.block_lt_of_cell? _ _ hc) (by simp; exact hne))).trans hc
theorem SSeg.grb {w w1 : World} {C : Nat} {a : Option Addr} {b off n : Nat} {f : Nat → ByteArray} (h : SSeg w a b off n f) (g : w.grownBy w1 (some C)) (hne : 0 < n → b ≠ C) : SSeg w1 a b off n f := ⟨h.at', fun j hj => grb_cell g (hne (by omega)) (h.cell j hj)⟩
theorem BSeg.grb {w w1 : World} {C : Nat} {a : Option Addr} {b off n : Nat} {f : Nat → Int} (h : BSeg w a b off n f) (g : w.grownBy w1 (some C)) (hne : 0 < n → b ≠ C) : BSeg w1 a b off n f := ⟨h.at', fun j hj => grb_cell g (hne (by omega)) (h.cell j hj)⟩
theorem ClIn.putO {w : World} {B : Nat} {c : Cl} {m : ClPl} {vs : List Value} (h : ClIn w c m) (h1 : 0 < c.ni → m.i.b ≠ B) (h2 : 0 < c.nv → m.v.b ≠ B) (h3 : 0 < c.ng → m.g.b ≠ B) : ClIn (putL B 0 vs w) c m :=
 ⟨⟨h.i.at', fun j hj => (cell_putL_other B ⟨m.i.b, m.i.off + j, none⟩ vs 0 w (fun e => absurd e (h1 (by omega)))).trans (h.i.cell j hj)⟩,
  ⟨h.v.at', fun j hj => (cell_putL_other B ⟨m.v.b, m.v.off + j, none⟩ vs 0 w (fun e => absurd e (h2 (by omega)))).trans (h.v.cell j hj)⟩,
  ⟨h.g.at', fun j hj => (cell_putL_other B ⟨m.g.b, m.g.off + j, none⟩ vs 0 w (fun e => absurd e (h3 (by omega)))).trans (h.g.cell j hj)⟩⟩
def mdC (x : Nat → It) (n a0 a1 a3 i2 : Nat) (q1 q2 : Int) : Cl :=
 ⟨(x a1).kid.toNat, fun j => txS (x (kpl x n a1 j)), q1, q2, riV (x a0).f (x a0).len, (x a3).kid.toNat, fun j => riV (x (kpl x n a3 j)).f (x (kpl x n a3 j)).len, (x i2).len - 1, fun i => (x i2).f (i + 1)⟩
theorem mdC_sm {x : Nat → It} {n a0 a1 a3 i2 : Nat} {q1 q2 : Int} (hl : ∀ i, (x i).len ≤ 4000) (h1 : (x a1).kid.toNat ≤ 300) (h3 : (x a3).kid.toNat ≤ 300) : ClSm (mdC x n a0 a1 a3 i2 q1 q2) 4000 := by
 refine ⟨Nat.le_trans h1 (by decide), fun j hj => ?_, Nat.le_trans h3 (by decide), ?_⟩
 ·show (txS _).size ≤ 4000
  unfold txS
  rw [strOfNums_size]
  have := hl (kpl x n a1 j)
  simpa [nums] using this
 ·show (x i2).len - 1 ≤ 4000
  have := hl i2
  omega
theorem mdC_same {x : Nat → It} {n : Nat} {W : World} {q1 q2 : Int} {d : Cl} (hX : Rdx x n W) (h0 : OkI x n (kpl x n 1 0)) (h3 : OkI x n (kpl x n 1 3)) (hq : (x (kpl x n 1 2)).kid.toNat = 2 → q1 = rdV (txS (x (kpl x n (kpl x n 1 2) 0))) ∧ q2 = rdV (txS (x (kpl x n (kpl x n 1 2) 1)))) (L : LayC x n d) (O : ClOk d) : SameL (mdC x n (kpl x n 1 0) (kpl x n 1 1) (kpl x n 1 3) (kpl x n 0 1) q1 q2) d := by
 have h2 : (x (kpl x n 1 2)).kid.toNat = 2 := by rw [L.q2]; exact L.tk
 obtain ⟨e1, e2⟩ := hq h2
 refine CrlV.same (x := x) (n := n) ⟨rfl, fun _ _ => rfl, e1, e2, ⟨riV_in (hX.rng _ h0.lt), fun k hk h => (ri_of hk h).2⟩, rfl, fun j hj => ⟨riV_in (hX.rng _ (h3.kid hj).lt), fun k hk h => (ri_of hk h).2⟩, rfl, rfl⟩ L O
end
end Go.Proofs.YtkogbinfhoiggaaGreatDoor
