/- The walks of the laws FnExactCrlTbs and FnExactWriteCrl, their functions' contracts given (written by mkclw.py). Extensions that came in, opened. A list of bytes that came in as a field, opened. A list of what is void that came in, opened (written by mkcrl.py). The laws FnExactCrlTbs and FnExactWriteCrl. -/
import Derived.Test.YtgdjaapjdmancaaGreatDoorCy34
import Derived.Test.YtgdjaapjdmancaaGreatDoorCy10
import Derived.Test.YtgdjaapjdmancaaGreatDoorCy17
import Derived.Test.YtgdjaapjdmancaaGreatDoorCy30
namespace Go.Proofs.YtgdjaapjdmancaaGreatDoor

section
set_option linter.unusedVariables false
set_option linter.unusedSimpArgs false

open Go.RowKit

set_option maxHeartbeats 12800000 in
set_option maxRecDepth 100000 in
theorem lawCrlTbs_at (c : Cl) (m : ClPl) (ok : Bool) (M : Nat) (F : Nat → Int) (hM : M ≤ 1048576) (w : World)
    (HSz : Hid (∀ W, Ext w W → Calls Tryz.prog 5 #[.agg (clL c m).toArray, .int .i64 1048576] W fun e w' => (∃ z : Int, e = .returned (.int .i64 z) ∧ -1 ≤ z ∧ z ≤ 1048576 ∧ (0 ≤ z → ClSm c 1048576)) ∧ Ext W w'))
    (HTo : Hid (ClSm c 1048576 → ∀ W, Ext w W → Calls Tryz.prog 7 #[.agg (clL c m).toArray] W fun e w' => ∃ p : ClPl, e = .returned (.agg (clL c p).toArray) ∧ ClOw W.heap.size (w'.heap.size) w' c p ∧ Ext W w'))
    (HSp : Hid (ClSm c 1048576 → ∀ (p : ClPl) (W : World), Ext w W → ClIn W c p → Calls Tryz.prog 6 #[.agg (clL c p).toArray] W fun e w' => GivesKb W M F ok e w'))
    (HIm : Hid (ClSm c 1048576 → ∀ (p : ClPl) (W : World), Ext w W → ClIn W c p → Calls Tryz.prog 8 #[.agg (clL c p).toArray] W fun e w' => GivesKb W M F ok e w'))
    (HEq : Hid (ClSm c 1048576 → ∀ (p p2 : ClPl) (W : World), ClIn W c p → ClIn W c p2 → Calls Tryz.prog 10 #[.agg (clL c p).toArray, .agg (clL c p2).toArray] W fun e w' => e = .returned (.bool true) ∧ Ext W w'))
    (HMk : Hid (ClSm c 1048576 → ∀ (p : ClPl) (S T : Nat) (W : World), ClOw S (T) W c p → T ≤ W.heap.size → Calls Tryz.prog 11 #[.agg (clL c p).toArray, .int .i64 1] W fun e w' => (∃ z : Int, e = .returned (.int .i64 z) ∧ 0 ≤ z) ∧ Mkw S T W w')) :
    Calls Tryz.prog 3 #[.agg (clL c m).toArray] w fun e w' => e = .returned (.bool true) ∧ Ext w w' := by
  obtain ⟨A, hA⟩ : ∃ A, clL c m = A := ⟨_, rfl⟩
  have hlA : A.length = 6 := by rw [← hA]; rfl
  rw [hA] at HSz HTo ⊢
  clear hA
  obtain ⟨V, hV⟩ : ∃ V, w.alloc (.cells A.toArray 26) = V := ⟨_, rfl⟩
  obtain ⟨B0, hE, -⟩ := box1 w A 26 (w1 := V) (by rw [← hV]; exact Ext.refl _)
  have HBk := hide B0
  have HE := hide hE
  have ldA : ∀ (W : World), Blk W w.heap.size A → (loadVar 26 ⟨w.heap.size, 0, none⟩).run Tryz.prog W = .ok (.agg A.toArray) W := fun W hB => run_ld (P := Tryz.prog) 26 A W (by rw [hlA]; kernel_rfl) (by kernel_rfl) w.heap.size 0 (Blk.ld hB 0 _ (fun j v h => by rw [Nat.zero_add]; exact h))
  have HlA := hide ldA
  have HA0 : Hid (0 < A.length) := hide (by rw [hlA]; decide)
  clear B0 hE ldA
  have hldL := HlA.out V HBk.out
  go_enter Tryz.func3, Tryz.ntmps3
  go_wp2_with (refine wpList_ld (by first | rfl | simp [Region.wanted, yielded]) 26 _ rfl _ rfl _ hldL ?_)
  refine (HSz.out _ HE.out).mono ?_
  rintro e w1 ⟨⟨z, rfl, z0, z1, hz⟩, HEW⟩
  replace HBk := hide (Blk.ext HBk.out HEW (Blk.lt HBk.out HA0.out))
  replace HE := hide (Ext.trans HE.out HEW)
  clear HEW hldL HSz
  by_cases hz0 : z < 0
  · clear hz
    go_wp2
    go_ret
    exact ⟨rfl, HE.out⟩
  have hn := hz (by omega)
  have HT := hide (HTo.out hn)
  have HS := hide (HSp.out hn)
  have HI := hide (HIm.out hn)
  have HQ := hide (HEq.out hn)
  have HM := hide (HMk.out hn)
  clear hz hn HTo HSp HIm HEq HMk
  have hldL := HlA.out _ HBk.out
  go_wp2_with (refine wpList_ld (by first | rfl | simp [Region.wanted, yielded]) 26 _ rfl _ rfl _ hldL ?_)
  refine (HT.out _ HE.out).mono ?_
  rintro e w2 ⟨p2, rfl, hs2, HEW⟩
  replace HBk := hide (Blk.ext HBk.out HEW (Blk.lt HBk.out HA0.out))
  replace HE := hide (Ext.trans HE.out HEW)
  clear HEW hldL
  have HSx := hide (HS.out p2 _ HE.out hs2.in')
  obtain ⟨C2, hC2⟩ : ∃ C, clL c p2 = C := ⟨_, rfl⟩
  rw [hC2] at HSx ⊢
  clear hC2 hs2 HS
  go_wp2_with fail
  refine HSx.out.mono ?_
  rintro e w3 ⟨aw, gw, cw, rfl, hgw, ow, HEW⟩
  replace HBk := hide (Blk.ext HBk.out HEW (Blk.lt HBk.out HA0.out))
  replace HE := hide (Ext.trans HE.out HEW)
  have sw := ow.toBSeg
  have ltw : 0 < M → gw < w3.heap.size := fun h => ow.lt h
  have HS3 : Hid (w.heap.size < w3.heap.size) := hide (Blk.lt HBk.out HA0.out)
  have Hltw := hide ltw
  clear HEW HSx ow hgw ltw
  have hldL := HlA.out _ HBk.out
  go_wp2_with (refine wpList_ld (by first | rfl | simp [Region.wanted, yielded]) 26 _ rfl _ rfl _ hldL ?_)
  refine (HT.out _ HE.out).mono ?_
  rintro e w4 ⟨p4, rfl, hs4, HEW⟩
  replace HBk := hide (Blk.ext HBk.out HEW (Blk.lt HBk.out HA0.out))
  replace HE := hide (Ext.trans HE.out HEW)
  replace sw := sw.of_all HEW
  have H34 := hide (Below.size HEW)
  clear HEW hldL
  have HIx := hide (HI.out p4)
  have HQx := hide (fun p' => HQ.out p4 p')
  have HMx := hide (HM.out p4)
  have hone : ∀ v ∈ clL c p4, v.oneCell' = true := by simp [clL, Value.oneCell']
  have hlC : (clL c p4).length = 6 := rfl
  obtain ⟨C, hC⟩ : ∃ C, clL c p4 = C := ⟨_, rfl⟩
  rw [hC] at HIx HQx HMx hone hlC ⊢
  clear hC HQ HM
  have hst := run_st (P := Tryz.prog) 30 C (w4.alloc (.cells #[.slice none 0 0, .int .i64 0, .int .i64 0, .int .i64 0, .slice none 0 0, .slice none 0 0] 30)) (by rw [hlC]; kernel_rfl) hone w4.heap.size 0 (Blk.st (Blk.alloc w4 [.slice none 0 0, .int .i64 0, .int .i64 0, .int .i64 0, .slice none 0 0, .slice none 0 0] 30) 0 _ (by rw [hlC]; decide))
  have hB5 := Blk.putAll1 (vs := C) (Blk.alloc w4 [.slice none 0 0, .int .i64 0, .int .i64 0, .int .i64 0, .slice none 0 0, .slice none 0 0] 30) (by rw [hlC]; rfl)
  have HEW : Ext w4 (putL w4.heap.size 0 C (w4.alloc (.cells #[.slice none 0 0, .int .i64 0, .int .i64 0, .int .i64 0, .slice none 0 0, .slice none 0 0] 30))) := below_putL (Nat.le_refl _) _ 0 _ (Ext.alloc _ _)
  obtain ⟨V5, hV5⟩ : ∃ V5, putL w4.heap.size 0 C (w4.alloc (.cells #[.slice none 0 0, .int .i64 0, .int .i64 0, .int .i64 0, .slice none 0 0, .slice none 0 0] 30)) = V5 := ⟨_, rfl⟩
  rw [hV5] at hst hB5 HEW
  replace HBk := hide (Blk.ext HBk.out HEW (Blk.lt HBk.out HA0.out))
  replace HE := hide (Ext.trans HE.out HEW)
  replace sw := sw.of_all HEW
  have HB5 := hide hB5
  have HC0 : Hid (0 < C.length) := hide (by rw [hlC]; decide)
  have Hs5 := hide (hs4.ext HEW)
  have H45 := hide (Below.size HEW)
  have ldC : ∀ (W : World), Blk W w4.heap.size C → (loadVar 30 ⟨w4.heap.size, 0, none⟩).run Tryz.prog W = .ok (.agg C.toArray) W := fun W hB => run_ld (P := Tryz.prog) 30 C W (by rw [hlC]; kernel_rfl) (by kernel_rfl) w4.heap.size 0 (Blk.ld hB 0 _ (fun j v h => by rw [Nat.zero_add]; exact h))
  have HlC := hide ldC
  have hldK := HlC.out V5 HB5.out
  clear HEW hB5 hs4 hV5 ldC hone hlC hlA
  go_wp2_with (first | (refine wpList_st (by first | rfl | simp [Region.wanted, yielded]) 30 _ _ rfl _ rfl _ rfl _ hst ?_) | (refine wpList_ld (by first | rfl | simp [Region.wanted, yielded]) 30 _ rfl _ rfl _ hldK ?_))
  refine (HIx.out _ HE.out Hs5.out.in').mono ?_
  rintro e w6 ⟨ag, gg, cg, rfl, hgg, og, HEW⟩
  replace HBk := hide (Blk.ext HBk.out HEW (Blk.lt HBk.out HA0.out))
  replace HE := hide (Ext.trans HE.out HEW)
  replace HB5 := hide (Blk.ext HB5.out HEW (Blk.lt HB5.out HC0.out))
  replace Hs5 := hide (Hs5.out.ext HEW)
  replace sw := sw.of_all HEW
  have H56 := hide (Below.size HEW)
  have Hgg := hide hgg
  clear HEW hldK hst HIx hgg
  have hne : (ok != ok) = false := by simp
  go_wp2_with fail
  refine (eqByteS_any ag gg 0 M cg F aw gw 0 M cw F _ og.toBSeg sw hM).mono ?_
  rintro e w7 ⟨rfl, q6, rfl⟩
  rw [alike_refl]
  have HEW : Ext w6 (w6.drewN q6) := ext_drewN _ _
  replace HBk := hide (Blk.ext HBk.out HEW (Blk.lt HBk.out HA0.out))
  replace HE := hide (Ext.trans HE.out HEW)
  replace HB5 := hide (Blk.ext HB5.out HEW (Blk.lt HB5.out HC0.out))
  replace Hs5 := hide (Hs5.out.ext HEW)
  replace sw := sw.of_all HEW
  replace og := og.of_all HEW
  have H67 := hide (Below.size HEW)
  clear HEW
  generalize w6.drewN q6 = w7 at *
  have HltC : Hid (w4.heap.size < w7.heap.size) := hide (Blk.lt HB5.out HC0.out)
  have HltA : Hid (w.heap.size < w7.heap.size) := hide (Blk.lt HBk.out HA0.out)
  have Hog := hide og
  have Hsw := hide sw
  clear og sw
  go_wp2_with fail
  refine anyK_begin (fun _ => False) 5 rfl (by kernel_rfl) ?_
  refine anyK_take 0 2 3 rfl (by decide) (by kernel_rfl) (fun _ _ d _ _ h => by cases d <;> exact h) ?_
  refine head_ld (by first | rfl | simp [Region.wanted, yielded]) rfl rfl (fun q => HlC.out _ (blk_reC HB5.out HltC.out q)) ?_
  refine head_ld (by first | rfl | simp [Region.wanted, yielded]) rfl rfl (fun q => HlA.out _ (blk_reC HBk.out HltA.out q)) ?_
  refine headC_nil ?_
  refine anyK_one 2 (by kernel_rfl) ?_
  refine stepK_run rfl ?_
  intro w8 h8 K hKK
  go_simp
  refine (HT.out _ (Ext.trans HE.out h8)).mono ?_
  rintro e w9 ⟨p9, rfl, hs9, hE9⟩
  have HX := hide (Ext.trans h8 hE9)
  have HQy := hide (HQx.out p9)
  obtain ⟨D, hD⟩ : ∃ C, clL c p9 = C := ⟨_, rfl⟩
  rw [hD] at HQy ⊢
  clear hD HQx
  go_simp
  refine hKK _ _ (Grw.of_ext HX.out) ?_
  clear hKK K h8 hE9
  refine anyK_one 3 (by kernel_rfl) ?_
  refine stepK_run rfl ?_
  intro w10 h10 K hKK
  go_simp
  refine (HQy.out _ ((Hs5.out.ext HX.out).ext h10).in' (hs9.ext h10).in').mono ?_
  rintro e w11 ⟨rfl, hE11⟩
  replace HX := hide (Ext.trans HX.out (Ext.trans h10 hE11))
  go_simp
  refine hKK _ _ (Grw.of_ext HX.out) ?_
  clear hKK K h10 hE11 hs9 HQy
  refine anyK_one 4 (by kernel_rfl) ?_
  refine stepK_run rfl ?_
  intro w12 h12 K hKK
  go_simp
  refine hKK _ _ (Grw.of_ext (Ext.trans HX.out h12)) ?_
  clear hKK K
  refine anyK_done (by kernel_rfl) ?_ 0
  intro w13 h13
  have HEW := Ext.trans HX.out (Ext.trans h12 h13)
  replace HBk := hide (Blk.ext HBk.out HEW (Blk.lt HBk.out HA0.out))
  replace HE := hide (Ext.trans HE.out HEW)
  replace HB5 := hide (Blk.ext HB5.out HEW (Blk.lt HB5.out HC0.out))
  replace Hs5 := hide (Hs5.out.ext HEW)
  replace Hsw := hide (Hsw.out.of_all HEW)
  replace Hog := hide (Hog.out.of_all HEW)
  have H713 := hide (Below.size HEW)
  have hldK := HlC.out w13 HB5.out
  have HMy := hide (HMx.out _ _ _ Hs5.out (Nat.le_trans H45.out (Nat.le_trans H56.out (Nat.le_trans H67.out H713.out))))
  clear HEW h12 h13 HX HMx HltC HltA
  go_wp2_with (refine wpList_ld (by first | rfl | simp [Region.wanted, yielded]) 30 _ rfl _ rfl _ hldK ?_)
  refine HMy.out.mono ?_
  rintro e w14 ⟨⟨zk, rfl, hzk⟩, hmk⟩
  have Hmk := hide hmk
  clear hmk hldK HMy Hs5 HB5
  have HBk0 : Hid (w14.heap[w.heap.size]? = w13.heap[w.heap.size]?) := hide (Hmk.out.same _ (Blk.lt HBk.out HA0.out) (.inl HS3.out))
  replace HBk := hide (HBk.out.of_heap HBk0.out)
  replace HE := hide (Hmk.out.below HE.out (Nat.le_of_lt HS3.out) (Below.size HE.out))
  have Hsw0 := Hsw
  replace Hsw : Hid (BSeg w14 aw gw 0 M F) := hide ⟨Hsw0.out.at', fun i hi => (World.cell?_of_block (a := ⟨gw, 0 + i, none⟩) (Hmk.out.same gw (Hsw0.out.lt (by omega)) (.inl (Hltw.out (by omega))))).trans (Hsw0.out.cell i hi)⟩
  have Hog0 := Hog
  have HgT : Hid (w4.heap.size ≤ gg) := hide (Nat.le_trans H45.out Hgg.out)
  replace Hog : Hid (BOwn w14 ag gg 0 M F) := hide ⟨⟨Hog0.out.at', fun i hi => (World.cell?_of_block (a := ⟨gg, 0 + i, none⟩) (Hmk.out.same gg (Hog0.out.lt (by omega)) (.inr HgT.out))).trans (Hog0.out.cell i hi)⟩, fun i hi => (World.frozen?_of_block (a := ⟨gg, 0 + i, none⟩) (Hmk.out.same gg (Hog0.out.lt (by omega)) (.inr HgT.out))).trans (Hog0.out.free i hi)⟩
  have HgA : Hid (w.heap.size < gg) := hide (Nat.lt_of_lt_of_le HS3.out (Nat.le_trans H34.out HgT.out))
  have Hgw : Hid (0 < M → gw ≠ gg) := hide (fun h => by have h1 := Hltw.out h; have h2 := HgT.out; have h3 := H34.out; omega)
  clear Hsw0 Hog0 HBk0 Hmk
  have hk1 : ¬ zk < 0 := by omega
  have sw := Hsw.out
  have og := Hog.out
  go_wp2_with fail
  refine (eqByteS_any ag gg 0 M cg F aw gw 0 M cw F _ og.toBSeg sw hM).mono ?_
  rintro e w15 ⟨rfl, q14, rfl⟩
  rw [alike_refl]
  have HEW : Ext w14 (w14.drewN q14) := ext_drewN _ _
  replace HBk := hide (Blk.ext HBk.out HEW (Blk.lt HBk.out HA0.out))
  replace HE := hide (Ext.trans HE.out HEW)
  replace sw := sw.of_all HEW
  replace og := og.of_all HEW
  clear HEW Hsw Hog
  generalize w14.drewN q14 = w15 at *
  go_wp2_with fail
  refine (markByteS_any ag gg 0 M cg F 1 _ og hM (by omega) (by omega)).mono ?_
  rintro e w16 ⟨rfl, og2, hT16⟩
  replace HE := hide (below_touch HE.out hT16 (Nat.le_of_lt HgA.out))
  replace sw := sw.touch hT16 Hgw.out
  replace HBk := hide (HBk.out.of_heap (hT16.grown.block _ (Blk.lt HBk.out HA0.out) (by have := HgA.out; simp; omega)))
  clear og hT16
  go_wp2_with fail
  refine (heldByteS_any ag gg 0 M cg 1 _ og2.toBSeg hM (by omega) (by omega)).mono ?_
  rintro e w17 ⟨rfl, hw⟩
  obtain rfl := hw.symm
  have hp : ¬ (1 + (M : Int) < 0) := by omega
  have hldL := HlA.out _ HBk.out
  go_wp2_with (refine wpList_ld (by first | rfl | simp [Region.wanted, yielded]) 26 _ rfl _ rfl _ hldL ?_)
  refine (HT.out _ HE.out).mono ?_
  rintro e w18 ⟨p18, rfl, hs18, HEW⟩
  replace HE := hide (Ext.trans HE.out HEW)
  replace sw := sw.of_all HEW
  replace og2 := og2.of_all HEW
  clear HEW hldL HT
  have HIy := hide (HI.out p18 _ HE.out hs18.in')
  obtain ⟨D2, hD2⟩ : ∃ C, clL c p18 = C := ⟨_, rfl⟩
  rw [hD2] at HIy ⊢
  clear hD2 HI hs18
  go_wp2_with fail
  refine HIy.out.mono ?_
  rintro e w19 ⟨ah, gh, ch, rfl, hgh, oh, HEW⟩
  replace HE := hide (Ext.trans HE.out HEW)
  replace sw := sw.of_all HEW
  replace og2 := og2.of_all HEW
  clear HEW HIy hgh
  go_wp2_with fail
  refine (eqByteS_any ah gh 0 M ch F aw gw 0 M cw F _ oh.toBSeg sw hM).mono ?_
  rintro e w20 ⟨rfl, q19, rfl⟩
  rw [alike_refl]
  replace og2 := og2.of_all (ext_drewN w19 q19)
  replace HE := hide (Ext.trans HE.out (ext_drewN w19 q19))
  clear sw oh
  generalize w19.drewN q19 = w20 at *
  go_wp2_with fail
  refine (heldByteS_any ag gg 0 M cg 1 _ og2.toBSeg hM (by omega) (by omega)).mono ?_
  rintro e w21 ⟨rfl, hw⟩
  obtain rfl := hw.symm
  go_wp2
  go_ret
  exact ⟨rfl, HE.out⟩

set_option maxHeartbeats 12800000 in
set_option maxRecDepth 100000 in
theorem lawWriteCrl_at (c : Cl) (m : ClPl) (ok : Bool) (M : Nat) (F : Nat → Int) (hM : M ≤ 1048576) (w : World)
    (HSz : Hid (∀ W, Ext w W → Calls Tryz.prog 5 #[.agg (clL c m).toArray, .int .i64 1048576] W fun e w' => (∃ z : Int, e = .returned (.int .i64 z) ∧ -1 ≤ z ∧ z ≤ 1048576 ∧ (0 ≤ z → ClSm c 1048576)) ∧ Ext W w'))
    (HTo : Hid (ClSm c 1048576 → ∀ W, Ext w W → Calls Tryz.prog 7 #[.agg (clL c m).toArray] W fun e w' => ∃ p : ClPl, e = .returned (.agg (clL c p).toArray) ∧ ClOw W.heap.size (w'.heap.size) w' c p ∧ Ext W w'))
    (HSp : Hid (ClSm c 1048576 → ∀ (p : ClPl) (W : World), Ext w W → ClIn W c p → Calls Tryz.prog 14 #[.agg (clL c p).toArray] W fun e w' => GivesKb W M F ok e w'))
    (HIm : Hid (ClSm c 1048576 → ∀ (p : ClPl) (W : World), Ext w W → ClIn W c p → Calls Tryz.prog 15 #[.agg (clL c p).toArray] W fun e w' => GivesKb W M F ok e w'))
    (HEq : Hid (ClSm c 1048576 → ∀ (p p2 : ClPl) (W : World), ClIn W c p → ClIn W c p2 → Calls Tryz.prog 10 #[.agg (clL c p).toArray, .agg (clL c p2).toArray] W fun e w' => e = .returned (.bool true) ∧ Ext W w'))
    (HMk : Hid (ClSm c 1048576 → ∀ (p : ClPl) (S T : Nat) (W : World), ClOw S (T) W c p → T ≤ W.heap.size → Calls Tryz.prog 11 #[.agg (clL c p).toArray, .int .i64 1] W fun e w' => (∃ z : Int, e = .returned (.int .i64 z) ∧ 0 ≤ z) ∧ Mkw S T W w')) :
    Calls Tryz.prog 4 #[.agg (clL c m).toArray] w fun e w' => e = .returned (.bool true) ∧ Ext w w' := by
  obtain ⟨A, hA⟩ : ∃ A, clL c m = A := ⟨_, rfl⟩
  have hlA : A.length = 6 := by rw [← hA]; rfl
  rw [hA] at HSz HTo ⊢
  clear hA
  obtain ⟨V, hV⟩ : ∃ V, w.alloc (.cells A.toArray 26) = V := ⟨_, rfl⟩
  obtain ⟨B0, hE, -⟩ := box1 w A 26 (w1 := V) (by rw [← hV]; exact Ext.refl _)
  have HBk := hide B0
  have HE := hide hE
  have ldA : ∀ (W : World), Blk W w.heap.size A → (loadVar 26 ⟨w.heap.size, 0, none⟩).run Tryz.prog W = .ok (.agg A.toArray) W := fun W hB => run_ld (P := Tryz.prog) 26 A W (by rw [hlA]; kernel_rfl) (by kernel_rfl) w.heap.size 0 (Blk.ld hB 0 _ (fun j v h => by rw [Nat.zero_add]; exact h))
  have HlA := hide ldA
  have HA0 : Hid (0 < A.length) := hide (by rw [hlA]; decide)
  clear B0 hE ldA
  have hldL := HlA.out V HBk.out
  go_enter Tryz.func4, Tryz.ntmps4
  go_wp2_with (refine wpList_ld (by first | rfl | simp [Region.wanted, yielded]) 26 _ rfl _ rfl _ hldL ?_)
  refine (HSz.out _ HE.out).mono ?_
  rintro e w1 ⟨⟨z, rfl, z0, z1, hz⟩, HEW⟩
  replace HBk := hide (Blk.ext HBk.out HEW (Blk.lt HBk.out HA0.out))
  replace HE := hide (Ext.trans HE.out HEW)
  clear HEW hldL HSz
  by_cases hz0 : z < 0
  · clear hz
    go_wp2
    go_ret
    exact ⟨rfl, HE.out⟩
  have hn := hz (by omega)
  have HT := hide (HTo.out hn)
  have HS := hide (HSp.out hn)
  have HI := hide (HIm.out hn)
  have HQ := hide (HEq.out hn)
  have HM := hide (HMk.out hn)
  clear hz hn HTo HSp HIm HEq HMk
  have hldL := HlA.out _ HBk.out
  go_wp2_with (refine wpList_ld (by first | rfl | simp [Region.wanted, yielded]) 26 _ rfl _ rfl _ hldL ?_)
  refine (HT.out _ HE.out).mono ?_
  rintro e w2 ⟨p2, rfl, hs2, HEW⟩
  replace HBk := hide (Blk.ext HBk.out HEW (Blk.lt HBk.out HA0.out))
  replace HE := hide (Ext.trans HE.out HEW)
  clear HEW hldL
  have HSx := hide (HS.out p2 _ HE.out hs2.in')
  obtain ⟨C2, hC2⟩ : ∃ C, clL c p2 = C := ⟨_, rfl⟩
  rw [hC2] at HSx ⊢
  clear hC2 hs2 HS
  go_wp2_with fail
  refine HSx.out.mono ?_
  rintro e w3 ⟨aw, gw, cw, rfl, hgw, ow, HEW⟩
  replace HBk := hide (Blk.ext HBk.out HEW (Blk.lt HBk.out HA0.out))
  replace HE := hide (Ext.trans HE.out HEW)
  have sw := ow.toBSeg
  have ltw : 0 < M → gw < w3.heap.size := fun h => ow.lt h
  have HS3 : Hid (w.heap.size < w3.heap.size) := hide (Blk.lt HBk.out HA0.out)
  have Hltw := hide ltw
  clear HEW HSx ow hgw ltw
  have hldL := HlA.out _ HBk.out
  go_wp2_with (refine wpList_ld (by first | rfl | simp [Region.wanted, yielded]) 26 _ rfl _ rfl _ hldL ?_)
  refine (HT.out _ HE.out).mono ?_
  rintro e w4 ⟨p4, rfl, hs4, HEW⟩
  replace HBk := hide (Blk.ext HBk.out HEW (Blk.lt HBk.out HA0.out))
  replace HE := hide (Ext.trans HE.out HEW)
  replace sw := sw.of_all HEW
  have H34 := hide (Below.size HEW)
  clear HEW hldL
  have HIx := hide (HI.out p4)
  have HQx := hide (fun p' => HQ.out p4 p')
  have HMx := hide (HM.out p4)
  have hone : ∀ v ∈ clL c p4, v.oneCell' = true := by simp [clL, Value.oneCell']
  have hlC : (clL c p4).length = 6 := rfl
  obtain ⟨C, hC⟩ : ∃ C, clL c p4 = C := ⟨_, rfl⟩
  rw [hC] at HIx HQx HMx hone hlC ⊢
  clear hC HQ HM
  have hst := run_st (P := Tryz.prog) 30 C (w4.alloc (.cells #[.slice none 0 0, .int .i64 0, .int .i64 0, .int .i64 0, .slice none 0 0, .slice none 0 0] 30)) (by rw [hlC]; kernel_rfl) hone w4.heap.size 0 (Blk.st (Blk.alloc w4 [.slice none 0 0, .int .i64 0, .int .i64 0, .int .i64 0, .slice none 0 0, .slice none 0 0] 30) 0 _ (by rw [hlC]; decide))
  have hB5 := Blk.putAll1 (vs := C) (Blk.alloc w4 [.slice none 0 0, .int .i64 0, .int .i64 0, .int .i64 0, .slice none 0 0, .slice none 0 0] 30) (by rw [hlC]; rfl)
  have HEW : Ext w4 (putL w4.heap.size 0 C (w4.alloc (.cells #[.slice none 0 0, .int .i64 0, .int .i64 0, .int .i64 0, .slice none 0 0, .slice none 0 0] 30))) := below_putL (Nat.le_refl _) _ 0 _ (Ext.alloc _ _)
  obtain ⟨V5, hV5⟩ : ∃ V5, putL w4.heap.size 0 C (w4.alloc (.cells #[.slice none 0 0, .int .i64 0, .int .i64 0, .int .i64 0, .slice none 0 0, .slice none 0 0] 30)) = V5 := ⟨_, rfl⟩
  rw [hV5] at hst hB5 HEW
  replace HBk := hide (Blk.ext HBk.out HEW (Blk.lt HBk.out HA0.out))
  replace HE := hide (Ext.trans HE.out HEW)
  replace sw := sw.of_all HEW
  have HB5 := hide hB5
  have HC0 : Hid (0 < C.length) := hide (by rw [hlC]; decide)
  have Hs5 := hide (hs4.ext HEW)
  have H45 := hide (Below.size HEW)
  have ldC : ∀ (W : World), Blk W w4.heap.size C → (loadVar 30 ⟨w4.heap.size, 0, none⟩).run Tryz.prog W = .ok (.agg C.toArray) W := fun W hB => run_ld (P := Tryz.prog) 30 C W (by rw [hlC]; kernel_rfl) (by kernel_rfl) w4.heap.size 0 (Blk.ld hB 0 _ (fun j v h => by rw [Nat.zero_add]; exact h))
  have HlC := hide ldC
  have hldK := HlC.out V5 HB5.out
  clear HEW hB5 hs4 hV5 ldC hone hlC hlA
  go_wp2_with (first | (refine wpList_st (by first | rfl | simp [Region.wanted, yielded]) 30 _ _ rfl _ rfl _ rfl _ hst ?_) | (refine wpList_ld (by first | rfl | simp [Region.wanted, yielded]) 30 _ rfl _ rfl _ hldK ?_))
  refine (HIx.out _ HE.out Hs5.out.in').mono ?_
  rintro e w6 ⟨ag, gg, cg, rfl, hgg, og, HEW⟩
  replace HBk := hide (Blk.ext HBk.out HEW (Blk.lt HBk.out HA0.out))
  replace HE := hide (Ext.trans HE.out HEW)
  replace HB5 := hide (Blk.ext HB5.out HEW (Blk.lt HB5.out HC0.out))
  replace Hs5 := hide (Hs5.out.ext HEW)
  replace sw := sw.of_all HEW
  have H56 := hide (Below.size HEW)
  have Hgg := hide hgg
  clear HEW hldK hst HIx hgg
  have hne : (ok != ok) = false := by simp
  go_wp2_with fail
  refine (eqByteS_any ag gg 0 M cg F aw gw 0 M cw F _ og.toBSeg sw hM).mono ?_
  rintro e w7 ⟨rfl, q6, rfl⟩
  rw [alike_refl]
  have HEW : Ext w6 (w6.drewN q6) := ext_drewN _ _
  replace HBk := hide (Blk.ext HBk.out HEW (Blk.lt HBk.out HA0.out))
  replace HE := hide (Ext.trans HE.out HEW)
  replace HB5 := hide (Blk.ext HB5.out HEW (Blk.lt HB5.out HC0.out))
  replace Hs5 := hide (Hs5.out.ext HEW)
  replace sw := sw.of_all HEW
  replace og := og.of_all HEW
  have H67 := hide (Below.size HEW)
  clear HEW
  generalize w6.drewN q6 = w7 at *
  have HltC : Hid (w4.heap.size < w7.heap.size) := hide (Blk.lt HB5.out HC0.out)
  have HltA : Hid (w.heap.size < w7.heap.size) := hide (Blk.lt HBk.out HA0.out)
  have Hog := hide og
  have Hsw := hide sw
  clear og sw
  go_wp2_with fail
  refine anyK_begin (fun _ => False) 5 rfl (by kernel_rfl) ?_
  refine anyK_take 0 2 3 rfl (by decide) (by kernel_rfl) (fun _ _ d _ _ h => by cases d <;> exact h) ?_
  refine head_ld (by first | rfl | simp [Region.wanted, yielded]) rfl rfl (fun q => HlC.out _ (blk_reC HB5.out HltC.out q)) ?_
  refine head_ld (by first | rfl | simp [Region.wanted, yielded]) rfl rfl (fun q => HlA.out _ (blk_reC HBk.out HltA.out q)) ?_
  refine headC_nil ?_
  refine anyK_one 2 (by kernel_rfl) ?_
  refine stepK_run rfl ?_
  intro w8 h8 K hKK
  go_simp
  refine (HT.out _ (Ext.trans HE.out h8)).mono ?_
  rintro e w9 ⟨p9, rfl, hs9, hE9⟩
  have HX := hide (Ext.trans h8 hE9)
  have HQy := hide (HQx.out p9)
  obtain ⟨D, hD⟩ : ∃ C, clL c p9 = C := ⟨_, rfl⟩
  rw [hD] at HQy ⊢
  clear hD HQx
  go_simp
  refine hKK _ _ (Grw.of_ext HX.out) ?_
  clear hKK K h8 hE9
  refine anyK_one 3 (by kernel_rfl) ?_
  refine stepK_run rfl ?_
  intro w10 h10 K hKK
  go_simp
  refine (HQy.out _ ((Hs5.out.ext HX.out).ext h10).in' (hs9.ext h10).in').mono ?_
  rintro e w11 ⟨rfl, hE11⟩
  replace HX := hide (Ext.trans HX.out (Ext.trans h10 hE11))
  go_simp
  refine hKK _ _ (Grw.of_ext HX.out) ?_
  clear hKK K h10 hE11 hs9 HQy
  refine anyK_one 4 (by kernel_rfl) ?_
  refine stepK_run rfl ?_
  intro w12 h12 K hKK
  go_simp
  refine hKK _ _ (Grw.of_ext (Ext.trans HX.out h12)) ?_
  clear hKK K
  refine anyK_done (by kernel_rfl) ?_ 0
  intro w13 h13
  have HEW := Ext.trans HX.out (Ext.trans h12 h13)
  replace HBk := hide (Blk.ext HBk.out HEW (Blk.lt HBk.out HA0.out))
  replace HE := hide (Ext.trans HE.out HEW)
  replace HB5 := hide (Blk.ext HB5.out HEW (Blk.lt HB5.out HC0.out))
  replace Hs5 := hide (Hs5.out.ext HEW)
  replace Hsw := hide (Hsw.out.of_all HEW)
  replace Hog := hide (Hog.out.of_all HEW)
  have H713 := hide (Below.size HEW)
  have hldK := HlC.out w13 HB5.out
  have HMy := hide (HMx.out _ _ _ Hs5.out (Nat.le_trans H45.out (Nat.le_trans H56.out (Nat.le_trans H67.out H713.out))))
  clear HEW h12 h13 HX HMx HltC HltA
  go_wp2_with (refine wpList_ld (by first | rfl | simp [Region.wanted, yielded]) 30 _ rfl _ rfl _ hldK ?_)
  refine HMy.out.mono ?_
  rintro e w14 ⟨⟨zk, rfl, hzk⟩, hmk⟩
  have Hmk := hide hmk
  clear hmk hldK HMy Hs5 HB5
  have HBk0 : Hid (w14.heap[w.heap.size]? = w13.heap[w.heap.size]?) := hide (Hmk.out.same _ (Blk.lt HBk.out HA0.out) (.inl HS3.out))
  replace HBk := hide (HBk.out.of_heap HBk0.out)
  replace HE := hide (Hmk.out.below HE.out (Nat.le_of_lt HS3.out) (Below.size HE.out))
  have Hsw0 := Hsw
  replace Hsw : Hid (BSeg w14 aw gw 0 M F) := hide ⟨Hsw0.out.at', fun i hi => (World.cell?_of_block (a := ⟨gw, 0 + i, none⟩) (Hmk.out.same gw (Hsw0.out.lt (by omega)) (.inl (Hltw.out (by omega))))).trans (Hsw0.out.cell i hi)⟩
  have Hog0 := Hog
  have HgT : Hid (w4.heap.size ≤ gg) := hide (Nat.le_trans H45.out Hgg.out)
  replace Hog : Hid (BOwn w14 ag gg 0 M F) := hide ⟨⟨Hog0.out.at', fun i hi => (World.cell?_of_block (a := ⟨gg, 0 + i, none⟩) (Hmk.out.same gg (Hog0.out.lt (by omega)) (.inr HgT.out))).trans (Hog0.out.cell i hi)⟩, fun i hi => (World.frozen?_of_block (a := ⟨gg, 0 + i, none⟩) (Hmk.out.same gg (Hog0.out.lt (by omega)) (.inr HgT.out))).trans (Hog0.out.free i hi)⟩
  have HgA : Hid (w.heap.size < gg) := hide (Nat.lt_of_lt_of_le HS3.out (Nat.le_trans H34.out HgT.out))
  have Hgw : Hid (0 < M → gw ≠ gg) := hide (fun h => by have h1 := Hltw.out h; have h2 := HgT.out; have h3 := H34.out; omega)
  clear Hsw0 Hog0 HBk0 Hmk
  have hk1 : ¬ zk < 0 := by omega
  have sw := Hsw.out
  have og := Hog.out
  go_wp2_with fail
  refine (eqByteS_any ag gg 0 M cg F aw gw 0 M cw F _ og.toBSeg sw hM).mono ?_
  rintro e w15 ⟨rfl, q14, rfl⟩
  rw [alike_refl]
  have HEW : Ext w14 (w14.drewN q14) := ext_drewN _ _
  replace HBk := hide (Blk.ext HBk.out HEW (Blk.lt HBk.out HA0.out))
  replace HE := hide (Ext.trans HE.out HEW)
  replace sw := sw.of_all HEW
  replace og := og.of_all HEW
  clear HEW Hsw Hog
  generalize w14.drewN q14 = w15 at *
  go_wp2_with fail
  refine (markByteS_any ag gg 0 M cg F 1 _ og hM (by omega) (by omega)).mono ?_
  rintro e w16 ⟨rfl, og2, hT16⟩
  replace HE := hide (below_touch HE.out hT16 (Nat.le_of_lt HgA.out))
  replace sw := sw.touch hT16 Hgw.out
  replace HBk := hide (HBk.out.of_heap (hT16.grown.block _ (Blk.lt HBk.out HA0.out) (by have := HgA.out; simp; omega)))
  clear og hT16
  go_wp2_with fail
  refine (heldByteS_any ag gg 0 M cg 1 _ og2.toBSeg hM (by omega) (by omega)).mono ?_
  rintro e w17 ⟨rfl, hw⟩
  obtain rfl := hw.symm
  have hp : ¬ (1 + (M : Int) < 0) := by omega
  have hldL := HlA.out _ HBk.out
  go_wp2_with (refine wpList_ld (by first | rfl | simp [Region.wanted, yielded]) 26 _ rfl _ rfl _ hldL ?_)
  refine (HT.out _ HE.out).mono ?_
  rintro e w18 ⟨p18, rfl, hs18, HEW⟩
  replace HE := hide (Ext.trans HE.out HEW)
  replace sw := sw.of_all HEW
  replace og2 := og2.of_all HEW
  clear HEW hldL HT
  have HIy := hide (HI.out p18 _ HE.out hs18.in')
  obtain ⟨D2, hD2⟩ : ∃ C, clL c p18 = C := ⟨_, rfl⟩
  rw [hD2] at HIy ⊢
  clear hD2 HI hs18
  go_wp2_with fail
  refine HIy.out.mono ?_
  rintro e w19 ⟨ah, gh, ch, rfl, hgh, oh, HEW⟩
  replace HE := hide (Ext.trans HE.out HEW)
  replace sw := sw.of_all HEW
  replace og2 := og2.of_all HEW
  clear HEW HIy hgh
  go_wp2_with fail
  refine (eqByteS_any ah gh 0 M ch F aw gw 0 M cw F _ oh.toBSeg sw hM).mono ?_
  rintro e w20 ⟨rfl, q19, rfl⟩
  rw [alike_refl]
  replace og2 := og2.of_all (ext_drewN w19 q19)
  replace HE := hide (Ext.trans HE.out (ext_drewN w19 q19))
  clear sw oh
  generalize w19.drewN q19 = w20 at *
  go_wp2_with fail
  refine (heldByteS_any ag gg 0 M cg 1 _ og2.toBSeg hM (by omega) (by omega)).mono ?_
  rintro e w21 ⟨rfl, hw⟩
  obtain rfl := hw.symm
  go_wp2
  go_ret
  exact ⟨rfl, HE.out⟩
end

section
set_option linter.unusedVariables false
set_option linter.unusedSimpArgs false
set_option maxRecDepth 100000

open Go.RowKit

open Go.ChangeShapes Go.WideShapes Go.ChangeAt

section

variable {H : Type} {enc : TypeId × Value → H} {w : World} {base : Nat} {held : Bool}

theorem open_intsC {fuel : Nat} {cs : List Value} {x : DataW H × List MemPlace} (h : DataW.trod enc Tryz.prog w base (fun _ => true) held fuel 23 cs = some x) :
    ∃ (p : Plc) (n : Nat) (f : Nat → Int), cs = [.slice p.ad n p.cap] ∧ Seg w p.ad p.b p.off n f ∧ n ≤ 9223372036854775807 := by
  rcases open_ints Tryz.underlying23 Tryz.underlying3 (by kernel_rfl) h with ⟨hcs, _⟩ | ⟨a, l, c, zs, hcs, _, hl, hm, hz, _, hcell, hwz⟩
  · exact ⟨⟨none, 0, 0, 0⟩, 0, fun _ => 0, hcs, ⟨fun h => absurd h (Nat.lt_irrefl _), fun i hi => absurd hi (Nat.not_lt_zero _)⟩, Nat.zero_le _⟩
  · simp at hz
    obtain ⟨b, off, spot⟩ := a
    have hmm : l ≤ 9223372036854775807 := by unfold maxLen at hm; omega
    by_cases h0 : l = 0
    · subst h0
      exact ⟨⟨_, 0, 0, c⟩, 0, fun _ => 0, hcs, ⟨fun h => absurd h (Nat.lt_irrefl _), fun i hi => absurd hi (Nat.not_lt_zero _)⟩, Nat.zero_le _⟩
    · have hspot : spot = none := by simpa [Addr.add] using World.cell?_spot (hcell 0 (by omega))
      subst hspot
      refine ⟨⟨some ⟨b, off, none⟩, b, off, c⟩, l, fun i => zs.getD i 0, hcs, ⟨fun _ => rfl, fun i hi => ?_⟩, hmm⟩
      have := hcell i (by omega)
      rwa [add_off] at this

theorem open_strsP {fuel : Nat} {cs : List Value} {x : DataW H × List MemPlace} (h : DataW.trod enc Tryz.prog w base (fun _ => true) held fuel 22 cs = some x) :
    ∃ (p : Plc) (n : Nat) (f : Nat → ByteArray), cs = [.slice p.ad n p.cap] ∧ StsIn w p.ad p.b p.off n f := by
  obtain ⟨a, b, off, n, cap, f, hcs, hI⟩ := open_strsC h
  exact ⟨⟨a, b, off, cap⟩, n, f, hcs, hI⟩

end
end

section
set_option linter.unusedVariables false
set_option linter.unusedSimpArgs false
set_option maxRecDepth 100000

open Go.RowKit

open Go.ChangeShapes Go.WideShapes Go.ChangeAt

section

variable {H : Type} {enc : TypeId × Value → H} {w : World} {base : Nat} {held : Bool}

theorem open_bysC {fuel : Nat} {cs : List Value} {x : DataW H × List MemPlace} (h : DataW.trod enc Tryz.prog w base (fun _ => true) held fuel 24 cs = some x) :
    ∃ (p : Plc) (n : Nat) (f : Nat → Int), cs = [.slice p.ad n p.cap] ∧ BSeg w p.ad p.b p.off n f ∧ n ≤ 9223372036854775807 := by
  rcases open_ints Tryz.underlying24 Tryz.underlying5 (by kernel_rfl) h with ⟨hcs, _⟩ | ⟨a, l, c, zs, hcs, _, hl, hm, hz, _, hcell, hwz⟩
  · exact ⟨⟨none, 0, 0, 0⟩, 0, fun _ => 0, hcs, ⟨fun h => absurd h (Nat.lt_irrefl _), fun i hi => absurd hi (Nat.not_lt_zero _)⟩, Nat.zero_le _⟩
  · simp at hz
    obtain ⟨b, off, spot⟩ := a
    have hmm : l ≤ 9223372036854775807 := by unfold maxLen at hm; omega
    by_cases h0 : l = 0
    · subst h0
      exact ⟨⟨_, 0, 0, c⟩, 0, fun _ => 0, hcs, ⟨fun h => absurd h (Nat.lt_irrefl _), fun i hi => absurd hi (Nat.not_lt_zero _)⟩, Nat.zero_le _⟩
    · have hspot : spot = none := by simpa [Addr.add] using World.cell?_spot (hcell 0 (by omega))
      subst hspot
      refine ⟨⟨some ⟨b, off, none⟩, b, off, c⟩, l, fun i => zs.getD i 0, hcs, ⟨fun _ => rfl, fun i hi => ?_⟩, hmm⟩
      have := hcell i (by omega)
      rwa [add_off] at this

end
end

section
set_option linter.unusedVariables false
set_option linter.unusedSimpArgs false
set_option maxRecDepth 100000

open Go.RowKit

open Go.ChangeShapes Go.WideShapes Go.ChangeAt

theorem kl : Tryz.prog.cellsOf 26 = 6 ∧ Tryz.prog.cellsOf 3 = 1 ∧ Tryz.prog.cellsOf 22 = 1 ∧ Tryz.prog.cellsOf 24 = 1 ∧ Tryz.prog.cellsOf 23 = 1 := by
  refine ⟨?_, ?_, ?_, ?_, ?_⟩ <;> kernel_rfl

theorem listL6 {α : Type} {l : List α} (h : l.length = 6) : ∃ a b c d e f, l = [a, b, c, d, e, f] := by
  match l, h with
  | [a, b, c, d, e, f], _ => exact ⟨a, b, c, d, e, f, rfl⟩

section

variable {H : Type} {enc : TypeId × Value → H} {w : World} {base : Nat} {held : Bool}

/-- A list of what is void in memory. -/
structure ClM where
  c : Cl
  m : ClPl

structure CrlIn (w : World) (X : ClM) : Prop where
  ok : ClIn w X.c X.m
  sm : ClSm X.c 9223372036854775807

set_option maxHeartbeats 3200000 in
theorem open_crlC {fuel : Nat} {cs : List Value} {y : DataW H × List MemPlace} (h : DataW.trod enc Tryz.prog w base (fun _ => true) held fuel 26 cs = some y) : ∃ X : ClM, cs = clL X.c X.m ∧ CrlIn w X := by
  obtain ⟨k1, k4, k5, k6, k7⟩ := kl
  obtain ⟨xs, n, _, hx, hcl, hlen, hel⟩ := DataW.trod_struct Tryz.underlying26 h
  rw [k1] at hcl
  obtain ⟨c0, c1, c2, c3, c4, c5, rfl⟩ := listL6 hcl
  obtain ⟨y0, y1, y2, y3, y4, y5, rfl⟩ := listL6 hlen
  have f0 := hel 0 _ rfl
  have f1 := hel 1 _ rfl
  have f2 := hel 2 _ rfl
  have f3 := hel 3 _ rfl
  have f4 := hel 4 _ rfl
  have f5 := hel 5 _ rfl
  simp [k4, k5, k6, k7] at f0 f1 f2 f3 f4 f5
  obtain ⟨p0, n0, s0, g0, i0⟩ := open_strsP f0
  obtain ⟨u1, g1, _, w1⟩ := DataW.trod_int Tryz.underlying3 f1
  obtain ⟨u2, g2, _, w2⟩ := DataW.trod_int Tryz.underlying3 f2
  obtain ⟨u3, g3, _, w3⟩ := DataW.trod_int Tryz.underlying3 f3
  obtain ⟨p4, n4, s4, g4, i4, j4⟩ := open_intsC f4
  obtain ⟨p5, n5, s5, g5, i5, j5⟩ := open_bysC f5
  simp at g0 g1 g2 g3 g4 g5
  subst g0 g1 g2 g3 g4 g5
  exact ⟨⟨⟨n0, s0, u1, u2, u3, n4, s4, n5, s5⟩, ⟨p0, p4, p5⟩⟩, rfl, ⟨i0.seg, i4, i5⟩, ⟨i0.small, i0.each, j4, j5⟩⟩

theorem open_crl {r : Reach} {b0 : Nat} {v : Value} {d : DataW H} {p : List MemPlace} (hv : Value.okWide Tryz.prog w r b0 26 v) (h : DataW.Trod enc Tryz.prog w base (fun _ => true) held 26 v d p) :
    ∃ X : ClM, v = .agg (clL X.c X.m).toArray ∧ CrlIn w X := by
  obtain ⟨cs, rfl, hsz⟩ := okWide_struct Tryz.underlying26 hv
  obtain ⟨fuel, hf⟩ := h
  obtain ⟨X, hm, hI⟩ := open_crlC hf
  refine ⟨X, ?_, hI⟩
  simp only [Value.cells] at hm
  rw [← hm]

end
end

section
set_option linter.unusedVariables false
set_option linter.unusedSimpArgs false

open Go.RowKit

theorem lawCrlTbs_any (X : ClM) (w : World) (hI : CrlIn w X) (hT : MTab w) (hP : TabP w) :
    Calls Tryz.prog 3 #[.agg (clL X.c X.m).toArray] w fun e w' => e = .returned (.bool true) ∧ Ext w w' := by
  obtain ⟨g, hg⟩ := dayG_ex
  exact lawCrlTbs_at X.c X.m (ansB (clB X.c) (clC g X.c)) _ (fun i => (ansL (clB X.c) (clC g X.c)).getD i 0) (ansL_len (clB X.c) (clC g X.c)) w (hide fun W hW => szCrl_any X.c X.m 1048576 W (hI.ok.ext hW) hI.sm (by omega) (by omega))
    (hide fun hS W hW => toCrlO_any X.c X.m W (hI.ok.ext hW) hS)
    (hide fun hS p W hW h => specCrlTbs_at g hg X.c p W h hS) (hide fun hS p W hW h => implCrlTbs_at g hg X.c p W h hS (hT.ext hW) (hP.ext hW))
    (hide fun hS p p2 W h h2 => eqCrl_same X.c p p2 W h h2 hS) (hide fun hS p S T W h hTl => markCrl_any X.c p S T W h hTl hS)

theorem lawWriteCrl_any (X : ClM) (w : World) (hI : CrlIn w X) (hT : MTab w) (hP : TabP w) :
    Calls Tryz.prog 4 #[.agg (clL X.c X.m).toArray] w fun e w' => e = .returned (.bool true) ∧ Ext w w' := by
  obtain ⟨g, hg⟩ := dayG_ex
  exact lawWriteCrl_at X.c X.m (ansB (clB X.c) (seC (clC g X.c) X.c.ng X.c.fg)) _ (fun i => (ansL (clB X.c) (seC (clC g X.c) X.c.ng X.c.fg)).getD i 0) (ansL_len (clB X.c) (seC (clC g X.c) X.c.ng X.c.fg)) w (hide fun W hW => szCrl_any X.c X.m 1048576 W (hI.ok.ext hW) hI.sm (by omega) (by omega))
    (hide fun hS W hW => toCrlO_any X.c X.m W (hI.ok.ext hW) hS)
    (hide fun hS p W hW h => specWriteCrl_at g hg X.c p W h hS) (hide fun hS p W hW h => implWriteCrl_at g hg X.c p W h hS (hT.ext hW) (hP.ext hW))
    (hide fun hS p p2 W h h2 => eqCrl_same X.c p p2 W h h2 hS) (hide fun hS p S T W h hTl => markCrl_any X.c p S T W h hTl hS)
end

end Go.Proofs.YtgdjaapjdmancaaGreatDoor
