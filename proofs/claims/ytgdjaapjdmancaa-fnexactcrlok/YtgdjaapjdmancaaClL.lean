/- The walk of the law FnExactCrlOk (written by mkcrl.py). -/
import Derived.Test.YtgdjaapjdmancaaClK
import Derived.Test.YtgdjaapjdmancaaClO
namespace Go.Proofs.Ytgdjaapjdmancaa
set_option linter.unusedVariables false
set_option linter.unusedSimpArgs false
open Go.RowKit

set_option maxHeartbeats 12800000 in
set_option maxRecDepth 100000 in
theorem lawCrlOk_at (c : Cl) (m : ClPl)  (ok : Bool) (w : World) 
    (HSz : Hid (∀ W, Ext w W → Calls Try.prog 4 #[.agg (clL c m).toArray, .int .i64 1048576] W fun e w' => (∃ z : Int, e = .returned (.int .i64 z) ∧ -1 ≤ z ∧ z ≤ 1048576 ∧ (0 ≤ z → ClSm c 1048576)) ∧ Ext W w'))
    (HTo : Hid (ClSm c 1048576 → ∀ W, Ext w W → Calls Try.prog 6 #[.agg (clL c m).toArray] W fun e w' => ∃ p : ClPl, e = .returned (.agg (clL c p).toArray) ∧ ClIn w' c p ∧ Ext W w'))
    (HSp : Hid (ClSm c 1048576 → ∀ (p : ClPl) (W : World), ClIn W c p → Calls Try.prog 5 #[.agg (clL c p).toArray] W fun e w' => e = .returned (.bool ok) ∧ Ext W w'))
    (HIm : Hid (ClSm c 1048576 → ∀ (p : ClPl) (W : World), ClIn W c p → Calls Try.prog 7 #[.agg (clL c p).toArray] W fun e w' => e = .returned (.bool ok) ∧ Ext W w'))
    (HEq : Hid (ClSm c 1048576 → ∀ (p p2 : ClPl) (W : World), ClIn W c p → ClIn W c p2 → Calls Try.prog 8 #[.agg (clL c p).toArray, .agg (clL c p2).toArray] W fun e w' => e = .returned (.bool true) ∧ Ext W w')) :
    Calls Try.prog 3 #[.agg (clL c m).toArray] w fun e w' => e = .returned (.bool true) ∧ Ext w w' := by
  obtain ⟨A, hA⟩ : ∃ A, clL c m = A := ⟨_, rfl⟩
  have hlA : A.length = 6 := by rw [← hA]; rfl
  rw [hA] at HSz HTo ⊢
  clear hA
  obtain ⟨V, hV⟩ : ∃ V, w.alloc (.cells A.toArray 26) = V := ⟨_, rfl⟩
  obtain ⟨B0, hE, -⟩ := box1 w A 26 (w1 := V) (by rw [← hV]; exact Ext.refl _)
  have HBk := hide B0
  have HE := hide hE
  have ldA : ∀ (W : World), Blk W w.heap.size A → (loadVar 26 ⟨w.heap.size, 0, none⟩).run Try.prog W = .ok (.agg A.toArray) W := fun W hB => run_ld (P := Try.prog) 26 A W (by rw [hlA]; kernel_rfl) (by kernel_rfl) w.heap.size 0 (Blk.ld hB 0 _ (fun j v h => by rw [Nat.zero_add]; exact h))
  have HlA := hide ldA
  have HA0 : Hid (0 < A.length) := hide (by rw [hlA]; decide)
  clear B0 hE ldA
  have hldL := HlA.out V HBk.out
  go_enter Try.func3, Try.ntmps3
  go_wp2_with (refine wpList_ld (by first | rfl | simp [Region.wanted, yielded]) 26 _ rfl _ rfl _ hldL ?_)
  refine (HSz.out _ HE.out).mono ?_
  rintro e w1 ⟨⟨z, rfl, z0, z1, hz⟩, HEW⟩
  replace HBk := hide (Blk.ext HBk.out HEW (Blk.lt HBk.out HA0.out))
  replace HE := hide (Ext.trans HE.out HEW)
  clear HEW hldL HSz
  by_cases hz0 : z < 0
  · clear hz
    go_wp2
    go_ret
    exact ⟨rfl, HE.out⟩
  have hn := hz (by omega)
  have HT := hide (HTo.out hn)
  have HS := hide (HSp.out hn)
  have HI := hide (HIm.out hn)
  have HQ := hide (HEq.out hn)
  clear hz hn HTo HSp HIm HEq
  have hldL := HlA.out w1 HBk.out
  go_wp2_with (refine wpList_ld (by first | rfl | simp [Region.wanted, yielded]) 26 _ rfl _ rfl _ hldL ?_)
  refine (HT.out _ HE.out).mono ?_
  rintro e w2 ⟨p2, rfl, hs2, HEW⟩
  replace HBk := hide (Blk.ext HBk.out HEW (Blk.lt HBk.out HA0.out))
  replace HE := hide (Ext.trans HE.out HEW)
  clear HEW hldL
  have HSx := hide (HS.out p2 _ hs2)
  obtain ⟨C2, hC2⟩ : ∃ C, clL c p2 = C := ⟨_, rfl⟩
  rw [hC2] at HSx ⊢
  clear hC2 hs2 HS
  go_wp2_with fail
  refine HSx.out.mono ?_
  rintro e w3 ⟨rfl, HEW⟩
  replace HBk := hide (Blk.ext HBk.out HEW (Blk.lt HBk.out HA0.out))
  replace HE := hide (Ext.trans HE.out HEW)
  clear HEW HSx
  have hldL := HlA.out w3 HBk.out
  go_wp2_with (refine wpList_ld (by first | rfl | simp [Region.wanted, yielded]) 26 _ rfl _ rfl _ hldL ?_)
  refine (HT.out _ HE.out).mono ?_
  rintro e w4 ⟨p4, rfl, hs4, HEW⟩
  replace HBk := hide (Blk.ext HBk.out HEW (Blk.lt HBk.out HA0.out))
  replace HE := hide (Ext.trans HE.out HEW)
  clear HEW hldL
  have HIx := hide (HI.out p4)
  have HQx := hide (fun p' => HQ.out p4 p')
  have hone : ∀ v ∈ clL c p4, v.oneCell' = true := by simp [clL, Value.oneCell']
  have hlC : (clL c p4).length = 6 := rfl
  obtain ⟨C, hC⟩ : ∃ C, clL c p4 = C := ⟨_, rfl⟩
  rw [hC] at HIx HQx hone hlC ⊢
  clear hC HI HQ
  have hst := run_st (P := Try.prog) 29 C (w4.alloc (.cells #[.slice none 0 0, .int .i64 0, .int .i64 0, .int .i64 0, .slice none 0 0, .slice none 0 0] 29)) (by rw [hlC]; kernel_rfl) hone w4.heap.size 0 (Blk.st (Blk.alloc w4 [.slice none 0 0, .int .i64 0, .int .i64 0, .int .i64 0, .slice none 0 0, .slice none 0 0] 29) 0 _ (by rw [hlC]; decide))
  have hB5 := Blk.putAll1 (vs := C) (Blk.alloc w4 [.slice none 0 0, .int .i64 0, .int .i64 0, .int .i64 0, .slice none 0 0, .slice none 0 0] 29) (by rw [hlC]; rfl)
  have HEW : Ext w4 (putL w4.heap.size 0 C (w4.alloc (.cells #[.slice none 0 0, .int .i64 0, .int .i64 0, .int .i64 0, .slice none 0 0, .slice none 0 0] 29))) := below_putL (Nat.le_refl _) _ 0 _ (Ext.alloc _ _)
  obtain ⟨V5, hV5⟩ : ∃ V5, putL w4.heap.size 0 C (w4.alloc (.cells #[.slice none 0 0, .int .i64 0, .int .i64 0, .int .i64 0, .slice none 0 0, .slice none 0 0] 29)) = V5 := ⟨_, rfl⟩
  rw [hV5] at hst hB5 HEW
  replace HBk := hide (Blk.ext HBk.out HEW (Blk.lt HBk.out HA0.out))
  replace HE := hide (Ext.trans HE.out HEW)
  have HB5 := hide hB5
  have HC0 : Hid (0 < C.length) := hide (by rw [hlC]; decide)
  have hs5 := hs4.ext HEW
  have ldC : ∀ (W : World), Blk W w4.heap.size C → (loadVar 29 ⟨w4.heap.size, 0, none⟩).run Try.prog W = .ok (.agg C.toArray) W := fun W hB => run_ld (P := Try.prog) 29 C W (by rw [hlC]; kernel_rfl) (by kernel_rfl) w4.heap.size 0 (Blk.ld hB 0 _ (fun j v h => by rw [Nat.zero_add]; exact h))
  have HlC := hide ldC
  have hldK := HlC.out V5 HB5.out
  clear HEW hB5 hs4 hV5 ldC hone hlC hlA
  go_wp2_with (first | (refine wpList_st (by first | rfl | simp [Region.wanted, yielded]) 29 _ _ rfl _ rfl _ rfl _ hst ?_) | (refine wpList_ld (by first | rfl | simp [Region.wanted, yielded]) 29 _ rfl _ rfl _ hldK ?_))
  refine (HIx.out _ hs5).mono ?_
  rintro e w6 ⟨rfl, HEW⟩
  replace HBk := hide (Blk.ext HBk.out HEW (Blk.lt HBk.out HA0.out))
  replace HE := hide (Ext.trans HE.out HEW)
  replace HB5 := hide (Blk.ext HB5.out HEW (Blk.lt HB5.out HC0.out))
  replace hs5 := hs5.ext HEW
  clear HEW hldK hst HIx
  have hne : (ok != ok) = false := by simp
  have ltC : w4.heap.size < w6.heap.size := Blk.lt HB5.out HC0.out
  have ltA : w.heap.size < w6.heap.size := Blk.lt HBk.out HA0.out
  have HltC := hide ltC
  have HltA := hide ltA
  clear ltC ltA
  go_wp2_with fail
  refine anyK_begin (fun _ => False) 5 rfl (by kernel_rfl) ?_
  refine anyK_take 0 2 3 rfl (by decide) (by kernel_rfl) (fun _ _ d _ _ h => by cases d <;> exact h) ?_
  refine head_ld (by first | rfl | simp [Region.wanted, yielded]) rfl rfl (fun q => HlC.out _ (blk_reC HB5.out HltC.out q)) ?_
  refine head_ld (by first | rfl | simp [Region.wanted, yielded]) rfl rfl (fun q => HlA.out _ (blk_reC HBk.out HltA.out q)) ?_
  refine headC_nil ?_
  refine anyK_one 2 (by kernel_rfl) ?_
  refine stepK_run rfl ?_
  intro w7 h7 K hKK
  go_simp
  refine (HT.out _ (Ext.trans HE.out h7)).mono ?_
  rintro e w8 ⟨p8, rfl, hs8, hE8⟩
  have HX := hide (Ext.trans h7 hE8)
  have hs9 := hs5.ext HX.out
  have HQy := hide (HQx.out p8)
  obtain ⟨D, hD⟩ : ∃ C, clL c p8 = C := ⟨_, rfl⟩
  rw [hD] at HQy ⊢
  clear hD HQx
  go_simp
  refine hKK _ _ (Grw.of_ext HX.out) ?_
  clear hKK K h7 hE8
  refine anyK_one 3 (by kernel_rfl) ?_
  refine stepK_run rfl ?_
  intro w9 h9 K hKK
  go_simp
  refine (HQy.out _ (hs9.ext h9) (hs8.ext h9)).mono ?_
  rintro e w10 ⟨rfl, hE10⟩
  replace HX := hide (Ext.trans HX.out (Ext.trans h9 hE10))
  go_simp
  refine hKK _ _ (Grw.of_ext HX.out) ?_
  clear hKK K h9 hE10 hs8 hs9
  refine anyK_one 4 (by kernel_rfl) ?_
  refine stepK_run rfl ?_
  intro w11 h11 K hKK
  go_simp
  refine hKK _ _ (Grw.of_ext (Ext.trans HX.out h11)) ?_
  clear hKK K
  refine anyK_done (by kernel_rfl) ?_ 0
  intro w12 h12
  have HY := hide (Ext.trans HE.out (Ext.trans HX.out (Ext.trans h11 h12)))
  clear h11 h12 HX HE
  go_wp2
  go_ret
  exact ⟨rfl, HY.out⟩

theorem lawCrlOk_any (X : ClM) (w : World) (hI : CrlIn w X) :
    Calls Try.prog 3 #[.agg (clL X.c X.m).toArray] w fun e w' => e = .returned (.bool true) ∧ Ext w w' := by
  exact lawCrlOk_at X.c X.m (clB X.c) w (hide fun W hW => szCrl_any X.c X.m 1048576 W (hI.ok.ext hW) hI.sm (by omega) (by omega))
    (hide fun hS W hW => (toCrl_any X.c X.m W (hI.ok.ext hW) hS).mono fun e w' ⟨p, h1, h2, h3⟩ => ⟨p, h1, h2 _ (Kp.refl _ _), h3⟩)
    (hide fun hS p W h => specCrlOk_at X.c p W h hS) (hide fun hS p W h => implCrlOk_at X.c p W h hS)
    (hide fun hS p p2 W h h2 => eqCrl_same X.c p p2 W h h2 hS)

end Go.Proofs.Ytgdjaapjdmancaa
