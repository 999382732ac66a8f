/- The walk of the law FnExactOwnIssuer (written by mkcrt.py). -/
import Derived.Test.YtollgoadgjlccaaGreatDoorCz45
namespace Go.Proofs.YtollgoadgjlccaaGreatDoor

section
set_option linter.unusedVariables false
set_option linter.unusedSimpArgs false

open Go.RowKit

set_option maxHeartbeats 12800000 in
set_option maxRecDepth 100000 in
theorem lawOwnIssuer_at (c : Ct) (m : CtPl)  (ok : Bool) (w : World) 
    (HSz : Hid (∀ W, Ext w W → Calls Tryz.prog 8 #[.agg (ctL c m).toArray, .int .i64 1048576] W fun e w' => (∃ z : Int, e = .returned (.int .i64 z) ∧ -1 ≤ z ∧ z ≤ 1048576 ∧ (0 ≤ z → CtSm c 1048576)) ∧ Ext W w'))
    (HTo : Hid (CtSm c 1048576 → ∀ W, Ext w W → Calls Tryz.prog 10 #[.agg (ctL c m).toArray] W fun e w' => ∃ p : CtPl, e = .returned (.agg (ctL c p).toArray) ∧ CtIn w' c p ∧ Ext W w'))
    (HSp : Hid (CtSm c 1048576 → ∀ (p : CtPl) (W : World), CtIn W c p → Calls Tryz.prog 21 #[.agg (ctL c p).toArray] W fun e w' => e = .returned (.bool ok) ∧ Ext W w'))
    (HIm : Hid (CtSm c 1048576 → ∀ (p : CtPl) (W : World), CtIn W c p → Calls Tryz.prog 22 #[.agg (ctL c p).toArray] W fun e w' => e = .returned (.bool ok) ∧ Ext W w'))
    (HEq : Hid (CtSm c 1048576 → ∀ (p p2 : CtPl) (W : World), CtIn W c p → CtIn W c p2 → Calls Tryz.prog 12 #[.agg (ctL c p).toArray, .agg (ctL c p2).toArray] W fun e w' => e = .returned (.bool true) ∧ Ext W w')) :
    Calls Tryz.prog 6 #[.agg (ctL c m).toArray] w fun e w' => e = .returned (.bool true) ∧ Ext w w' := by
  obtain ⟨A, hA⟩ : ∃ A, ctL c m = A := ⟨_, rfl⟩
  have hlA : A.length = 34 := by rw [← hA]; rfl
  rw [hA] at HSz HTo ⊢
  clear hA
  obtain ⟨V, hV⟩ : ∃ V, w.alloc (.cells A.toArray 39) = V := ⟨_, rfl⟩
  obtain ⟨B0, hE, -⟩ := box1 w A 39 (w1 := V) (by rw [← hV]; exact Ext.refl _)
  have HBk := hide B0
  have HE := hide hE
  have ldA : ∀ (W : World), Blk W w.heap.size A → (loadVar 39 ⟨w.heap.size, 0, none⟩).run Tryz.prog W = .ok (.agg A.toArray) W := fun W hB => run_ld (P := Tryz.prog) 39 A W (by rw [hlA]; kernel_rfl) (by kernel_rfl) w.heap.size 0 (Blk.ld hB 0 _ (fun j v h => by rw [Nat.zero_add]; exact h))
  have HlA := hide ldA
  have HA0 : Hid (0 < A.length) := hide (by rw [hlA]; decide)
  clear B0 hE ldA
  have hldL := HlA.out V HBk.out
  go_enter Tryz.func6, Tryz.ntmps6
  go_wp2_with (refine wpList_ld (by first | rfl | simp [Region.wanted, yielded]) 39 _ rfl _ rfl _ hldL ?_)
  refine (HSz.out _ HE.out).mono ?_
  rintro e w1 ⟨⟨z, rfl, z0, z1, hz⟩, HEW⟩
  replace HBk := hide (Blk.ext HBk.out HEW (Blk.lt HBk.out HA0.out))
  replace HE := hide (Ext.trans HE.out HEW)
  clear HEW hldL HSz
  by_cases hz0 : z < 0
  · clear hz
    go_wp2
    go_ret
    exact ⟨rfl, HE.out⟩
  have hn := hz (by omega)
  have HT := hide (HTo.out hn)
  have HS := hide (HSp.out hn)
  have HI := hide (HIm.out hn)
  have HQ := hide (HEq.out hn)
  clear hz hn HTo HSp HIm HEq
  have hldL := HlA.out w1 HBk.out
  go_wp2_with (refine wpList_ld (by first | rfl | simp [Region.wanted, yielded]) 39 _ rfl _ rfl _ hldL ?_)
  refine (HT.out _ HE.out).mono ?_
  rintro e w2 ⟨p2, rfl, hs2, HEW⟩
  replace HBk := hide (Blk.ext HBk.out HEW (Blk.lt HBk.out HA0.out))
  replace HE := hide (Ext.trans HE.out HEW)
  clear HEW hldL
  have HSx := hide (HS.out p2 _ hs2)
  obtain ⟨C2, hC2⟩ : ∃ C, ctL c p2 = C := ⟨_, rfl⟩
  rw [hC2] at HSx ⊢
  clear hC2 hs2 HS
  go_wp2_with fail
  refine HSx.out.mono ?_
  rintro e w3 ⟨rfl, HEW⟩
  replace HBk := hide (Blk.ext HBk.out HEW (Blk.lt HBk.out HA0.out))
  replace HE := hide (Ext.trans HE.out HEW)
  clear HEW HSx
  have hldL := HlA.out w3 HBk.out
  go_wp2_with (refine wpList_ld (by first | rfl | simp [Region.wanted, yielded]) 39 _ rfl _ rfl _ hldL ?_)
  refine (HT.out _ HE.out).mono ?_
  rintro e w4 ⟨p4, rfl, hs4, HEW⟩
  replace HBk := hide (Blk.ext HBk.out HEW (Blk.lt HBk.out HA0.out))
  replace HE := hide (Ext.trans HE.out HEW)
  clear HEW hldL
  have HIx := hide (HI.out p4)
  have HQx := hide (fun p' => HQ.out p4 p')
  have hone : ∀ v ∈ ctL c p4, v.oneCell' = true := by simp [ctL, kyL, exL, Value.oneCell']
  have hlC : (ctL c p4).length = 34 := rfl
  obtain ⟨C, hC⟩ : ∃ C, ctL c p4 = C := ⟨_, rfl⟩
  rw [hC] at HIx HQx hone hlC ⊢
  clear hC HI HQ
  have hst := run_st (P := Tryz.prog) 50 C (w4.alloc (.cells #[.int .i64 0, .slice none 0 0, .slice none 0 0, .int .i64 0, .int .i64 0, .int .i64 0, .slice none 0 0, .int .i64 0, .int .i64 0, .int .i64 0, .int .i64 0, .int .i64 0, .int .i64 0, .int .i64 0, .int .i64 0, .int .i64 0, .bool false, .int .i64 0, .int .i64 0, .int .i64 0, .int .i64 0, .int .i64 0, .int .i64 0, .int .i64 0, .int .i64 0, .bool false, .int .i64 0, .int .i64 0, .slice none 0 0, .slice none 0 0, .slice none 0 0, .slice none 0 0, .slice none 0 0, .slice none 0 0] 50)) (by rw [hlC]; kernel_rfl) hone w4.heap.size 0 (Blk.st (Blk.alloc w4 [.int .i64 0, .slice none 0 0, .slice none 0 0, .int .i64 0, .int .i64 0, .int .i64 0, .slice none 0 0, .int .i64 0, .int .i64 0, .int .i64 0, .int .i64 0, .int .i64 0, .int .i64 0, .int .i64 0, .int .i64 0, .int .i64 0, .bool false, .int .i64 0, .int .i64 0, .int .i64 0, .int .i64 0, .int .i64 0, .int .i64 0, .int .i64 0, .int .i64 0, .bool false, .int .i64 0, .int .i64 0, .slice none 0 0, .slice none 0 0, .slice none 0 0, .slice none 0 0, .slice none 0 0, .slice none 0 0] 50) 0 _ (by rw [hlC]; decide))
  have hB5 := Blk.putAll1 (vs := C) (Blk.alloc w4 [.int .i64 0, .slice none 0 0, .slice none 0 0, .int .i64 0, .int .i64 0, .int .i64 0, .slice none 0 0, .int .i64 0, .int .i64 0, .int .i64 0, .int .i64 0, .int .i64 0, .int .i64 0, .int .i64 0, .int .i64 0, .int .i64 0, .bool false, .int .i64 0, .int .i64 0, .int .i64 0, .int .i64 0, .int .i64 0, .int .i64 0, .int .i64 0, .int .i64 0, .bool false, .int .i64 0, .int .i64 0, .slice none 0 0, .slice none 0 0, .slice none 0 0, .slice none 0 0, .slice none 0 0, .slice none 0 0] 50) (by rw [hlC]; rfl)
  have HEW : Ext w4 (putL w4.heap.size 0 C (w4.alloc (.cells #[.int .i64 0, .slice none 0 0, .slice none 0 0, .int .i64 0, .int .i64 0, .int .i64 0, .slice none 0 0, .int .i64 0, .int .i64 0, .int .i64 0, .int .i64 0, .int .i64 0, .int .i64 0, .int .i64 0, .int .i64 0, .int .i64 0, .bool false, .int .i64 0, .int .i64 0, .int .i64 0, .int .i64 0, .int .i64 0, .int .i64 0, .int .i64 0, .int .i64 0, .bool false, .int .i64 0, .int .i64 0, .slice none 0 0, .slice none 0 0, .slice none 0 0, .slice none 0 0, .slice none 0 0, .slice none 0 0] 50))) := below_putL (Nat.le_refl _) _ 0 _ (Ext.alloc _ _)
  obtain ⟨V5, hV5⟩ : ∃ V5, putL w4.heap.size 0 C (w4.alloc (.cells #[.int .i64 0, .slice none 0 0, .slice none 0 0, .int .i64 0, .int .i64 0, .int .i64 0, .slice none 0 0, .int .i64 0, .int .i64 0, .int .i64 0, .int .i64 0, .int .i64 0, .int .i64 0, .int .i64 0, .int .i64 0, .int .i64 0, .bool false, .int .i64 0, .int .i64 0, .int .i64 0, .int .i64 0, .int .i64 0, .int .i64 0, .int .i64 0, .int .i64 0, .bool false, .int .i64 0, .int .i64 0, .slice none 0 0, .slice none 0 0, .slice none 0 0, .slice none 0 0, .slice none 0 0, .slice none 0 0] 50)) = V5 := ⟨_, rfl⟩
  rw [hV5] at hst hB5 HEW
  replace HBk := hide (Blk.ext HBk.out HEW (Blk.lt HBk.out HA0.out))
  replace HE := hide (Ext.trans HE.out HEW)
  have HB5 := hide hB5
  have HC0 : Hid (0 < C.length) := hide (by rw [hlC]; decide)
  have hs5 := hs4.ext HEW
  have ldC : ∀ (W : World), Blk W w4.heap.size C → (loadVar 50 ⟨w4.heap.size, 0, none⟩).run Tryz.prog W = .ok (.agg C.toArray) W := fun W hB => run_ld (P := Tryz.prog) 50 C W (by rw [hlC]; kernel_rfl) (by kernel_rfl) w4.heap.size 0 (Blk.ld hB 0 _ (fun j v h => by rw [Nat.zero_add]; exact h))
  have HlC := hide ldC
  have hldK := HlC.out V5 HB5.out
  clear HEW hB5 hs4 hV5 ldC hone hlC hlA
  go_wp2_with (first | (refine wpList_st (by first | rfl | simp [Region.wanted, yielded]) 50 _ _ rfl _ rfl _ rfl _ hst ?_) | (refine wpList_ld (by first | rfl | simp [Region.wanted, yielded]) 50 _ rfl _ rfl _ hldK ?_))
  refine (HIx.out _ hs5).mono ?_
  rintro e w6 ⟨rfl, HEW⟩
  replace HBk := hide (Blk.ext HBk.out HEW (Blk.lt HBk.out HA0.out))
  replace HE := hide (Ext.trans HE.out HEW)
  replace HB5 := hide (Blk.ext HB5.out HEW (Blk.lt HB5.out HC0.out))
  replace hs5 := hs5.ext HEW
  clear HEW hldK hst HIx
  have hne : (ok != ok) = false := by simp
  have ltC : w4.heap.size < w6.heap.size := Blk.lt HB5.out HC0.out
  have ltA : w.heap.size < w6.heap.size := Blk.lt HBk.out HA0.out
  have HltC := hide ltC
  have HltA := hide ltA
  clear ltC ltA
  go_wp2_with fail
  refine anyK_begin (fun _ => False) 5 rfl (by kernel_rfl) ?_
  refine anyK_take 0 2 3 rfl (by decide) (by kernel_rfl) (fun _ _ d _ _ h => by cases d <;> exact h) ?_
  refine head_ld (by first | rfl | simp [Region.wanted, yielded]) rfl rfl (fun q => HlC.out _ (blk_reC HB5.out HltC.out q)) ?_
  refine head_ld (by first | rfl | simp [Region.wanted, yielded]) rfl rfl (fun q => HlA.out _ (blk_reC HBk.out HltA.out q)) ?_
  refine headC_nil ?_
  refine anyK_one 2 (by kernel_rfl) ?_
  refine stepK_run rfl ?_
  intro w7 h7 K hKK
  go_simp
  refine (HT.out _ (Ext.trans HE.out h7)).mono ?_
  rintro e w8 ⟨p8, rfl, hs8, hE8⟩
  have HX := hide (Ext.trans h7 hE8)
  have hs9 := hs5.ext HX.out
  have HQy := hide (HQx.out p8)
  obtain ⟨D, hD⟩ : ∃ C, ctL c p8 = C := ⟨_, rfl⟩
  rw [hD] at HQy ⊢
  clear hD HQx
  go_simp
  refine hKK _ _ (Grw.of_ext HX.out) ?_
  clear hKK K h7 hE8
  refine anyK_one 3 (by kernel_rfl) ?_
  refine stepK_run rfl ?_
  intro w9 h9 K hKK
  go_simp
  refine (HQy.out _ (hs9.ext h9) (hs8.ext h9)).mono ?_
  rintro e w10 ⟨rfl, hE10⟩
  replace HX := hide (Ext.trans HX.out (Ext.trans h9 hE10))
  go_simp
  refine hKK _ _ (Grw.of_ext HX.out) ?_
  clear hKK K h9 hE10 hs8 hs9
  refine anyK_one 4 (by kernel_rfl) ?_
  refine stepK_run rfl ?_
  intro w11 h11 K hKK
  go_simp
  refine hKK _ _ (Grw.of_ext (Ext.trans HX.out h11)) ?_
  clear hKK K
  refine anyK_done (by kernel_rfl) ?_ 0
  intro w12 h12
  have HY := hide (Ext.trans HE.out (Ext.trans HX.out (Ext.trans h11 h12)))
  clear h11 h12 HX HE
  go_wp2
  go_ret
  exact ⟨rfl, HY.out⟩

theorem lawOwnIssuer_any (X : CtM) (w : World) (hI : CertIn w X) :
    Calls Tryz.prog 6 #[.agg (ctL X.c X.m).toArray] w fun e w' => e = .returned (.bool true) ∧ Ext w w' := by
  obtain ⟨ok, hok⟩ := tell (KeyP X.c.k)
  exact lawOwnIssuer_at X.c X.m (owB X.c ok) w (hide fun W hW => szCert_any X.c X.m 1048576 W (hI.ok.ext hW) hI.sm (by omega) (by omega))
    (hide fun hS W hW => (toCert_any X.c X.m W (hI.ok.ext hW) hS).mono fun e w' ⟨p, h1, h2, h3⟩ => ⟨p, h1, h2 _ (Kp.refl _ _), h3⟩)
    (hide fun hS p W h => specOwnIssuer_at X.c p ok hok W h hS (hI.ky hS.k)) (hide fun hS p W h => implOwnIssuer_at X.c p ok hok W h hS (hI.ky hS.k))
    (hide fun hS p p2 W h h2 => eqCert_same X.c p p2 W h h2 hS)
end

end Go.Proofs.YtollgoadgjlccaaGreatDoor
