/- Walks: the program copies a certificate (written by mkcpc.py). -/
import Derived.Test.YtfhiiakoilkbkaaGreatDoorCv35
namespace Go.Proofs.YtfhiiakoilkbkaaGreatDoor
set_option linter.unusedVariables false
set_option linter.unusedSimpArgs false
open Go.RowKit
structure CtN (B T : Nat) (w : World) (c : Ct) (m : CtPl) : Prop where
 inn : CtIn w c m
 own : ∀ r, r < 9 → PtW w c m r
 sep : ∀ r r', r < 9 → r' < 9 → r ≠ r' → ∀ b, PtT c m r b → ¬ PtT c m r' b
 iv : ∀ r, r < 9 → ∀ b, PtT c m r b → B ≤ b ∧ b < T
def CpCt (W w' : World) (c : Ct) (m : CtPl) : Prop := ∀ w'', Kp W.heap.size w' w'' → CtN W.heap.size w'.heap.size w'' c m
def zC : List Value := [.int .i64 0, .slice none 0 0, .slice none 0 0, .int .i64 0, .int .i64 0, .int .i64 0, .slice none 0 0, .int .i64 0, .int .i64 0, .int .i64 0, .int .i64 0, .int .i64 0, .int .i64 0, .int .i64 0, .int .i64 0, .int .i64 0, .bool false, .int .i64 0, .int .i64 0, .int .i64 0, .int .i64 0, .int .i64 0, .int .i64 0, .int .i64 0, .int .i64 0, .bool false, .int .i64 0, .int .i64 0, .slice none 0 0, .slice none 0 0, .slice none 0 0, .slice none 0 0, .slice none 0 0, .slice none 0 0]
theorem pt_xt {c : Ct} {m : CtPl} {r b : Nat} (h3 : 3 ≤ r) (h7 : r ≤ 7) (h : PtT c m r b) : XtT c.x m.x (r - 3) b := by
 have e : r = 3 ∨ r = 4 ∨ r = 5 ∨ r = 6 ∨ r = 7 := by omega
 rcases e with rfl | rfl | rfl | rfl | rfl
 ·rcases h with h | ⟨h, -⟩; exact h; omega
 ·rcases h with h | ⟨-, h⟩; exact .inr h; exact .inl h
 ·rcases h with h | ⟨h, -⟩; exact h; omega
 ·rcases h with h | ⟨h, -⟩; exact h; omega
 ·rcases h with h | ⟨h, -⟩; exact h; omega
theorem ctn_of {w : World} {c : Ct} {m : CtPl} {B T x0 x1 : Nat} (lo hi : Nat → Nat) (hi0 : SSeg w m.i.ad m.i.b m.i.off c.ni c.fi ∧ SAny w m.i.ad m.i.b m.i.off c.ni) (hs0 : SSeg w m.s.ad m.s.b m.s.off c.ns c.fs ∧ SAny w m.s.ad m.s.b m.s.off c.ns) (hk : Own w m.k.ad m.k.b m.k.off c.k.n c.k.f) (hx : ExO x0 x1 w c.x m.x) (hg : BOwn w m.g.ad m.g.b m.g.off c.ng c.fg)
  (i0 : 0 < c.ni → lo 0 ≤ m.i.b ∧ m.i.b < hi 0) (i1 : 0 < c.ns → lo 1 ≤ m.s.b ∧ m.s.b < hi 1) (i2 : 0 < c.k.n → lo 2 ≤ m.k.b ∧ m.k.b < hi 2) (i3 : lo 3 = x0 ∧ hi 3 = x1) (i4 : 0 < c.ng → lo 4 ≤ m.g.b ∧ m.g.b < hi 4)
  (ap : ∀ r r', r < 5 → r' < 5 → r ≠ r' → hi r ≤ lo r' ∨ hi r' ≤ lo r) (hB : ∀ r, r < 5 → B ≤ lo r) (hT : ∀ r, r < 5 → hi r ≤ T) : CtN B T w c m := by
 have key : ∀ r, r < 9 → ∀ b, PtT c m r b → ∃ g, g < 5 ∧ lo g ≤ b ∧ b < hi g ∧ (g = if r < 3 then r else if r < 8 then 3 else 4) := by
  intro r hr b hb
  have e : r = 0 ∨ r = 1 ∨ r = 2 ∨ (3 ≤ r ∧ r ≤ 7) ∨ r = 8 := by omega
  rcases e with rfl | rfl | rfl | ⟨h3, h7⟩ | rfl
  ·rcases hb with ⟨h0, rfl⟩ | ⟨h, -⟩
   ·exact ⟨0, by decide, (i0 h0).1, (i0 h0).2, rfl⟩
   ·omega
  ·rcases hb with ⟨h0, rfl⟩ | ⟨h, -⟩
   ·exact ⟨1, by decide, (i1 h0).1, (i1 h0).2, rfl⟩
   ·omega
  ·rcases hb with ⟨h0, rfl⟩ | ⟨h, -⟩
   ·exact ⟨2, by decide, (i2 h0).1, (i2 h0).2, rfl⟩
   ·omega
  ·have := hx.iv (r - 3) (by omega) b (pt_xt h3 h7 hb)
   exact ⟨3, by decide, by omega, by omega, by rw [if_neg (by omega), if_pos (by omega)]⟩
  ·rcases hb with ⟨h0, rfl⟩ | ⟨h, -⟩
   ·exact ⟨4, by decide, (i4 h0).1, (i4 h0).2, rfl⟩
   ·omega
 refine ⟨⟨hi0.1, hs0.1, hk.toSeg, ⟨hx.h.1, hx.n.seg, hx.a.1, hx.d.1, hx.p.toSeg⟩, hg.toBSeg⟩, fun r hr => ?_, fun r r' hr hr' hne b k1 k2 => ?_, fun r hr b hb => ?_⟩
 ·match r, hr with
  | 0, _ => exact hi0.2
  | 1, _ => exact hs0.2
  | 2, _ => exact hk
  | 3, _ => exact hx.h.2
  | 4, _ => exact hx.n
  | 5, _ => exact hx.a.2
  | 6, _ => exact hx.d.2
  | 7, _ => exact hx.p
  | 8, _ => exact hg
 ·by_cases hb : (3 ≤ r ∧ r ≤ 7) ∧ 3 ≤ r' ∧ r' ≤ 7
  ·exact hx.sep (r - 3) (r' - 3) (by omega) (by omega) (by omega) b (pt_xt hb.1.1 hb.1.2 k1) (pt_xt hb.2.1 hb.2.2 k2)
  ·obtain ⟨g, g1, g2, g3, g4⟩ := key r hr b k1
   obtain ⟨g', g1', g2', g3', g4'⟩ := key r' hr' b k2
   have hgg : g ≠ g' := by
    intro e
    subst e
    split at g4 <;> split at g4' <;> (try split at g4) <;> (try split at g4') <;> omega
   have := ap g g' g1 g1' hgg
   omega
 ·obtain ⟨g, g1, g2, g3, -⟩ := key r hr b hb
  have := hB g g1; have := hT g g1
  omega
set_option maxHeartbeats 12800000 in
set_option maxRecDepth 100000 in
theorem copiedCert_any (c : Ct) (m : CtPl) (w : World) (hI : CtIn w c m) (hS : CtSm c 1048576) :
  Calls Tryz.prog 35 #[.agg (ctL c m).toArray] w fun e w' => ∃ q : CtPl, e = .returned (.agg (ctL c q).toArray) ∧ CpCt w w' c q ∧ Ext w w' := by
 obtain ⟨V, hV⟩ : ∃ V, (w.alloc (.cells (ctL c m).toArray 54)).alloc (.cells #[.int .i64 0, .slice none 0 0, .slice none 0 0, .int .i64 0, .int .i64 0, .int .i64 0, .slice none 0 0, .int .i64 0, .int .i64 0, .int .i64 0, .int .i64 0, .int .i64 0, .int .i64 0, .int .i64 0, .int .i64 0, .int .i64 0, .bool false, .int .i64 0, .int .i64 0, .int .i64 0, .int .i64 0, .int .i64 0, .int .i64 0, .int .i64 0, .int .i64 0, .bool false, .int .i64 0, .int .i64 0, .slice none 0 0, .slice none 0 0, .slice none 0 0, .slice none 0 0, .slice none 0 0, .slice none 0 0] 54) = V := ⟨_, rfl⟩
 obtain ⟨B0, B1, hE, hsz⟩ := box2 w (ctL c m) zC 54 54 (w1 := V) (by rw [← hV]; exact Ext.refl _)
 have HB := hide B0
 have HR := hide B1
 have HE := hide hE
 have HV := hide hsz
 have HI := hide (hI.ext hE)
 have HS := hide hS
 have HI0 := hide hI
 have d3 := fun p : ReC (fun _ => False) V => cell_reC (B0 1 _ rfl).1 (fun h => h) p
 have d5 := fun p : ReC (fun _ => False) V => cell_reC (B0 2 _ rfl).1 (fun h => h) p
 have d6 := fun p : ReC (fun _ => False) V => cell_reC (B0 33 _ rfl).1 (fun h => h) p
 have HC3 : Hid (∀ W, Ext V W → Calls Tryz.prog 65 #[.slice m.i.ad c.ni m.i.cap] W fun e w' => ∃ q : Plc, e = .returned (.slice q.ad c.ni q.cap) ∧ CpSs W w' c.ni c.fi q ∧ Ext W w') := hide (fun W h => cloneS_any m.i c.ni c.fi W (HI.out.i.of_all h) (by have := hS.i; omega))
 have HC5 : Hid (∀ W, Ext V W → Calls Tryz.prog 65 #[.slice m.s.ad c.ns m.s.cap] W fun e w' => ∃ q : Plc, e = .returned (.slice q.ad c.ns q.cap) ∧ CpSs W w' c.ns c.fs q ∧ Ext W w') := hide (fun W h => cloneS_any m.s c.ns c.fs W (HI.out.s.of_all h) (by have := hS.s; omega))
 have HC6 : Hid (∀ W, Ext V W → Calls Tryz.prog 66 #[.slice m.g.ad c.ng m.g.cap] W fun e w' => ∃ q : Plc, e = .returned (.slice q.ad c.ng q.cap) ∧ CpBs W w' c.ng c.fg q ∧ Ext W w') := hide (fun W h => cloneB_any m.g c.ng c.fg W (HI.out.g.of_all h) (by have := hS.g; omega))
 clear B0 B1 hE hsz hI hS
 go_enter Tryz.func35, Tryz.ntmps35
 go_wp2_with fail
 refine anyK_begin (fun q => q = w.heap.size) 15 rfl (by kernel_rfl) ?_
 refine anyK_phase (X0 := fun _ => False) 10 5 4 rfl rfl (by decide) (by kernel_rfl) (fun _ h => h.elim) (Grw.refl _ _) ?_
 simp only [List.take_succ_cons, List.take_zero]
 refine anyK_take 0 2 8 rfl (by decide) (by kernel_rfl) (fun _ _ d _ _ h => by cases d <;> exact h) ?_
 repeat (refine headC_step (fun K hK => ?_); go_simp; refine hK _ ?_; clear hK K)
 refine headC_nil ?_
 refine anyK_take 3 2 6 rfl (by decide) (by kernel_rfl) (fun _ _ d _ _ h => by cases d <;> exact h) ?_
 repeat (refine headC_step (fun K hK => ?_); go_simp; refine hK _ ?_; clear hK K)
 refine headC_nil ?_
 refine anyK_take 6 2 4 rfl (by decide) (by kernel_rfl) (fun _ _ d _ _ h => by cases d <;> exact h) ?_
 repeat (refine headC_step (fun K hK => ?_); go_simp; refine hK _ ?_; clear hK K)
 refine headC_nil ?_
 clear d3 d5 d6
 refine anyK_one 2 (by kernel_rfl) ?_
 refine stepK_run rfl ?_
 intro wa0 ha K2 hK2
 go_simp
 refine (HC3.out wa0 (ha)).mono ?_
 rintro e wb0 ⟨q3, rfl, c3, hb⟩
 have Hc3 := hide c3
 have Hs0 := hide (Below.size ha)
 have Ht0 := hide hb
 have HE0 := hide (ha.trans hb)
 have Hx0 := hide ha
 try go_simp
 refine hK2 _ _ (Grw.of_ext HE0.out) ?_
 clear hK2 K2 ha hb c3
 refine anyK_take 9 1 2 rfl (by decide) (by kernel_rfl) (fun _ _ d _ _ h => by cases d <;> exact h) ?_
 repeat (refine headC_step (fun K hK => ?_); go_simp; refine hK _ ?_; clear hK K)
 refine headC_nil ?_
 refine anyK_one 5 (by kernel_rfl) ?_
 refine stepK_run rfl ?_
 intro wa1 ha K2 hK2
 go_simp
 refine (HC5.out wa1 ((HE0.out.trans ha))).mono ?_
 rintro e wb1 ⟨q5, rfl, c5, hb⟩
 have Hc5 := hide c5
 have Hs1 := hide (Below.size ha)
 have Ht1 := hide hb
 have HE1 := hide (HE0.out.trans (ha.trans hb))
 have Hx1 := hide ha
 try go_simp
 refine hK2 _ _ (Grw.of_ext HE1.out) ?_
 clear hK2 K2 ha hb c5
 refine anyK_one 8 (by kernel_rfl) ?_
 refine stepK_run rfl ?_
 intro wa2 ha K2 hK2
 go_simp
 refine (HC6.out wa2 ((HE1.out.trans ha))).mono ?_
 rintro e wb2 ⟨q6, rfl, c6, hb⟩
 have Hc6 := hide c6
 have Hs2 := hide (Below.size ha)
 have Ht2 := hide hb
 have HE2 := hide (HE1.out.trans (ha.trans hb))
 have Hx2 := hide ha
 try go_simp
 refine hK2 _ _ (Grw.of_ext HE2.out) ?_
 clear hK2 K2 ha hb c6
 refine anyK_done (by kernel_rfl) ?_ 0
 intro w4 h4
 have HE4 := hide (HE2.out.trans h4)
 have HL := hide (show w.heap.size < V.heap.size by have := HV.out; omega)
 have HK0 := hide (show Kp V.heap.size wb2 w4 from Kp.ext h4)
 have HW0 := hide (show Ext w w4 from HE.out.trans HE4.out)
 have HB0 := hide (HB.out.ext HE4.out HL.out)
 have HR0 := hide (HR.out.ext HE4.out (by have := HV.out; omega))
 have HG0 := hide (show Grw (fun q => q = w.heap.size) V w4 from Grw.of_ext HE4.out)
 have HZ0 := hide (Below.size HE4.out)
 clear h4 HB HR
 unfold thenK
 dsimp only
 refine anyK_one 10 (by kernel_rfl) ?_
 refine stepK_run rfl ?_
 intro ws0 h5 K2 hK2
 have hB5 := HB0.out.ext h5 (Nat.lt_of_lt_of_le HL.out HZ0.out)
 have u := (hB5 1 _ rfl).1
 have y := (hB5 1 _ rfl).2
 have HB1 := hide (hB5.set1 1 (.slice q3.ad c.ni q3.cap) (by simp [ctL, kyL, exL]))
 have HR1 : Hid (Blk (ws0.setCell ⟨w.heap.size, 1, none⟩ (.slice q3.ad c.ni q3.cap)) (w.heap.size + 1) zC) := hide (Blk.ofH (HR0.out.ext h5 (by have := HV.out; have := HZ0.out; omega)) (Below.heap_setCell _ _ _ _ (show w.heap.size + 1 ≠ w.heap.size by omega)))
 have HK1 : Hid (Kp V.heap.size wb2 (ws0.setCell ⟨w.heap.size, 1, none⟩ (.slice q3.ad c.ni q3.cap))) := hide ((HK0.out.trans (Kp.ext h5)).trans (Kp.set HL.out 1 (.slice q3.ad c.ni q3.cap) ws0))
 have HW1 : Hid (Ext w (ws0.setCell ⟨w.heap.size, 1, none⟩ (.slice q3.ad c.ni q3.cap))) := hide (Below.setCell (HW0.out.trans h5) (Nat.le_refl _) _)
 have HG1 : Hid (Grw (fun q => q = w.heap.size) V (ws0.setCell ⟨w.heap.size, 1, none⟩ (.slice q3.ad c.ni q3.cap))) := hide ((HG0.out.trans (Grw.of_ext h5)).trans (Grw.of_touch ((Touch.refl w.heap.size ws0).set 1 (.slice q3.ad c.ni q3.cap)) rfl))
 have HZ1 : Hid (V.heap.size ≤ (ws0.setCell ⟨w.heap.size, 1, none⟩ (.slice q3.ad c.ni q3.cap)).heap.size) := hide (by simp [World.setCell]; exact Nat.le_trans HZ0.out (Below.size h5))
 clear hB5 h5
 go_simp
 obtain ⟨wt0, hw⟩ : ∃ W, ws0.setCell ⟨w.heap.size, 1, none⟩ (.slice q3.ad c.ni q3.cap) = W := ⟨_, rfl⟩
 rw [hw] at HB1 HR1 HK1 HW1 HG1 HZ1
 simp only [hw]
 refine hK2 _ _ HG1.out ?_
 clear hK2 K2 u y hw HB0 HR0 HK0 HW0 HG0 HZ0
 refine anyK_take 11 1 3 rfl (by decide) (by kernel_rfl) (fun _ _ d _ _ h => by cases d <;> exact h) ?_
 repeat (refine headC_step (fun K hK => ?_); go_simp; refine hK _ ?_; clear hK K)
 refine headC_nil ?_
 refine anyK_one 12 (by kernel_rfl) ?_
 refine stepK_run rfl ?_
 intro ws1 h5 K2 hK2
 have hB5 := HB1.out.ext h5 (Nat.lt_of_lt_of_le HL.out HZ1.out)
 have u := (hB5 2 _ rfl).1
 have y := (hB5 2 _ rfl).2
 have HB2 := hide (hB5.set1 2 (.slice q5.ad c.ns q5.cap) (by simp [ctL, kyL, exL]))
 have HR2 : Hid (Blk (ws1.setCell ⟨w.heap.size, 2, none⟩ (.slice q5.ad c.ns q5.cap)) (w.heap.size + 1) zC) := hide (Blk.ofH (HR1.out.ext h5 (by have := HV.out; have := HZ1.out; omega)) (Below.heap_setCell _ _ _ _ (show w.heap.size + 1 ≠ w.heap.size by omega)))
 have HK2 : Hid (Kp V.heap.size wb2 (ws1.setCell ⟨w.heap.size, 2, none⟩ (.slice q5.ad c.ns q5.cap))) := hide ((HK1.out.trans (Kp.ext h5)).trans (Kp.set HL.out 2 (.slice q5.ad c.ns q5.cap) ws1))
 have HW2 : Hid (Ext w (ws1.setCell ⟨w.heap.size, 2, none⟩ (.slice q5.ad c.ns q5.cap))) := hide (Below.setCell (HW1.out.trans h5) (Nat.le_refl _) _)
 have HG2 : Hid (Grw (fun q => q = w.heap.size) V (ws1.setCell ⟨w.heap.size, 2, none⟩ (.slice q5.ad c.ns q5.cap))) := hide ((HG1.out.trans (Grw.of_ext h5)).trans (Grw.of_touch ((Touch.refl w.heap.size ws1).set 2 (.slice q5.ad c.ns q5.cap)) rfl))
 have HZ2 : Hid (V.heap.size ≤ (ws1.setCell ⟨w.heap.size, 2, none⟩ (.slice q5.ad c.ns q5.cap)).heap.size) := hide (by simp [World.setCell]; exact Nat.le_trans HZ1.out (Below.size h5))
 clear hB5 h5
 go_simp
 obtain ⟨wt1, hw⟩ : ∃ W, ws1.setCell ⟨w.heap.size, 2, none⟩ (.slice q5.ad c.ns q5.cap) = W := ⟨_, rfl⟩
 rw [hw] at HB2 HR2 HK2 HW2 HG2 HZ2
 simp only [hw]
 refine hK2 _ _ HG2.out ?_
 clear hK2 K2 u y hw HB1 HR1 HK1 HW1 HG1 HZ1
 refine anyK_take 13 1 1 rfl (by decide) (by kernel_rfl) (fun _ _ d _ _ h => by cases d <;> exact h) ?_
 repeat (refine headC_step (fun K hK => ?_); go_simp; refine hK _ ?_; clear hK K)
 refine headC_nil ?_
 refine anyK_one 14 (by kernel_rfl) ?_
 refine stepK_run rfl ?_
 intro ws2 h5 K2 hK2
 have hB5 := HB2.out.ext h5 (Nat.lt_of_lt_of_le HL.out HZ2.out)
 have u := (hB5 33 _ rfl).1
 have y := (hB5 33 _ rfl).2
 have HB3 := hide (hB5.set1 33 (.slice q6.ad c.ng q6.cap) (by simp [ctL, kyL, exL]))
 have HR3 : Hid (Blk (ws2.setCell ⟨w.heap.size, 33, none⟩ (.slice q6.ad c.ng q6.cap)) (w.heap.size + 1) zC) := hide (Blk.ofH (HR2.out.ext h5 (by have := HV.out; have := HZ2.out; omega)) (Below.heap_setCell _ _ _ _ (show w.heap.size + 1 ≠ w.heap.size by omega)))
 have HK3 : Hid (Kp V.heap.size wb2 (ws2.setCell ⟨w.heap.size, 33, none⟩ (.slice q6.ad c.ng q6.cap))) := hide ((HK2.out.trans (Kp.ext h5)).trans (Kp.set HL.out 33 (.slice q6.ad c.ng q6.cap) ws2))
 have HW3 : Hid (Ext w (ws2.setCell ⟨w.heap.size, 33, none⟩ (.slice q6.ad c.ng q6.cap))) := hide (Below.setCell (HW2.out.trans h5) (Nat.le_refl _) _)
 have HG3 : Hid (Grw (fun q => q = w.heap.size) V (ws2.setCell ⟨w.heap.size, 33, none⟩ (.slice q6.ad c.ng q6.cap))) := hide ((HG2.out.trans (Grw.of_ext h5)).trans (Grw.of_touch ((Touch.refl w.heap.size ws2).set 33 (.slice q6.ad c.ng q6.cap)) rfl))
 have HZ3 : Hid (V.heap.size ≤ (ws2.setCell ⟨w.heap.size, 33, none⟩ (.slice q6.ad c.ng q6.cap)).heap.size) := hide (by simp [World.setCell]; exact Nat.le_trans HZ2.out (Below.size h5))
 clear hB5 h5
 go_simp
 obtain ⟨wt2, hw⟩ : ∃ W, ws2.setCell ⟨w.heap.size, 33, none⟩ (.slice q6.ad c.ng q6.cap) = W := ⟨_, rfl⟩
 rw [hw] at HB3 HR3 HK3 HW3 HG3 HZ3
 simp only [hw]
 refine hK2 _ _ HG3.out ?_
 clear hK2 K2 u y hw HB2 HR2 HK2 HW2 HG2 HZ2
 refine anyK_done (by kernel_rfl) ?_ 0
 intro w5 h5
 have HK4 := hide (HK3.out.trans (Kp.ext h5))
 have HW4 := hide (HW3.out.trans h5)
 have HB4 := hide (HB3.out.ext h5 (Nat.lt_of_lt_of_le HL.out HZ3.out))
 have HR4 := hide (HR3.out.ext h5 (by have := HV.out; have := HZ3.out; omega))
 have HZ4 := hide (Nat.le_trans HZ3.out (Below.size h5))
 have Hy5 := hide HK4.out.1
 clear h5 HK3 HW3 HB3 HR3 HZ3 HG3
 have HN := hide (cloneI_any m.k c.k.n c.k.f w5 (HI0.out.k.of_all HW4.out) (by have := HS.out.k; omega))
 have c4 := (HB4.out 6 _ rfl).1
 go_wp2_with fail
 refine HN.out.mono ?_
 rintro e w6 ⟨qn, rfl, hcn, hE6⟩
 have Hcn := hide hcn
 have hB6 := HB4.out.ext hE6 (Nat.lt_of_lt_of_le HL.out HZ4.out)
 have u := (hB6 6 _ rfl).1
 have y := (hB6 6 _ rfl).2
 have HB5 := hide (hB6.set1 6 (.slice qn.ad c.k.n qn.cap) (by simp [ctL, kyL, exL]))
 have HR5 : Hid (Blk (w6.setCell ⟨w.heap.size, 6, none⟩ (.slice qn.ad c.k.n qn.cap)) (w.heap.size + 1) zC) := hide (Blk.ofH (HR4.out.ext hE6 (by have := HV.out; have := HZ4.out; omega)) (Below.heap_setCell _ _ _ _ (show w.heap.size + 1 ≠ w.heap.size by omega)))
 have HW5 : Hid (Ext w (w6.setCell ⟨w.heap.size, 6, none⟩ (.slice qn.ad c.k.n qn.cap))) := hide (Below.setCell (HW4.out.trans hE6) (Nat.le_refl _) _)
 have HZ5 : Hid (V.heap.size ≤ (w6.setCell ⟨w.heap.size, 6, none⟩ (.slice qn.ad c.k.n qn.cap)).heap.size ∧ w6.heap.size ≤ (w6.setCell ⟨w.heap.size, 6, none⟩ (.slice qn.ad c.k.n qn.cap)).heap.size) := hide (by simp [World.setCell]; exact Nat.le_trans HZ4.out (Below.size hE6))
 have HK5 : Hid (Kp V.heap.size wb2 (w6.setCell ⟨w.heap.size, 6, none⟩ (.slice qn.ad c.k.n qn.cap))) := hide ((HK4.out.trans (Kp.ext hE6)).trans (Kp.set HL.out 6 _ w6))
 have HM5 : Hid (Kp V.heap.size w6 (w6.setCell ⟨w.heap.size, 6, none⟩ (.slice qn.ad c.k.n qn.cap))) := hide (Kp.set HL.out 6 _ w6)
 have Hz6 := hide (Below.size hE6)
 go_upto_region 3 with fail
 obtain ⟨w7, hw⟩ : ∃ W, w6.setCell ⟨w.heap.size, 6, none⟩ (.slice qn.ad c.k.n qn.cap) = W := ⟨_, rfl⟩
 try simp only [hw]
 rw [hw] at HB5 HR5 HW5 HZ5 HK5 HM5
 clear hB6 u y hw hcn hE6 c4 HB4 HR4 HW4 HK4 HN
 have HP := hide (copiedExts_any c.x m.x w7 (HI0.out.x.ext HW5.out) HS.out.x)
 have hB7 : Blk w7 w.heap.size (ctL c ⟨q3, q5, qn, m.x, q6⟩) := HB5.out
 have hld := run_ld (P := Tryz.prog) 52 (exL c.x m.x) w7 (by kernel_rfl) (by kernel_rfl) w.heap.size 25 (Blk.ld hB7 25 _ (fun j v h => sub_ex c ⟨q3, q5, qn, m.x, q6⟩ j v h))
 go_wp2_with (first | (refine wpList_ld (by first | rfl | simp [Region.wanted, yielded]) 52 _ rfl _ rfl _ hld ?_))
 refine HP.out.mono ?_
 rintro e w8 ⟨q7, rfl, hcp, hE8⟩
 have Hcp := hide hcp
 have hB8 := hB7.ext hE8 (Nat.lt_of_lt_of_le HL.out HZ5.out.1)
 have hst := run_st (P := Tryz.prog) 52 (exL c.x q7) w8 (by kernel_rfl) (by simp [exL, Value.oneCell']) w.heap.size 25 (Blk.st hB8 25 _ (by simp [ctL, kyL, exL]))
 have hB9 : Blk (putL w.heap.size 25 (exL c.x q7) w8) w.heap.size (ctL c ⟨q3, q5, qn, q7, q6⟩) := Blk.putAt hB8 25 (exL c.x q7) (by simp [ctL, kyL, exL])
 have hR9 : Blk (putL w.heap.size 25 (exL c.x q7) w8) (w.heap.size + 1) zC := fun i v hi => ⟨(cell_putL_other w.heap.size ⟨w.heap.size + 1, i, none⟩ _ 25 w8 (fun e => absurd e (by show ¬ w.heap.size + 1 = w.heap.size; omega))).trans ((HR5.out.ext hE8 (by have := HV.out; have := HZ5.out.1; omega)) i v hi).1, by rw [frozen_putL]; exact ((HR5.out.ext hE8 (by have := HV.out; have := HZ5.out.1; omega)) i v hi).2⟩
 have HW6 : Hid (Ext w (putL w.heap.size 25 (exL c.x q7) w8)) := hide (below_putL (Nat.le_refl _) _ 25 _ (HW5.out.trans hE8))
 have HZ6 : Hid ((putL w.heap.size 25 (exL c.x q7) w8).heap.size = w8.heap.size) := hide (size_putL _ _ _ _)
 have HK6 : Hid (Kp V.heap.size wb2 (putL w.heap.size 25 (exL c.x q7) w8)) := hide ((HK5.out.trans (Kp.ext hE8)).trans (Kp.putL HL.out _ 25 w8))
 have HM6 : Hid (Kp V.heap.size w6 (putL w.heap.size 25 (exL c.x q7) w8)) := hide ((HM5.out.trans (Kp.ext hE8)).trans (Kp.putL HL.out _ 25 w8))
 have HP6 : Hid (Kp V.heap.size w8 (putL w.heap.size 25 (exL c.x q7) w8)) := hide (Kp.putL HL.out _ 25 w8)
 have Hz8 := hide (Below.size hE8)
 obtain ⟨w9, hw⟩ : ∃ W, putL w.heap.size 25 (exL c.x q7) w8 = W := ⟨_, rfl⟩
 rw [hw] at hst hB9 hR9 HW6 HZ6 HK6 HM6 HP6
 have hld2 := run_ld (P := Tryz.prog) 54 (ctL c ⟨q3, q5, qn, q7, q6⟩) w9 (by kernel_rfl) (by kernel_rfl) w.heap.size 0 (Blk.ld hB9 0 _ (fun j v h => by rw [Nat.zero_add]; exact h))
 have hst2 := run_st (P := Tryz.prog) 54 (ctL c ⟨q3, q5, qn, q7, q6⟩) w9 (by kernel_rfl) (by simp [ctL, kyL, exL, Value.oneCell']) (w.heap.size + 1) 0 (Blk.st hR9 0 _ (by simp [ctL, kyL, exL, zC]))
 have HF := hide (Blk.putAll1 hR9 (vs := ctL c ⟨q3, q5, qn, q7, q6⟩) rfl)
 have HEf := hide (below_putL (Nat.le_succ _) (ctL c ⟨q3, q5, qn, q7, q6⟩) 0 _ HW6.out)
 have HL1 := hide (show w.heap.size + 1 < V.heap.size by have := HV.out; omega)
 clear hB7 hB8 hB9 hR9 hcp hE8 hw hld HB5 HR5 HW5 HK5 HM5 HP
 go_wp2_with (first | (refine wpList_st (by first | rfl | simp [Region.wanted, yielded]) 52 _ _ rfl _ rfl _ rfl _ hst ?_) | (refine wpList_ld (by first | rfl | simp [Region.wanted, yielded]) 54 _ rfl _ rfl _ hld2 ?_) | (refine wpList_st (by first | rfl | simp [Region.wanted, yielded]) 54 _ _ rfl _ rfl _ rfl _ hst2 ?_))
 refine bodyPost_ret (v := .agg (ctL c ⟨q3, q5, qn, q7, q6⟩).toArray) (results_at Tryz.results35 rfl (run_ld (P := Tryz.prog) 54 (ctL c ⟨q3, q5, qn, q7, q6⟩) _ (by kernel_rfl) (by kernel_rfl) (w.heap.size + 1) 0 (Blk.ld HF.out 0 _ (fun j v h => by rw [Nat.zero_add]; exact h)))) rfl ?_
 refine ⟨⟨q3, q5, qn, q7, q6⟩, rfl, fun w'' k => ?_, HEf.out⟩
 have kf : Kp V.heap.size w9 w'' := (Kp.putL HL1.out _ 0 w9).trans (k.mono (by have := HV.out; omega))
 have ea : Ext wb0 wb1 := Hx1.out.trans Ht1.out
 have eb : Ext wb1 wb2 := Hx2.out.trans Ht2.out
 have k2 : Kp V.heap.size wb2 w'' := HK6.out.trans kf
 have n0 := Hs0.out
 have n1 := Below.size Ht0.out
 have n2 := Below.size Hx1.out
 have n3 := Below.size Ht1.out
 have n4 := Below.size Hx2.out
 have n5 := Below.size Ht2.out
 have n6 := Hy5.out
 have n7 := Hz6.out
 have n8 := HZ5.out.2
 have n9 := Hz8.out
 have n10 := HZ6.out
 have n11 := HV.out
 have n12 := HZ4.out
 obtain ⟨h3, i3⟩ := Hc3.out w'' (((Kp.ext (ea.trans eb)).trans k2).mono n0)
 obtain ⟨h5, i5⟩ := Hc5.out w'' (((Kp.ext eb).trans k2).mono (by omega))
 obtain ⟨h6, i6⟩ := Hc6.out w'' (k2.mono (by omega))
 obtain ⟨hn, im⟩ := Hcn.out w'' ((HM6.out.trans kf).mono (by omega))
 have hp := Hcp.out w'' ((HP6.out.trans kf).mono (by omega))
 rw [size_putL]
 refine ctn_of (fun r => [wa0.heap.size, wa1.heap.size, w5.heap.size, w7.heap.size, wa2.heap.size].getD r 0) (fun r => [wb0.heap.size, wb1.heap.size, w6.heap.size, w8.heap.size, wb2.heap.size].getD r 0) h3 h5 hn hp h6 i3 i5 im ⟨rfl, rfl⟩ i6 (fun r r' hr hr' hne => ?_) (fun r hr => ?_) (fun r hr => ?_)
 ·have e1 : r = 0 ∨ r = 1 ∨ r = 2 ∨ r = 3 ∨ r = 4 := by omega
  have e2 : r' = 0 ∨ r' = 1 ∨ r' = 2 ∨ r' = 3 ∨ r' = 4 := by omega
  rcases e1 with rfl | rfl | rfl | rfl | rfl <;> rcases e2 with rfl | rfl | rfl | rfl | rfl <;> first | exact absurd rfl hne | (simp; omega)
 ·have e1 : r = 0 ∨ r = 1 ∨ r = 2 ∨ r = 3 ∨ r = 4 := by omega
  rcases e1 with rfl | rfl | rfl | rfl | rfl <;> (simp; omega)
 ·have e1 : r = 0 ∨ r = 1 ∨ r = 2 ∨ r = 3 ∨ r = 4 := by omega
  rcases e1 with rfl | rfl | rfl | rfl | rfl <;> (simp; omega)
end Go.Proofs.YtfhiiakoilkbkaaGreatDoor
