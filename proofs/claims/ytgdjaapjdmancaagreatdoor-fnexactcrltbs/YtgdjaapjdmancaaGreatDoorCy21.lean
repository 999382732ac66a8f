/- Walks: the model's tree of a list of what is void (written by mkclq.py). -/
import Derived.Test.YtgdjaapjdmancaaGreatDoorCy19
import Derived.Test.YtgdjaapjdmancaaGreatDoorCy20
namespace Go.Proofs.YtgdjaapjdmancaaGreatDoor

section
set_option linter.unusedVariables false
set_option linter.unusedSimpArgs false

open Go.RowKit

theorem Grw.of_below {B : Nat} {a b : World} (h : Below B a b) : Grw (fun q => B ≤ q) a b := ⟨h.os, h.tape, h.output, Below.size h, fun k _ hn => Below.block h k (by omega)⟩

set_option maxHeartbeats 12800000 in
set_option maxRecDepth 100000 in
theorem l13Tree_any (g : Int → Nat × Nat × Nat × Nat) (hg : DayG g) (c : Cl) (m : ClPl) (w : World) (hI : ClIn w c m) (hO : ClOk c) :
    Calls Tryz.prog 21 #[.agg (clL c m).toArray] w fun e w' => GivesIs w.heap.size w (clC g c) e w' := by
  obtain ⟨V, hV⟩ : ∃ V, w.alloc (.cells (clL c m).toArray 30) = V := ⟨_, rfl⟩
  obtain ⟨B0, hE, hsz⟩ := box1 w (clL c m) 30 (w1 := V) (by rw [← hV]; exact Ext.refl _)
  have HE := hide hE
  have HBk := hide B0
  have hwV : w.heap.size < V.heap.size := Blk.lt B0 (by simp [clL])
  have HwV := hide hwV
  have HwX : Hid (¬ V.heap.size ≤ w.heap.size) := hide (by omega)
  have HI1 : Hid (∀ W, Calls Tryz.prog 40 #[.int .i64 c.alg] W fun e w' => GivesIs W.heap.size W [intC c.alg] e w') := fun W => l10Int_any c.alg W (by have := hO.alg; omega) (by have := hO.alg; omega)
  have HI2 : Hid (∀ W, Ext w W → Calls Tryz.prog 41 #[.int .i64 12, .slice m.i.ad c.ni m.i.cap] W fun e w' => GivesIs W.heap.size W ((List.range c.ni).map (fun i => txC 12 (c.fi i))) e w') := fun W h => l10Texts_any 12 m.i.ad m.i.b m.i.off c.ni m.i.cap c.fi W (hI.i.of_all h) (by have := hO.ni; omega)
  have HI3 : Hid (∀ W, Calls Tryz.prog 42 #[.int .i64 c.fr] W fun e w' => GivesIs W.heap.size W [tiC g c.fr] e w') := fun W => l10Time_any g hg c.fr hO.fr W
  have HI4 : Hid (∀ W, Calls Tryz.prog 42 #[.int .i64 c.to] W fun e w' => GivesIs W.heap.size W [tiC g c.to] e w') := fun W => l10Time_any g hg c.to hO.to W
  have HI5 : Hid (∀ W, Ext w W → Calls Tryz.prog 43 #[.slice m.v.ad c.nv m.v.cap] W fun e w' => GivesIs W.heap.size W ((List.range c.nv).map (fun i => intC (c.fv i))) e w') := fun W h => l10Ints_any m.v.ad m.v.b m.v.off c.nv m.v.cap c.fv W (hI.v.of_all h) (by have := hO.nv; omega) (fun i hi => by have := hO.fv i hi; omega)
  have HR : Hid (clC g c = ⟨48, 4, []⟩ :: ([intC c.alg] ++ ((⟨48, c.ni, []⟩ :: (List.range c.ni).map (fun i => txC 12 (c.fi i))) ++ ((⟨48, 2, []⟩ :: ([tiC g c.fr] ++ [tiC g c.to])) ++ (⟨48, c.nv, []⟩ :: (List.range c.nv).map (fun i => intC (c.fv i))))))) := rfl
  have HN1 : Hid ([intC c.alg].length ≤ 30) := hide (by simp)
  have HN2 : Hid (((List.range c.ni).map (fun i => txC 12 (c.fi i))).length ≤ 30) := hide (by have := hO.ni; simp; omega)
  have HN3 : Hid ([tiC g c.fr].length ≤ 30) := hide (by simp)
  have HN4 : Hid ([tiC g c.to].length ≤ 30) := hide (by simp)
  have HN5 : Hid (((List.range c.nv).map (fun i => intC (c.fv i))).length ≤ 30) := hide (by have := hO.nv; simp; omega)
  generalize clC g c = C at *
  generalize [intC c.alg] = C1 at *
  generalize (List.range c.ni).map (fun i => txC 12 (c.fi i)) = C2 at *
  generalize [tiC g c.fr] = C3 at *
  generalize [tiC g c.to] = C4 at *
  generalize (List.range c.nv).map (fun i => intC (c.fv i)) = C5 at *
  clear hI hO B0 hE
  have XV : Hid (Ext V V) := Ext.refl _
  have c0 := (HBk.out 0 _ rfl).1
  have c0' := fun p : ReC (fun q => V.heap.size ≤ q) V => cell_reC c0 HwX.out p
  have c3 := (HBk.out 3 _ rfl).1
  have c3' := fun p : ReC (fun q => V.heap.size ≤ q) V => cell_reC c3 HwX.out p
  go_enter Tryz.func21, Tryz.ntmps21
  go_wp2_with fail
  refine anyK_begin (fun q => V.heap.size ≤ q) 12 rfl (by kernel_rfl) ?_
  refine anyK_take 0 2 10 rfl (by decide) (by kernel_rfl) (fun _ _ d _ _ h => by cases d <;> exact h) ?_
  repeat (refine headC_step (fun K hK => ?_); go_simp; first | (refine hK _ ?_; clear hK K) | (apply Exists.intro; refine ⟨fun p => ?_, hK _ ?_⟩; (fail); clear hK K))
  refine headC_nil ?_
  refine anyK_take 3 5 5 rfl (by decide) (by kernel_rfl) (fun _ _ d _ _ h => by cases d <;> exact h) ?_
  repeat (refine headC_step (fun K hK => ?_); go_simp; first | (refine hK _ ?_; clear hK K) | (apply Exists.intro; refine ⟨fun p => ?_, hK _ ?_⟩; (fail); clear hK K))
  refine headC_nil ?_
  clear c0 c0' c3 c3'
  refine anyK_one 2 (by kernel_rfl) ?_
  refine stepK_run rfl ?_
  intro a1 ha1 K2 hK2
  have Xa1 : Hid (Ext V a1) := hide (XV.out.trans ha1)
  go_simp
  refine (HI1.out a1).mono ?_
  rintro r1 a2 ⟨v1, L1, rfl, hL1, hC1, hE1⟩
  have HL1 := hide hL1
  have HC1 := hide hC1
  have HE1 := hide hE1
  have Xa2 : Hid (Ext V a2) := hide (Xa1.out.trans hE1)
  refine hK2 _ _ (.of_ext Xa2.out) ?_
  clear hK2 K2 hL1 hC1 hE1
  refine anyK_one 8 (by kernel_rfl) ?_
  refine stepK_run rfl ?_
  intro a3 ha3 K2 hK2
  have Xa3 : Hid (Ext V a3) := hide (Xa2.out.trans ha3)
  go_simp
  refine (HI2.out a3 (HE.out.trans Xa3.out)).mono ?_
  rintro r2 a4 ⟨v2, L2, rfl, hL2, hC2, hE2⟩
  have HL2 := hide hL2
  have HC2 := hide hC2
  have HE2 := hide hE2
  have Xa4 : Hid (Ext V a4) := hide (Xa3.out.trans hE2)
  refine hK2 _ _ (.of_ext Xa4.out) ?_
  clear hK2 K2 hL2 hC2 hE2
  refine anyK_one 9 (by kernel_rfl) ?_
  refine stepK_run rfl ?_
  intro a5 ha5 K2 hK2
  have Xa5 : Hid (Ext V a5) := hide (Xa4.out.trans ha5)
  go_simp
  refine (l10Made_any 48 (c.ni : Int) v2 L2 a3.heap.size a5 (HL2.out.ext ha5) (by rw [map_len HC2.out]; have := HN2.out; omega) (Nat.le_trans (Below.size HE2.out) (Below.size ha5))).mono ?_
  rintro r3 a6 ⟨v3, L3, rfl, hL3, hC3, hE3⟩
  have HL3 := hide hL3
  have HC3 := hide hC3
  have HE3 := hide hE3
  have Xa6 : Hid (Ext V a6) := hide (Xa5.out.trans hE3)
  refine hK2 _ _ (.of_ext Xa6.out) ?_
  clear hK2 K2 hL3 hC3 hE3
  refine anyK_one 10 (by kernel_rfl) ?_
  refine stepK_run rfl ?_
  intro a7 ha7 K2 hK2
  have Xa7 : Hid (Ext V a7) := hide (Xa6.out.trans ha7)
  rw [if_pos (show _ = true by kernel_rfl)]
  have A0 : LAcc V.heap.size a2 v1 L1 := HL1.out.low (Below.size Xa1.out)
  have e0 : Ext a2 a7 := ((ha3.trans HE2.out).trans (ha5.trans HE3.out)).trans ha7
  have lat := A0.later e0 ((HL3.out.bods.low (Nat.le_trans (Below.size ha3) (Nat.le_refl _))).ext ha7) (Below.size Xa2.out)
  refine wp_appL _ _ rfl (V.heap.size) (a3.heap.size) a2 v1 v3 L1 L3 rfl A0 e0 rfl (ownsRow_ext HL3.out.row ha7) lat.1 lat.2 (by have h1 := map_len HC1.out; have h3 := map_len HC3.out; have h2 := map_len HC2.out; have n1 := HN1.out; have n2 := HN2.out; rw [List.length_cons, List.length_map] at h3; omega) (Below.size Xa2.out) ?_
  intro v4 a8 hA3 hB3
  have HA4 := hide hA3
  have Xa8 : Hid (Ext V a8) := hide (Below.trans Xa7.out (hB3 _ (fun j hj => (A0.row.lt j hj).1) (Below.size Xa7.out)))
  refine hK2 _ _ (.of_ext Xa8.out) ?_
  clear hK2 K2 hA3 hB3 lat A0 e0
  refine anyK_take 11 1 0 rfl (by decide) (by kernel_rfl) (fun _ _ d _ _ h => by cases d <;> exact h) ?_
  repeat (refine headC_step (fun K hK => ?_); go_simp; first | (refine hK _ ?_; clear hK K) | (apply Exists.intro; refine ⟨fun p => ?_, hK _ ?_⟩; (fail); clear hK K))
  refine headC_nil ?_
  refine anyK_done (by kernel_rfl) ?_ 0
  intro V2 hV2
  have XV2 : Hid (Ext V V2) := hide (Xa8.out.trans hV2)
  replace HA4 := hide (HA4.out.ext hV2)
  have HCa : Hid ((L1 ++ L3).map ct = C1 ++ (⟨48, c.ni, []⟩ :: C2)) := hide (by rw [List.map_append, HC1.out, HC3.out, HC2.out])
  have HLa : Hid ((L1 ++ L3).length ≤ 100) := hide (by have h := map_len HCa.out; have n1 := HN1.out; have n2 := HN2.out; rw [h, List.length_append, List.length_cons]; omega)
  generalize L1 ++ L3 = La at *
  have HB2 := hide (Blk.ext HBk.out XV2.out HwV.out)
  have HBk0 := HBk
  replace HBk := HB2
  clear HC1 HC2 HC3 HL1 HL2 HL3 HE1 HE2 HE3 Xa1 Xa2 Xa3 Xa4 Xa5 Xa6 Xa7 Xa8 hV2 HB2 HI1 HI2 ha1 ha3 ha5 ha7
  have XV2s : Hid (Ext V2 V2) := Ext.refl _
  have c1 := (HBk.out 1 _ rfl).1
  have c1' := fun p : ReC (fun q => V.heap.size ≤ q) V2 => cell_reC c1 HwX.out p
  have c2 := (HBk.out 2 _ rfl).1
  have c2' := fun p : ReC (fun q => V.heap.size ≤ q) V2 => cell_reC c2 HwX.out p
  go_wp2_with fail
  refine anyK_begin (fun q => V.heap.size ≤ q) 11 rfl (by kernel_rfl) ?_
  refine anyK_take 0 3 8 rfl (by decide) (by kernel_rfl) (fun _ _ d _ _ h => by cases d <;> exact h) ?_
  repeat (refine headC_step (fun K hK => ?_); go_simp; first | (refine hK _ ?_; clear hK K) | (apply Exists.intro; refine ⟨fun p => ?_, hK _ ?_⟩; (fail); clear hK K))
  refine headC_nil ?_
  refine anyK_take 4 2 6 rfl (by decide) (by kernel_rfl) (fun _ _ d _ _ h => by cases d <;> exact h) ?_
  repeat (refine headC_step (fun K hK => ?_); go_simp; first | (refine hK _ ?_; clear hK K) | (apply Exists.intro; refine ⟨fun p => ?_, hK _ ?_⟩; (fail); clear hK K))
  refine headC_nil ?_
  clear c1 c1' c2 c2'
  refine anyK_one 3 (by kernel_rfl) ?_
  refine stepK_run rfl ?_
  intro b1 hb1 K2 hK2
  have Xb1 : Hid (Ext V2 b1) := hide (XV2s.out.trans hb1)
  go_simp
  refine (HI3.out b1).mono ?_
  rintro r5 b2 ⟨v5, L5, rfl, hL5, hC5, hE5⟩
  have HL5 := hide hL5
  have HC5 := hide hC5
  have HE5 := hide hE5
  have Xb2 : Hid (Ext V2 b2) := hide (Xb1.out.trans hE5)
  refine hK2 _ _ (.of_ext Xb2.out) ?_
  clear hK2 K2 hL5 hC5 hE5
  refine anyK_one 6 (by kernel_rfl) ?_
  refine stepK_run rfl ?_
  intro b3 hb3 K2 hK2
  have Xb3 : Hid (Ext V2 b3) := hide (Xb2.out.trans hb3)
  go_simp
  refine (HI4.out b3).mono ?_
  rintro r6 b4 ⟨v6, L6, rfl, hL6, hC6, hE6⟩
  have HL6 := hide hL6
  have HC6 := hide hC6
  have HE6 := hide hE6
  have Xb4 : Hid (Ext V2 b4) := hide (Xb3.out.trans hE6)
  refine hK2 _ _ (.of_ext Xb4.out) ?_
  clear hK2 K2 hL6 hC6 hE6
  refine anyK_one 7 (by kernel_rfl) ?_
  refine stepK_run rfl ?_
  intro b5 hb5 K2 hK2
  have Xb5 : Hid (Ext V2 b5) := hide (Xb4.out.trans hb5)
  rw [if_pos (show _ = true by kernel_rfl)]
  have A0 : LAcc V2.heap.size b2 v5 L5 := HL5.out.low (Below.size Xb1.out)
  have e0 : Ext b2 b5 := (hb3.trans HE6.out).trans hb5
  have lat := A0.later e0 ((HL6.out.bods.low (Below.size (hb3))).ext hb5) (Below.size Xb2.out)
  refine wp_appL _ _ rfl (V2.heap.size) (b3.heap.size) b2 v5 v6 L5 L6 rfl A0 e0 rfl (ownsRow_ext HL6.out.row hb5) lat.1 lat.2 (by have h5 := map_len HC5.out; have h6 := map_len HC6.out; have n1 := HN3.out; have n2 := HN4.out; omega) (Below.size Xb2.out) ?_
  intro v7 b6 hA3 hB3
  have HA7 := hide hA3
  have Xb6 : Hid (Ext V2 b6) := hide (Below.trans Xb5.out (hB3 _ (fun j hj => (A0.row.lt j hj).1) (Below.size Xb5.out)))
  refine hK2 _ _ (.of_ext Xb6.out) ?_
  clear hK2 K2 hA3 hB3 lat A0 e0
  refine anyK_one 8 (by kernel_rfl) ?_
  refine stepK_run rfl ?_
  intro b7 hb7 K2 hK2
  have Xb7 : Hid (Ext V2 b7) := hide (Xb6.out.trans hb7)
  go_simp
  refine (l10Made_any 48 2 v7 (L5 ++ L6) V2.heap.size b7 (HA7.out.ext hb7) (by have h5 := map_len HC5.out; have h6 := map_len HC6.out; have n1 := HN3.out; have n2 := HN4.out; rw [List.length_append]; omega) (Below.size Xb7.out)).mono ?_
  rintro r8 b8 ⟨v8, L8, rfl, hL8, hC8, hE8⟩
  have HL8 := hide hL8
  have HC8 := hide hC8
  have HE8 := hide hE8
  have Xb8 : Hid (Ext V2 b8) := hide (Xb7.out.trans hE8)
  refine hK2 _ _ (.of_ext Xb8.out) ?_
  clear hK2 K2 hL8 hC8 hE8
  refine anyK_one 9 (by kernel_rfl) ?_
  refine stepK_run rfl ?_
  intro b9 hb9 K2 hK2
  have Xb9 : Hid (Ext V2 b9) := hide (Xb8.out.trans hb9)
  rw [if_pos (show _ = true by kernel_rfl)]
  have A0 : LAcc V.heap.size V2 v4 La := HA4.out
  have e0 : Ext V2 b9 := Xb9.out
  have lat := A0.later e0 ((HL8.out.bods.low (Nat.le_refl _)).ext hb9) (Below.size XV2.out)
  refine wp_appL _ _ rfl V.heap.size (V2.heap.size) V2 v4 v8 La L8 rfl A0 e0 rfl (ownsRow_ext HL8.out.row hb9) lat.1 lat.2 (by have h8 := map_len HC8.out; have h5 := map_len HC5.out; have h6 := map_len HC6.out; have n1 := HN3.out; have n2 := HN4.out; have n3 := HLa.out; rw [List.length_cons, List.length_map, List.length_append] at h8; omega) (Below.size XV2.out) ?_
  intro v9 b10 hA3 hB3
  have HA9 := hide hA3
  have Yb10 : Hid (Below V.heap.size V2 b10) := hide (Below.trans (Xb9.out.mono (Below.size XV2.out)) (hB3 _ (fun j hj => (A0.row.lt j hj).1) (Nat.le_trans (Below.size XV2.out) (Below.size Xb9.out))))
  refine hK2 _ _ (.of_below Yb10.out) ?_
  clear hK2 K2 hA3 hB3 lat A0 e0
  refine anyK_take 10 1 0 rfl (by decide) (by kernel_rfl) (fun _ _ d _ _ h => by cases d <;> exact h) ?_
  repeat (refine headC_step (fun K hK => ?_); go_simp; first | (refine hK _ ?_; clear hK K) | (apply Exists.intro; refine ⟨fun p => ?_, hK _ ?_⟩; (fail); clear hK K))
  refine headC_nil ?_
  refine anyK_done (by kernel_rfl) ?_ 0
  intro V3 hV3
  have XV3 : Hid (Ext V V3) := hide (Below.trans XV2.out (Below.trans Yb10.out (hV3.mono (Nat.le_trans (Below.size XV2.out) (Below.size Yb10.out)))))
  replace HA9 := hide (HA9.out.ext hV3)
  have HCb : Hid ((La ++ L8).map ct = (C1 ++ (⟨48, c.ni, []⟩ :: C2)) ++ (⟨48, 2, []⟩ :: (C3 ++ C4))) := hide (by rw [List.map_append, HCa.out, HC8.out, List.map_append, HC5.out, HC6.out])
  have HLb : Hid ((La ++ L8).length ≤ 300) := hide (by have h8 := map_len HC8.out; have h5 := map_len HC5.out; have h6 := map_len HC6.out; have n1 := HN3.out; have n2 := HN4.out; have n3 := HLa.out; rw [List.length_cons, List.length_map, List.length_append] at h8; rw [List.length_append]; omega)
  generalize La ++ L8 = Lb at *
  have HB3 := hide (Blk.ext HBk0.out XV3.out HwV.out)
  replace HBk := HB3
  clear HC5 HC6 HC8 HL5 HL6 HL8 HE5 HE6 HE8 HA4 HA7 Xb1 Xb2 Xb3 Xb4 Xb5 Xb6 Xb7 Xb8 Xb9 Yb10 hV3 HB3 HI3 HI4 hb1 hb3 hb5 hb7 hb9 XV2s HCa HLa HBk0
  have XV3s : Hid (Ext V3 V3) := Ext.refl _
  have c4 := (HBk.out 4 _ rfl).1
  have c4' := fun p : ReC (fun q => V.heap.size ≤ q) V3 => cell_reC c4 HwX.out p
  go_wp2_with fail
  refine anyK_begin (fun q => V.heap.size ≤ q) 11 rfl (by kernel_rfl) ?_
  refine anyK_take 0 6 5 rfl (by decide) (by kernel_rfl) (fun _ _ d _ _ h => by cases d <;> exact h) ?_
  repeat (refine headC_step (fun K hK => ?_); go_simp; first | (refine hK _ ?_; clear hK K) | (apply Exists.intro; refine ⟨fun p => ?_, hK _ ?_⟩; (fail); clear hK K))
  refine headC_nil ?_
  clear c4 c4'
  refine anyK_one 6 (by kernel_rfl) ?_
  refine stepK_run rfl ?_
  intro d1 hd1 K2 hK2
  have Xd1 : Hid (Ext V3 d1) := hide (XV3s.out.trans hd1)
  go_simp
  refine (HI5.out d1 (HE.out.trans (XV3.out.trans Xd1.out))).mono ?_
  rintro r10 d2 ⟨v10, L10, rfl, hL10, hC10, hE10⟩
  have HL10 := hide hL10
  have HC10 := hide hC10
  have HE10 := hide hE10
  have Xd2 : Hid (Ext V3 d2) := hide (Xd1.out.trans hE10)
  refine hK2 _ _ (.of_ext Xd2.out) ?_
  clear hK2 K2 hL10 hC10 hE10
  refine anyK_one 7 (by kernel_rfl) ?_
  refine stepK_run rfl ?_
  intro d3 hd3 K2 hK2
  have Xd3 : Hid (Ext V3 d3) := hide (Xd2.out.trans hd3)
  go_simp
  refine (l10Made_any 48 (c.nv : Int) v10 L10 d1.heap.size d3 (HL10.out.ext hd3) (by rw [map_len HC10.out]; have := HN5.out; omega) (Nat.le_trans (Below.size HE10.out) (Below.size hd3))).mono ?_
  rintro r11 d4 ⟨v11, L11, rfl, hL11, hC11, hE11⟩
  have HL11 := hide hL11
  have HC11 := hide hC11
  have HE11 := hide hE11
  have Xd4 : Hid (Ext V3 d4) := hide (Xd3.out.trans hE11)
  refine hK2 _ _ (.of_ext Xd4.out) ?_
  clear hK2 K2 hL11 hC11 hE11
  refine anyK_one 8 (by kernel_rfl) ?_
  refine stepK_run rfl ?_
  intro d5 hd5 K2 hK2
  have Xd5 : Hid (Ext V3 d5) := hide (Xd4.out.trans hd5)
  rw [if_pos (show _ = true by kernel_rfl)]
  have A0 : LAcc V.heap.size V3 v9 Lb := HA9.out
  have e0 : Ext V3 d5 := Xd5.out
  have lat := A0.later e0 ((HL11.out.bods.low (Below.size Xd1.out)).ext hd5) (Below.size XV3.out)
  refine wp_appL _ _ rfl V.heap.size (d1.heap.size) V3 v9 v11 Lb L11 rfl A0 e0 rfl (ownsRow_ext HL11.out.row hd5) lat.1 lat.2 (by have h := map_len HC11.out; have h2 := map_len HC10.out; have n1 := HN5.out; have n3 := HLb.out; rw [List.length_cons, List.length_map] at h; omega) (Below.size XV3.out) ?_
  intro v12 d6 hA3 hB3
  have HA12 := hide hA3
  have Yd6 : Hid (Below V.heap.size V3 d6) := hide (Below.trans (Xd5.out.mono (Below.size XV3.out)) (hB3 _ (fun j hj => (A0.row.lt j hj).1) (Nat.le_trans (Below.size XV3.out) (Below.size Xd5.out))))
  refine hK2 _ _ (.of_below Yd6.out) ?_
  clear hK2 K2 hA3 hB3 lat A0 e0
  refine anyK_one 9 (by kernel_rfl) ?_
  refine stepK_run rfl ?_
  intro d7 hd7 K2 hK2
  go_simp
  have Yd7 : Hid (Below V.heap.size V3 d7) := hide (Below.trans Yd6.out (hd7.mono (Nat.le_trans (Below.size XV3.out) (Below.size Yd6.out))))
  refine (l10Made_any 48 4 v12 (Lb ++ L11) V.heap.size d7 (HA12.out.ext hd7) (by have h := map_len HC11.out; have h2 := map_len HC10.out; have n1 := HN5.out; have n3 := HLb.out; rw [List.length_cons, List.length_map] at h; rw [List.length_append]; omega) (Nat.le_trans (Below.size XV3.out) (Below.size Yd7.out))).mono ?_
  rintro r13 d8 ⟨v13, L13, rfl, hL13, hC13, hE13⟩
  have HL13 := hide hL13
  have HC13 := hide hC13
  have Yd8 : Hid (Below V.heap.size V3 d8) := hide (Below.trans Yd7.out (hE13.mono (Nat.le_trans (Below.size XV3.out) (Below.size Yd7.out))))
  refine hK2 _ _ (.of_below Yd8.out) ?_
  clear hK2 K2 hL13 hC13 hE13
  refine anyK_take 10 1 0 rfl (by decide) (by kernel_rfl) (fun _ _ d _ _ h => by cases d <;> exact h) ?_
  repeat (refine headC_step (fun K hK => ?_); go_simp; first | (refine hK _ ?_; clear hK K) | (apply Exists.intro; refine ⟨fun p => ?_, hK _ ?_⟩; (fail); clear hK K))
  refine headC_nil ?_
  refine anyK_done (by kernel_rfl) ?_ 0
  intro V4 hV4
  have HL14 := hide (HL13.out.ext hV4)
  have X14 : Hid (Ext w V4) := hide (HE.out.trans (Below.trans XV3.out (Below.trans Yd8.out (hV4.mono (Nat.le_trans (Below.size XV3.out) (Below.size Yd8.out))))))
  go_wp2
  go_ret
  exact ⟨_, L13, rfl, HL14.out.low (Nat.le_of_lt HwV.out), by rw [HC13.out, HR.out, List.map_append, HCb.out, HC11.out, HC10.out]; simp, X14.out⟩
end

end Go.Proofs.YtgdjaapjdmancaaGreatDoor
