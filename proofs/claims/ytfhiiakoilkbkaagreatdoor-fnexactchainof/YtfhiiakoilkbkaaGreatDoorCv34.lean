/- Walks: the program copies a certificate's extensions. Extensions that came in, opened. A list of bytes that came in as a field, opened. Keys: a key that came in, opened (written by mkkey.py). A certificate that came in, opened. -/
import Derived.Deep.CutRange
import Derived.Test.YtfhiiakoilkbkaaGreatDoorCv33
namespace Go.Proofs.YtfhiiakoilkbkaaGreatDoor
set_option linter.unusedVariables false
set_option linter.unusedSimpArgs false
section
open Go.RowKit
theorem Blk.ofH {w w' : World} {C : Nat} {vs : List Value} (h : Blk w C vs) (e : w'.heap[C]? = w.heap[C]?) : Blk w' C vs := fun i v hi => ⟨(World.cell?_of_block (a := ⟨C, i, none⟩) e).trans (h i v hi).1, (World.frozen?_of_block (a := ⟨C, i, none⟩) e).trans (h i v hi).2⟩
def XtT (x : Ex) (m : ExPl) : Nat → Nat → Prop
 | 0 => One x.nh m.h.b
 | 1 => NsT m.n m.ni x.nn x.ln
 | 2 => One x.na m.a.b
 | 3 => One x.nd m.d.b
 | 4 => One x.np m.p.b
 | _ => fun _ => False
structure ExO (B T : Nat) (w : World) (x : Ex) (m : ExPl) : Prop where
 h : SSeg w m.h.ad m.h.b m.h.off x.nh x.fh ∧ SAny w m.h.ad m.h.b m.h.off x.nh
 n : NOw w m.n m.ni x.nn x.ln x.fn
 a : SSeg w m.a.ad m.a.b m.a.off x.na x.fa ∧ SAny w m.a.ad m.a.b m.a.off x.na
 d : SSeg w m.d.ad m.d.b m.d.off x.nd x.fd ∧ SAny w m.d.ad m.d.b m.d.off x.nd
 p : Own w m.p.ad m.p.b m.p.off x.np x.fp
 sep : ∀ r r', r < 5 → r' < 5 → r ≠ r' → ∀ b, XtT x m r b → ¬ XtT x m r' b
 iv : ∀ r, r < 5 → ∀ b, XtT x m r b → B ≤ b ∧ b < T
theorem xt_sep {x : Ex} {m : ExPl} {B T : Nat} (lo hi : Nat → Nat) (h : ∀ r, r < 5 → ∀ b, XtT x m r b → lo r ≤ b ∧ b < hi r) (ap : ∀ r r', r < 5 → r' < 5 → r ≠ r' → hi r ≤ lo r' ∨ hi r' ≤ lo r) (hB : ∀ r, r < 5 → B ≤ lo r) (hT : ∀ r, r < 5 → hi r ≤ T) :
  (∀ r r', r < 5 → r' < 5 → r ≠ r' → ∀ b, XtT x m r b → ¬ XtT x m r' b) ∧ ∀ r, r < 5 → ∀ b, XtT x m r b → B ≤ b ∧ b < T :=
 ⟨fun r r' h1 h2 hne b k1 k2 => by
  have e1 := h r h1 b k1; have e2 := h r' h2 b k2
  rcases ap r r' h1 h2 hne with e | e <;> omega, fun r hr b k => by have := h r hr b k; have := hB r hr; have := hT r hr; omega⟩
def CpEx (W w' : World) (x : Ex) (m : ExPl) : Prop := ∀ w'', Kp W.heap.size w' w'' → ExO W.heap.size w'.heap.size w'' x m
def zX : List Value := [.bool false, .int .i64 0, .int .i64 0, .slice none 0 0, .slice none 0 0, .slice none 0 0, .slice none 0 0, .slice none 0 0]
set_option maxHeartbeats 12800000 in
set_option maxRecDepth 100000 in
theorem copiedExts_any (x : Ex) (m : ExPl) (w : World) (hI : ExIn w x m) (hS : ExSm x 1048576) :
  Calls Tryz.prog 68 #[.agg (exL x m).toArray] w fun e w' => ∃ q : ExPl, e = .returned (.agg (exL x q).toArray) ∧ CpEx w w' x q ∧ Ext w w' := by
 obtain ⟨V, hV⟩ : ∃ V, (w.alloc (.cells (exL x m).toArray 52)).alloc (.cells #[.bool false, .int .i64 0, .int .i64 0, .slice none 0 0, .slice none 0 0, .slice none 0 0, .slice none 0 0, .slice none 0 0] 52) = V := ⟨_, rfl⟩
 obtain ⟨B0, B1, hE, hsz⟩ := box2 w (exL x m) zX 52 52 (w1 := V) (by rw [← hV]; exact Ext.refl _)
 have HB := hide B0
 have HR := hide B1
 have HE := hide hE
 have HV := hide hsz
 have HI := hide (hI.ext hE)
 have HS := hide hS
 have HI0 := hide hI
 have d3 := fun p : ReC (fun _ => False) V => cell_reC (B0 3 _ rfl).1 (fun h => h) p
 have d5 := fun p : ReC (fun _ => False) V => cell_reC (B0 5 _ rfl).1 (fun h => h) p
 have d6 := fun p : ReC (fun _ => False) V => cell_reC (B0 6 _ rfl).1 (fun h => h) p
 have HC3 : Hid (∀ W, Ext V W → Calls Tryz.prog 65 #[.slice m.h.ad x.nh m.h.cap] W fun e w' => ∃ q : Plc, e = .returned (.slice q.ad x.nh q.cap) ∧ CpSs W w' x.nh x.fh q ∧ Ext W w') := hide (fun W h => cloneS_any m.h x.nh x.fh W (HI.out.h.of_all h) (by have := hS.h; omega))
 have HC5 : Hid (∀ W, Ext V W → Calls Tryz.prog 65 #[.slice m.a.ad x.na m.a.cap] W fun e w' => ∃ q : Plc, e = .returned (.slice q.ad x.na q.cap) ∧ CpSs W w' x.na x.fa q ∧ Ext W w') := hide (fun W h => cloneS_any m.a x.na x.fa W (HI.out.a.of_all h) (by have := hS.a; omega))
 have HC6 : Hid (∀ W, Ext V W → Calls Tryz.prog 65 #[.slice m.d.ad x.nd m.d.cap] W fun e w' => ∃ q : Plc, e = .returned (.slice q.ad x.nd q.cap) ∧ CpSs W w' x.nd x.fd q ∧ Ext W w') := hide (fun W h => cloneS_any m.d x.nd x.fd W (HI.out.d.of_all h) (by have := hS.d; omega))
 clear B0 B1 hE hsz hI hS
 go_enter Tryz.func68, Tryz.ntmps68
 go_wp2_with fail
 refine anyK_begin (fun q => q = w.heap.size) 15 rfl (by kernel_rfl) ?_
 refine anyK_phase (X0 := fun _ => False) 10 5 4 rfl rfl (by decide) (by kernel_rfl) (fun _ h => h.elim) (Grw.refl _ _) ?_
 simp only [List.take_succ_cons, List.take_zero]
 refine anyK_take 0 2 8 rfl (by decide) (by kernel_rfl) (fun _ _ d _ _ h => by cases d <;> exact h) ?_
 repeat (refine headC_step (fun K hK => ?_); go_simp; refine hK _ ?_; clear hK K)
 refine headC_nil ?_
 refine anyK_take 3 2 6 rfl (by decide) (by kernel_rfl) (fun _ _ d _ _ h => by cases d <;> exact h) ?_
 repeat (refine headC_step (fun K hK => ?_); go_simp; refine hK _ ?_; clear hK K)
 refine headC_nil ?_
 refine anyK_take 6 2 4 rfl (by decide) (by kernel_rfl) (fun _ _ d _ _ h => by cases d <;> exact h) ?_
 repeat (refine headC_step (fun K hK => ?_); go_simp; refine hK _ ?_; clear hK K)
 refine headC_nil ?_
 clear d3 d5 d6
 refine anyK_one 2 (by kernel_rfl) ?_
 refine stepK_run rfl ?_
 intro wa0 ha K2 hK2
 go_simp
 refine (HC3.out wa0 (ha)).mono ?_
 rintro e wb0 ⟨q3, rfl, c3, hb⟩
 have Hc3 := hide c3
 have Hs0 := hide (Below.size ha)
 have Ht0 := hide hb
 have HE0 := hide (ha.trans hb)
 have Hx0 := hide ha
 try go_simp
 refine hK2 _ _ (Grw.of_ext HE0.out) ?_
 clear hK2 K2 ha hb c3
 refine anyK_take 9 1 2 rfl (by decide) (by kernel_rfl) (fun _ _ d _ _ h => by cases d <;> exact h) ?_
 repeat (refine headC_step (fun K hK => ?_); go_simp; refine hK _ ?_; clear hK K)
 refine headC_nil ?_
 refine anyK_one 5 (by kernel_rfl) ?_
 refine stepK_run rfl ?_
 intro wa1 ha K2 hK2
 go_simp
 refine (HC5.out wa1 ((HE0.out.trans ha))).mono ?_
 rintro e wb1 ⟨q5, rfl, c5, hb⟩
 have Hc5 := hide c5
 have Hs1 := hide (Below.size ha)
 have Ht1 := hide hb
 have HE1 := hide (HE0.out.trans (ha.trans hb))
 have Hx1 := hide ha
 try go_simp
 refine hK2 _ _ (Grw.of_ext HE1.out) ?_
 clear hK2 K2 ha hb c5
 refine anyK_one 8 (by kernel_rfl) ?_
 refine stepK_run rfl ?_
 intro wa2 ha K2 hK2
 go_simp
 refine (HC6.out wa2 ((HE1.out.trans ha))).mono ?_
 rintro e wb2 ⟨q6, rfl, c6, hb⟩
 have Hc6 := hide c6
 have Hs2 := hide (Below.size ha)
 have Ht2 := hide hb
 have HE2 := hide (HE1.out.trans (ha.trans hb))
 have Hx2 := hide ha
 try go_simp
 refine hK2 _ _ (Grw.of_ext HE2.out) ?_
 clear hK2 K2 ha hb c6
 refine anyK_done (by kernel_rfl) ?_ 0
 intro w4 h4
 have HE4 := hide (HE2.out.trans h4)
 have HL := hide (show w.heap.size < V.heap.size by have := HV.out; omega)
 have HK0 := hide (show Kp V.heap.size wb2 w4 from Kp.ext h4)
 have HW0 := hide (show Ext w w4 from HE.out.trans HE4.out)
 have HB0 := hide (HB.out.ext HE4.out HL.out)
 have HR0 := hide (HR.out.ext HE4.out (by have := HV.out; omega))
 have HG0 := hide (show Grw (fun q => q = w.heap.size) V w4 from Grw.of_ext HE4.out)
 have HZ0 := hide (Below.size HE4.out)
 clear h4 HB HR
 unfold thenK
 dsimp only
 refine anyK_one 10 (by kernel_rfl) ?_
 refine stepK_run rfl ?_
 intro ws0 h5 K2 hK2
 have hB5 := HB0.out.ext h5 (Nat.lt_of_lt_of_le HL.out HZ0.out)
 have u := (hB5 3 _ rfl).1
 have y := (hB5 3 _ rfl).2
 have HB1 := hide (hB5.set1 3 (.slice q3.ad x.nh q3.cap) (by simp [exL]))
 have HR1 : Hid (Blk (ws0.setCell ⟨w.heap.size, 3, none⟩ (.slice q3.ad x.nh q3.cap)) (w.heap.size + 1) zX) := hide (Blk.ofH (HR0.out.ext h5 (by have := HV.out; have := HZ0.out; omega)) (Below.heap_setCell _ _ _ _ (show w.heap.size + 1 ≠ w.heap.size by omega)))
 have HK1 : Hid (Kp V.heap.size wb2 (ws0.setCell ⟨w.heap.size, 3, none⟩ (.slice q3.ad x.nh q3.cap))) := hide ((HK0.out.trans (Kp.ext h5)).trans (Kp.set HL.out 3 (.slice q3.ad x.nh q3.cap) ws0))
 have HW1 : Hid (Ext w (ws0.setCell ⟨w.heap.size, 3, none⟩ (.slice q3.ad x.nh q3.cap))) := hide (Below.setCell (HW0.out.trans h5) (Nat.le_refl _) _)
 have HG1 : Hid (Grw (fun q => q = w.heap.size) V (ws0.setCell ⟨w.heap.size, 3, none⟩ (.slice q3.ad x.nh q3.cap))) := hide ((HG0.out.trans (Grw.of_ext h5)).trans (Grw.of_touch ((Touch.refl w.heap.size ws0).set 3 (.slice q3.ad x.nh q3.cap)) rfl))
 have HZ1 : Hid (V.heap.size ≤ (ws0.setCell ⟨w.heap.size, 3, none⟩ (.slice q3.ad x.nh q3.cap)).heap.size) := hide (by simp [World.setCell]; exact Nat.le_trans HZ0.out (Below.size h5))
 clear hB5 h5
 go_simp
 obtain ⟨wt0, hw⟩ : ∃ W, ws0.setCell ⟨w.heap.size, 3, none⟩ (.slice q3.ad x.nh q3.cap) = W := ⟨_, rfl⟩
 rw [hw] at HB1 HR1 HK1 HW1 HG1 HZ1
 simp only [hw]
 refine hK2 _ _ HG1.out ?_
 clear hK2 K2 u y hw HB0 HR0 HK0 HW0 HG0 HZ0
 refine anyK_take 11 1 3 rfl (by decide) (by kernel_rfl) (fun _ _ d _ _ h => by cases d <;> exact h) ?_
 repeat (refine headC_step (fun K hK => ?_); go_simp; refine hK _ ?_; clear hK K)
 refine headC_nil ?_
 refine anyK_one 12 (by kernel_rfl) ?_
 refine stepK_run rfl ?_
 intro ws1 h5 K2 hK2
 have hB5 := HB1.out.ext h5 (Nat.lt_of_lt_of_le HL.out HZ1.out)
 have u := (hB5 5 _ rfl).1
 have y := (hB5 5 _ rfl).2
 have HB2 := hide (hB5.set1 5 (.slice q5.ad x.na q5.cap) (by simp [exL]))
 have HR2 : Hid (Blk (ws1.setCell ⟨w.heap.size, 5, none⟩ (.slice q5.ad x.na q5.cap)) (w.heap.size + 1) zX) := hide (Blk.ofH (HR1.out.ext h5 (by have := HV.out; have := HZ1.out; omega)) (Below.heap_setCell _ _ _ _ (show w.heap.size + 1 ≠ w.heap.size by omega)))
 have HK2 : Hid (Kp V.heap.size wb2 (ws1.setCell ⟨w.heap.size, 5, none⟩ (.slice q5.ad x.na q5.cap))) := hide ((HK1.out.trans (Kp.ext h5)).trans (Kp.set HL.out 5 (.slice q5.ad x.na q5.cap) ws1))
 have HW2 : Hid (Ext w (ws1.setCell ⟨w.heap.size, 5, none⟩ (.slice q5.ad x.na q5.cap))) := hide (Below.setCell (HW1.out.trans h5) (Nat.le_refl _) _)
 have HG2 : Hid (Grw (fun q => q = w.heap.size) V (ws1.setCell ⟨w.heap.size, 5, none⟩ (.slice q5.ad x.na q5.cap))) := hide ((HG1.out.trans (Grw.of_ext h5)).trans (Grw.of_touch ((Touch.refl w.heap.size ws1).set 5 (.slice q5.ad x.na q5.cap)) rfl))
 have HZ2 : Hid (V.heap.size ≤ (ws1.setCell ⟨w.heap.size, 5, none⟩ (.slice q5.ad x.na q5.cap)).heap.size) := hide (by simp [World.setCell]; exact Nat.le_trans HZ1.out (Below.size h5))
 clear hB5 h5
 go_simp
 obtain ⟨wt1, hw⟩ : ∃ W, ws1.setCell ⟨w.heap.size, 5, none⟩ (.slice q5.ad x.na q5.cap) = W := ⟨_, rfl⟩
 rw [hw] at HB2 HR2 HK2 HW2 HG2 HZ2
 simp only [hw]
 refine hK2 _ _ HG2.out ?_
 clear hK2 K2 u y hw HB1 HR1 HK1 HW1 HG1 HZ1
 refine anyK_take 13 1 1 rfl (by decide) (by kernel_rfl) (fun _ _ d _ _ h => by cases d <;> exact h) ?_
 repeat (refine headC_step (fun K hK => ?_); go_simp; refine hK _ ?_; clear hK K)
 refine headC_nil ?_
 refine anyK_one 14 (by kernel_rfl) ?_
 refine stepK_run rfl ?_
 intro ws2 h5 K2 hK2
 have hB5 := HB2.out.ext h5 (Nat.lt_of_lt_of_le HL.out HZ2.out)
 have u := (hB5 6 _ rfl).1
 have y := (hB5 6 _ rfl).2
 have HB3 := hide (hB5.set1 6 (.slice q6.ad x.nd q6.cap) (by simp [exL]))
 have HR3 : Hid (Blk (ws2.setCell ⟨w.heap.size, 6, none⟩ (.slice q6.ad x.nd q6.cap)) (w.heap.size + 1) zX) := hide (Blk.ofH (HR2.out.ext h5 (by have := HV.out; have := HZ2.out; omega)) (Below.heap_setCell _ _ _ _ (show w.heap.size + 1 ≠ w.heap.size by omega)))
 have HK3 : Hid (Kp V.heap.size wb2 (ws2.setCell ⟨w.heap.size, 6, none⟩ (.slice q6.ad x.nd q6.cap))) := hide ((HK2.out.trans (Kp.ext h5)).trans (Kp.set HL.out 6 (.slice q6.ad x.nd q6.cap) ws2))
 have HW3 : Hid (Ext w (ws2.setCell ⟨w.heap.size, 6, none⟩ (.slice q6.ad x.nd q6.cap))) := hide (Below.setCell (HW2.out.trans h5) (Nat.le_refl _) _)
 have HG3 : Hid (Grw (fun q => q = w.heap.size) V (ws2.setCell ⟨w.heap.size, 6, none⟩ (.slice q6.ad x.nd q6.cap))) := hide ((HG2.out.trans (Grw.of_ext h5)).trans (Grw.of_touch ((Touch.refl w.heap.size ws2).set 6 (.slice q6.ad x.nd q6.cap)) rfl))
 have HZ3 : Hid (V.heap.size ≤ (ws2.setCell ⟨w.heap.size, 6, none⟩ (.slice q6.ad x.nd q6.cap)).heap.size) := hide (by simp [World.setCell]; exact Nat.le_trans HZ2.out (Below.size h5))
 clear hB5 h5
 go_simp
 obtain ⟨wt2, hw⟩ : ∃ W, ws2.setCell ⟨w.heap.size, 6, none⟩ (.slice q6.ad x.nd q6.cap) = W := ⟨_, rfl⟩
 rw [hw] at HB3 HR3 HK3 HW3 HG3 HZ3
 simp only [hw]
 refine hK2 _ _ HG3.out ?_
 clear hK2 K2 u y hw HB2 HR2 HK2 HW2 HG2 HZ2
 refine anyK_done (by kernel_rfl) ?_ 0
 intro w5 h5
 have HK4 := hide (HK3.out.trans (Kp.ext h5))
 have HW4 := hide (HW3.out.trans h5)
 have HB4 := hide (HB3.out.ext h5 (Nat.lt_of_lt_of_le HL.out HZ3.out))
 have HR4 := hide (HR3.out.ext h5 (by have := HV.out; have := HZ3.out; omega))
 have HZ4 := hide (Nat.le_trans HZ3.out (Below.size h5))
 have Hy5 := hide HK4.out.1
 clear h5 HK3 HW3 HB3 HR3 HZ3 HG3
 have HN := hide (mappedNets_any m.n m.ni x.nn x.ln x.fn w5 (HI0.out.n.of_all HW4.out) HS.out.n HS.out.ns)
 have c4 := (HB4.out 4 _ rfl).1
 go_wp2_with fail
 refine HN.out.mono ?_
 rintro e w6 ⟨qn, rfl, hcn, hE6⟩
 have Hcn := hide hcn
 have hB6 := HB4.out.ext hE6 (Nat.lt_of_lt_of_le HL.out HZ4.out)
 have u := (hB6 4 _ rfl).1
 have y := (hB6 4 _ rfl).2
 have HB5 := hide (hB6.set1 4 (.slice qn.1.ad x.nn qn.1.cap) (by simp [exL]))
 have HR5 : Hid (Blk (w6.setCell ⟨w.heap.size, 4, none⟩ (.slice qn.1.ad x.nn qn.1.cap)) (w.heap.size + 1) zX) := hide (Blk.ofH (HR4.out.ext hE6 (by have := HV.out; have := HZ4.out; omega)) (Below.heap_setCell _ _ _ _ (show w.heap.size + 1 ≠ w.heap.size by omega)))
 have HW5 : Hid (Ext w (w6.setCell ⟨w.heap.size, 4, none⟩ (.slice qn.1.ad x.nn qn.1.cap))) := hide (Below.setCell (HW4.out.trans hE6) (Nat.le_refl _) _)
 have HZ5 : Hid (V.heap.size ≤ (w6.setCell ⟨w.heap.size, 4, none⟩ (.slice qn.1.ad x.nn qn.1.cap)).heap.size ∧ w6.heap.size ≤ (w6.setCell ⟨w.heap.size, 4, none⟩ (.slice qn.1.ad x.nn qn.1.cap)).heap.size) := hide (by simp [World.setCell]; exact Nat.le_trans HZ4.out (Below.size hE6))
 have HK5 : Hid (Kp V.heap.size wb2 (w6.setCell ⟨w.heap.size, 4, none⟩ (.slice qn.1.ad x.nn qn.1.cap))) := hide ((HK4.out.trans (Kp.ext hE6)).trans (Kp.set HL.out 4 _ w6))
 have HM5 : Hid (Kp V.heap.size w6 (w6.setCell ⟨w.heap.size, 4, none⟩ (.slice qn.1.ad x.nn qn.1.cap))) := hide (Kp.set HL.out 4 _ w6)
 have Hz6 := hide (Below.size hE6)
 go_upto_region 3 with fail
 obtain ⟨w7, hw⟩ : ∃ W, w6.setCell ⟨w.heap.size, 4, none⟩ (.slice qn.1.ad x.nn qn.1.cap) = W := ⟨_, rfl⟩
 rw [hw] at HB5 HR5 HW5 HZ5 HK5 HM5 ⊢
 clear hB6 u y hw hcn hE6 c4 HB4 HR4 HW4 HK4 HN
 have HP := hide (cloneI_any m.p x.np x.fp w7 (HI0.out.p.of_all HW5.out) (by have := HS.out.p; omega))
 have c7 := (HB5.out 7 _ rfl).1
 go_wp2_with fail
 refine HP.out.mono ?_
 rintro e w8 ⟨q7, rfl, hcp, hE8⟩
 have Hcp := hide hcp
 have hB8 := HB5.out.ext hE8 (Nat.lt_of_lt_of_le HL.out HZ5.out.1)
 have u := (hB8 7 _ rfl).1
 have y := (hB8 7 _ rfl).2
 have HB6 := hide (hB8.set1 7 (.slice q7.ad x.np q7.cap) (by simp [exL]))
 have HR6 : Hid (Blk (w8.setCell ⟨w.heap.size, 7, none⟩ (.slice q7.ad x.np q7.cap)) (w.heap.size + 1) zX) := hide (Blk.ofH (HR5.out.ext hE8 (by have := HV.out; have := HZ5.out.1; omega)) (Below.heap_setCell _ _ _ _ (show w.heap.size + 1 ≠ w.heap.size by omega)))
 have HW6 : Hid (Ext w (w8.setCell ⟨w.heap.size, 7, none⟩ (.slice q7.ad x.np q7.cap))) := hide (Below.setCell (HW5.out.trans hE8) (Nat.le_refl _) _)
 have HZ6 : Hid (V.heap.size ≤ (w8.setCell ⟨w.heap.size, 7, none⟩ (.slice q7.ad x.np q7.cap)).heap.size ∧ w8.heap.size ≤ (w8.setCell ⟨w.heap.size, 7, none⟩ (.slice q7.ad x.np q7.cap)).heap.size) := hide (by simp [World.setCell]; exact Nat.le_trans HZ5.out.1 (Below.size hE8))
 have HK6 : Hid (Kp V.heap.size wb2 (w8.setCell ⟨w.heap.size, 7, none⟩ (.slice q7.ad x.np q7.cap))) := hide ((HK5.out.trans (Kp.ext hE8)).trans (Kp.set HL.out 7 _ w8))
 have HM6 : Hid (Kp V.heap.size w6 (w8.setCell ⟨w.heap.size, 7, none⟩ (.slice q7.ad x.np q7.cap))) := hide ((HM5.out.trans (Kp.ext hE8)).trans (Kp.set HL.out 7 _ w8))
 have HP6 : Hid (Kp V.heap.size w8 (w8.setCell ⟨w.heap.size, 7, none⟩ (.slice q7.ad x.np q7.cap))) := hide (Kp.set HL.out 7 _ w8)
 have Hz8 := hide (Below.size hE8)
 go_upto_region 4 with fail
 obtain ⟨w9, hw⟩ : ∃ W, w8.setCell ⟨w.heap.size, 7, none⟩ (.slice q7.ad x.np q7.cap) = W := ⟨_, rfl⟩
 rw [hw] at HB6 HR6 HW6 HZ6 HK6 HM6 HP6 ⊢
 clear hB8 u y hw hcp hE8 c7 HB5 HR5 HW5 HK5 HM5 HP
 have hB : Blk w9 w.heap.size (exL x ⟨q3, qn.1, qn.2, q5, q6, q7⟩) := HB6.out
 have hR := HR6.out
 have hld := run_ld (P := Tryz.prog) 52 (exL x ⟨q3, qn.1, qn.2, q5, q6, q7⟩) w9 (by kernel_rfl) (by kernel_rfl) w.heap.size 0 (Blk.ld hB 0 _ (fun j v h => by rw [Nat.zero_add]; exact h))
 have hst := run_st (P := Tryz.prog) 52 (exL x ⟨q3, qn.1, qn.2, q5, q6, q7⟩) w9 (by kernel_rfl) (by simp [exL, Value.oneCell']) (w.heap.size + 1) 0 (Blk.st hR 0 _ (by simp [exL, zX]))
 have HF := hide (Blk.putAll1 hR (vs := exL x ⟨q3, qn.1, qn.2, q5, q6, q7⟩) rfl)
 have HEf := hide (below_putL (Nat.le_succ _) (exL x ⟨q3, qn.1, qn.2, q5, q6, q7⟩) 0 _ HW6.out)
 have HL1 := hide (show w.heap.size + 1 < V.heap.size by have := HV.out; omega)
 clear hB hR
 go_wp2_with (first | (refine wpList_ld (by first | rfl | simp [Region.wanted, yielded]) 52 _ rfl _ rfl _ hld ?_) | (refine wpList_st (by first | rfl | simp [Region.wanted, yielded]) 52 _ _ rfl _ rfl _ rfl _ hst ?_))
 refine bodyPost_ret (v := .agg (exL x ⟨q3, qn.1, qn.2, q5, q6, q7⟩).toArray) (results_at Tryz.results68 rfl (run_ld (P := Tryz.prog) 52 (exL x ⟨q3, qn.1, qn.2, q5, q6, q7⟩) _ (by kernel_rfl) (by kernel_rfl) (w.heap.size + 1) 0 (Blk.ld HF.out 0 _ (fun j v h => by rw [Nat.zero_add]; exact h)))) rfl ?_
 refine ⟨⟨q3, qn.1, qn.2, q5, q6, q7⟩, rfl, fun w'' k => ?_, HEf.out⟩
 have kf : Kp V.heap.size w9 w'' := (Kp.putL HL1.out _ 0 w9).trans (k.mono (by have := HV.out; omega))
 have ea : Ext wb0 wb1 := Hx1.out.trans Ht1.out
 have eb : Ext wb1 wb2 := Hx2.out.trans Ht2.out
 have k2 : Kp V.heap.size wb2 w'' := HK6.out.trans kf
 have n0 := Hs0.out
 have n1 := Below.size Ht0.out
 have n2 := Below.size Hx1.out
 have n3 := Below.size Ht1.out
 have n4 := Below.size Hx2.out
 have n5 := Below.size Ht2.out
 have n6 := Hy5.out
 have n7 := Hz6.out
 have n8 := HZ5.out.2
 have n9 := Hz8.out
 have n10 := HZ6.out.2
 have n11 := HV.out
 obtain ⟨h3, i3⟩ := Hc3.out w'' (((Kp.ext (ea.trans eb)).trans k2).mono n0)
 obtain ⟨h5, i5⟩ := Hc5.out w'' (((Kp.ext eb).trans k2).mono (by omega))
 obtain ⟨h6, i6⟩ := Hc6.out w'' (k2.mono (by omega))
 obtain ⟨hn, im⟩ := Hcn.out w'' ((HM6.out.trans kf).mono (by omega))
 obtain ⟨hp, ip⟩ := Hcp.out w'' ((HP6.out.trans kf).mono (by omega))
 have hs := xt_sep (x := x) (m := ⟨q3, qn.1, qn.2, q5, q6, q7⟩) (B := w.heap.size) (T := w9.heap.size) (fun r => [wa0.heap.size, w5.heap.size, wa1.heap.size, wa2.heap.size, w7.heap.size].getD r 0) (fun r => [wb0.heap.size, w6.heap.size, wb1.heap.size, wb2.heap.size, w8.heap.size].getD r 0)
  (fun r hr b hb => by
   match r, hr, hb with
   | 0, _, ⟨h0, e⟩ => rw [e]; exact i3 h0
   | 1, _, hb => exact im b hb
   | 2, _, ⟨h0, e⟩ => rw [e]; exact i5 h0
   | 3, _, ⟨h0, e⟩ => rw [e]; exact i6 h0
   | 4, _, ⟨h0, e⟩ => rw [e]; exact ip h0)
  (fun r r' hr hr' hne => by
   have e1 : r = 0 ∨ r = 1 ∨ r = 2 ∨ r = 3 ∨ r = 4 := by omega
   have e2 : r' = 0 ∨ r' = 1 ∨ r' = 2 ∨ r' = 3 ∨ r' = 4 := by omega
   rcases e1 with rfl | rfl | rfl | rfl | rfl <;> rcases e2 with rfl | rfl | rfl | rfl | rfl <;> first | exact absurd rfl hne | (simp; omega))
  (fun r hr => by
   have e1 : r = 0 ∨ r = 1 ∨ r = 2 ∨ r = 3 ∨ r = 4 := by omega
   rcases e1 with rfl | rfl | rfl | rfl | rfl <;> (simp; omega))
  (fun r hr => by
   have e1 : r = 0 ∨ r = 1 ∨ r = 2 ∨ r = 3 ∨ r = 4 := by omega
   rcases e1 with rfl | rfl | rfl | rfl | rfl <;> (simp; omega))
 rw [size_putL]
 exact ⟨h3, hn, h5, h6, hp, hs.1, hs.2⟩
end
section
set_option maxRecDepth 100000
open Go.RowKit
open Go.ChangeShapes Go.WideShapes Go.ChangeAt
theorem ke : Tryz.prog.cellsOf 36 = 8 ∧ Tryz.prog.cellsOf 3 = 1 ∧ Tryz.prog.cellsOf 4 = 1 ∧ Tryz.prog.cellsOf 23 = 1 ∧ Tryz.prog.cellsOf 22 = 1 ∧ Tryz.prog.cellsOf 34 = 1 := by
 refine ⟨?_, ?_, ?_, ?_, ?_, ?_⟩ <;> kernel_rfl
theorem listE8 {α : Type} {l : List α} (h : l.length = 8) : ∃ a b c d e f g i, l = [a, b, c, d, e, f, g, i] := by
 match l, h with
 | [a, b, c, d, e, f, g, i], _ => exact ⟨a, b, c, d, e, f, g, i, rfl⟩
section
variable {H : Type} {enc : TypeId × Value → H} {w : World} {base : Nat} {held : Bool}
theorem open_intsC {fuel : Nat} {cs : List Value} {x : DataW H × List MemPlace} (h : DataW.trod enc Tryz.prog w base (fun _ => true) held fuel 23 cs = some x) :
  ∃ (p : Plc) (n : Nat) (f : Nat → Int), cs = [.slice p.ad n p.cap] ∧ Seg w p.ad p.b p.off n f ∧ n ≤ 9223372036854775807 := by
 rcases open_ints Tryz.underlying23 Tryz.underlying3 (by kernel_rfl) h with ⟨hcs, _⟩ | ⟨a, l, c, zs, hcs, _, hl, hm, hz, _, hcell, hwz⟩
 ·exact ⟨⟨none, 0, 0, 0⟩, 0, fun _ => 0, hcs, ⟨fun h => absurd h (Nat.lt_irrefl _), fun i hi => absurd hi (Nat.not_lt_zero _)⟩, Nat.zero_le _⟩
 ·simp at hz
  obtain ⟨b, off, spot⟩ := a
  have hmm : l ≤ 9223372036854775807 := by unfold maxLen at hm; omega
  by_cases h0 : l = 0
  ·subst h0
   exact ⟨⟨_, 0, 0, c⟩, 0, fun _ => 0, hcs, ⟨fun h => absurd h (Nat.lt_irrefl _), fun i hi => absurd hi (Nat.not_lt_zero _)⟩, Nat.zero_le _⟩
  ·have hspot : spot = none := by simpa [Addr.add] using World.cell?_spot (hcell 0 (by omega))
   subst hspot
   refine ⟨⟨some ⟨b, off, none⟩, b, off, c⟩, l, fun i => zs.getD i 0, hcs, ⟨fun _ => rfl, fun i hi => ?_⟩, hmm⟩
   have := hcell i (by omega)
   rwa [add_off] at this
theorem open_strsP {fuel : Nat} {cs : List Value} {x : DataW H × List MemPlace} (h : DataW.trod enc Tryz.prog w base (fun _ => true) held fuel 22 cs = some x) :
  ∃ (p : Plc) (n : Nat) (f : Nat → ByteArray), cs = [.slice p.ad n p.cap] ∧ StsIn w p.ad p.b p.off n f := by
 obtain ⟨a, b, off, n, cap, f, hcs, hI⟩ := open_strsC h
 exact ⟨⟨a, b, off, cap⟩, n, f, hcs, hI⟩
theorem open_nets {fuel : Nat} {cs : List Value} {x : DataW H × List MemPlace} (h : DataW.trod enc Tryz.prog w base (fun _ => true) held fuel 34 cs = some x) :
  ∃ (p : Plc) (q : Nat → Plc) (n : Nat) (ln : Nat → Nat) (f : Nat → Nat → Int), cs = [.slice p.ad n p.cap] ∧ NSeg w p q n ln f ∧ n ≤ 9223372036854775807 ∧ (∀ i, i < n → ln i ≤ 9223372036854775807) := by
 obtain ⟨-, -, -, k4, -, -⟩ := ke
 have emp : ∀ (a : Option Addr) (c : Nat), NSeg w ⟨a, 0, 0, c⟩ (fun _ => ⟨none, 0, 0, 0⟩) 0 (fun _ => 0) (fun _ _ => 0) := fun a c => ⟨fun h => absurd h (Nat.lt_irrefl _), fun i hi => absurd hi (Nat.not_lt_zero _), fun i hi => absurd hi (Nat.not_lt_zero _)⟩
 rcases DataW.trod_slice Tryz.underlying34 h with ⟨hcs, _⟩ | ⟨a, len, cap, elems, rest, n, _, hcs, _, hb, hl, hm, hlen, hel, _, _⟩
 ·exact ⟨⟨none, 0, 0, 0⟩, _, 0, _, _, hcs, emp none 0, Nat.zero_le _, fun i hi => absurd hi (Nat.not_lt_zero _)⟩
 ·by_cases h0 : len = 0
  ·subst h0
   exact ⟨⟨_, 0, 0, cap⟩, _, 0, _, _, hcs, emp _ cap, Nat.zero_le _, fun i hi => absurd hi (Nat.not_lt_zero _)⟩
  ·have each : ∀ i, i < len → ∃ r : Plc × Nat × (Nat → Int), w.cell? (a.add i) = some (.slice r.1.ad r.2.1 r.1.cap) ∧ Seg w r.1.ad r.1.b r.1.off r.2.1 r.2.2 ∧ r.2.1 ≤ 9223372036854775807 := by
    intro i hi
    have h1 := hel i hi
    rw [k4, List.getElem?_eq_getElem (by omega)] at h1
    obtain ⟨cs', h2, h3⟩ := Option.bind_eq_some_iff.1 h1
    obtain ⟨p, m, f, rfl, hS, hM⟩ := open_intsC h3
    obtain ⟨h4, h5, h6⟩ := World.cells?_some h2
    refine ⟨⟨p, m, f⟩, ?_, hS, hM⟩
    have := h6 0 (by omega)
    simpa [Addr.add] using this
   obtain ⟨b, off, spot⟩ := a
   have hspot : spot = none := by
    obtain ⟨x, h, _⟩ := each 0 (by omega)
    simpa [Addr.add] using World.cell?_spot h
   subst hspot
   have each' : ∀ i, i < len → ∃ r : Plc × Nat × (Nat → Int), w.cell? ⟨b, off + i, none⟩ = some (.slice r.1.ad r.2.1 r.1.cap) ∧ Seg w r.1.ad r.1.b r.1.off r.2.1 r.2.2 ∧ r.2.1 ≤ 9223372036854775807 := fun i hi => by
    have := each i hi
    simpa only [add_off] using this
   have hx : ∃ r : Nat → Plc × Nat × (Nat → Int), ∀ i, i < len → w.cell? ⟨b, off + i, none⟩ = some (.slice (r i).1.ad (r i).2.1 (r i).1.cap) ∧ Seg w (r i).1.ad (r i).1.b (r i).1.off (r i).2.1 (r i).2.2 ∧ (r i).2.1 ≤ 9223372036854775807 :=
    ⟨fun i => if h : i < len then Classical.choose (each' i h) else ⟨⟨none, 0, 0, 0⟩, 0, fun _ => 0⟩, fun i hi => by
     simp only [dif_pos hi]
     exact Classical.choose_spec (each' i hi)⟩
   obtain ⟨r, hr⟩ := hx
   exact ⟨⟨some ⟨b, off, none⟩, b, off, cap⟩, fun i => (r i).1, len, fun i => (r i).2.1, fun i => (r i).2.2, hcs, ⟨fun _ => rfl, fun i hi => (hr i hi).1, fun i hi => (hr i hi).2.1⟩, by unfold maxLen at hm; omega, fun i hi => (hr i hi).2.2⟩
structure ExM where
 x : Ex
 m : ExPl
structure ExtsIn (w : World) (X : ExM) : Prop where
 ok : ExIn w X.x X.m
 sm : ExSm X.x 9223372036854775807
set_option maxHeartbeats 1600000 in
theorem open_extsC {fuel : Nat} {cs : List Value} {y : DataW H × List MemPlace} (h : DataW.trod enc Tryz.prog w base (fun _ => true) held fuel 36 cs = some y) : ∃ X : ExM, cs = exL X.x X.m ∧ ExtsIn w X := by
 obtain ⟨k1, k2, k3, k4, k5, k6⟩ := ke
 obtain ⟨xs, n, _, hx, hcl, hlen, hel⟩ := DataW.trod_struct Tryz.underlying36 h
 rw [k1] at hcl
 obtain ⟨c0, c1, c2, c3, c4, c5, c6, c7, rfl⟩ := listE8 hcl
 obtain ⟨y0, y1, y2, y3, y4, y5, y6, y7, rfl⟩ := listE8 hlen
 have f0 := hel 0 _ rfl
 have f1 := hel 1 _ rfl
 have f2 := hel 2 _ rfl
 have f3 := hel 3 _ rfl
 have f4 := hel 4 _ rfl
 have f5 := hel 5 _ rfl
 have f6 := hel 6 _ rfl
 have f7 := hel 7 _ rfl
 simp [k2, k3, k4, k5, k6] at f0 f1 f2 f3 f4 f5 f6 f7
 obtain ⟨u0, g0, _⟩ := DataW.trod_bool Tryz.underlying4 f0
 obtain ⟨u1, g1, _, w1⟩ := DataW.trod_int Tryz.underlying3 f1
 obtain ⟨u2, g2, _, w2⟩ := DataW.trod_int Tryz.underlying3 f2
 obtain ⟨p3, n3, s3, g3, i3⟩ := open_strsP f3
 obtain ⟨p4, q4, n4, l4, s4, g4, i4, j4, e4⟩ := open_nets f4
 obtain ⟨p5, n5, s5, g5, i5⟩ := open_strsP f5
 obtain ⟨p6, n6, s6, g6, i6⟩ := open_strsP f6
 obtain ⟨p7, n7, s7, g7, i7, j7⟩ := open_intsC f7
 simp at g0 g1 g2 g3 g4 g5 g6 g7
 subst g0 g1 g2 g3 g4 g5 g6 g7
 exact ⟨⟨⟨u0, u1, u2, n3, s3, n4, l4, s4, n5, s5, n6, s6, n7, s7⟩, ⟨p3, p4, q4, p5, p6, p7⟩⟩, rfl, ⟨i3.seg, i4, i5.seg, i6.seg, i7⟩, ⟨i3.small, i3.each, j4, e4, i5.small, i5.each, i6.small, i6.each, j7⟩⟩
end
end
section
set_option maxRecDepth 100000
open Go.RowKit
open Go.ChangeShapes Go.WideShapes Go.ChangeAt
section
variable {H : Type} {enc : TypeId × Value → H} {w : World} {base : Nat} {held : Bool}
theorem open_bysC {fuel : Nat} {cs : List Value} {x : DataW H × List MemPlace} (h : DataW.trod enc Tryz.prog w base (fun _ => true) held fuel 37 cs = some x) :
  ∃ (p : Plc) (n : Nat) (f : Nat → Int), cs = [.slice p.ad n p.cap] ∧ BSeg w p.ad p.b p.off n f ∧ n ≤ 9223372036854775807 := by
 rcases open_ints Tryz.underlying37 Tryz.underlying5 (by kernel_rfl) h with ⟨hcs, _⟩ | ⟨a, l, c, zs, hcs, _, hl, hm, hz, _, hcell, hwz⟩
 ·exact ⟨⟨none, 0, 0, 0⟩, 0, fun _ => 0, hcs, ⟨fun h => absurd h (Nat.lt_irrefl _), fun i hi => absurd hi (Nat.not_lt_zero _)⟩, Nat.zero_le _⟩
 ·simp at hz
  obtain ⟨b, off, spot⟩ := a
  have hmm : l ≤ 9223372036854775807 := by unfold maxLen at hm; omega
  by_cases h0 : l = 0
  ·subst h0
   exact ⟨⟨_, 0, 0, c⟩, 0, fun _ => 0, hcs, ⟨fun h => absurd h (Nat.lt_irrefl _), fun i hi => absurd hi (Nat.not_lt_zero _)⟩, Nat.zero_le _⟩
  ·have hspot : spot = none := by simpa [Addr.add] using World.cell?_spot (hcell 0 (by omega))
   subst hspot
   refine ⟨⟨some ⟨b, off, none⟩, b, off, c⟩, l, fun i => zs.getD i 0, hcs, ⟨fun _ => rfl, fun i hi => ?_⟩, hmm⟩
   have := hcell i (by omega)
   rwa [add_off] at this
end
end
section
open Go.RowKit
open Go.ChangeShapes Go.WideShapes Go.ChangeAt
structure KyM where
 k : Ky
 ad : Option Addr
 b : Nat
 off : Nat
 cap : Nat
structure KeyIn (w : World) (m : KyM) : Prop where
 seg : Seg w m.ad m.b m.off m.k.n m.k.f
 small : m.k.n ≤ 9223372036854775807
 e0 : -9223372036854775808 ≤ m.k.e
 e1 : m.k.e ≤ 9223372036854775807
 p : m.k.cP ≤ 9223372036854775807
 c : m.k.cN ≤ 9223372036854775807
 d : m.k.dP ≤ 9223372036854775807
 l : m.k.dL ≤ 9223372036854775807
theorem listK {α : Type} {l : List α} (h : l.length = 19) : ∃ kd sl ee c0 c1 c2 c3 c4 c5 q0 q1 q2 e0 e1 e2 e3 e4 a0 a1, l = [kd, sl, ee, c0, c1, c2, c3, c4, c5, q0, q1, q2, e0, e1, e2, e3, e4, a0, a1] := by
 match l, h with
 | [kd, sl, ee, c0, c1, c2, c3, c4, c5, q0, q1, q2, e0, e1, e2, e3, e4, a0, a1], _ => exact ⟨kd, sl, ee, c0, c1, c2, c3, c4, c5, q0, q1, q2, e0, e1, e2, e3, e4, a0, a1, rfl⟩
theorem listN {α : Type} {l : List α} (h : l.length = 7) : ∃ y0 y1 y2 y3 y4 y5 y6, l = [y0, y1, y2, y3, y4, y5, y6] := by
 match l, h with
 | [y0, y1, y2, y3, y4, y5, y6], _ => exact ⟨y0, y1, y2, y3, y4, y5, y6, rfl⟩
theorem list6' {α : Type} {l : List α} (h : l.length = 6) : ∃ y0 y1 y2 y3 y4 y5, l = [y0, y1, y2, y3, y4, y5] := by
 match l, h with
 | [y0, y1, y2, y3, y4, y5], _ => exact ⟨y0, y1, y2, y3, y4, y5, rfl⟩
theorem list5' {α : Type} {l : List α} (h : l.length = 5) : ∃ y0 y1 y2 y3 y4, l = [y0, y1, y2, y3, y4] := by
 match l, h with
 | [y0, y1, y2, y3, y4], _ => exact ⟨y0, y1, y2, y3, y4, rfl⟩
theorem list3'' {α : Type} {l : List α} (h : l.length = 3) : ∃ y0 y1 y2, l = [y0, y1, y2] := by
 match l, h with
 | [y0, y1, y2], _ => exact ⟨y0, y1, y2, rfl⟩
theorem list2' {α : Type} {l : List α} (h : l.length = 2) : ∃ y0 y1, l = [y0, y1] := by
 match l, h with
 | [y0, y1], _ => exact ⟨y0, y1, rfl⟩
theorem kc : Tryz.prog.cellsOf 33 = 19 ∧ Tryz.prog.cellsOf 25 = 6 ∧ Tryz.prog.cellsOf 27 = 3 ∧ Tryz.prog.cellsOf 29 = 5 ∧ Tryz.prog.cellsOf 31 = 2 ∧ Tryz.prog.cellsOf 3 = 1 ∧ Tryz.prog.cellsOf 4 = 1 ∧ Tryz.prog.cellsOf 23 = 1 := by
 refine ⟨?_, ?_, ?_, ?_, ?_, ?_, ?_, ?_⟩ <;> kernel_rfl
section
variable {H : Type} {enc : TypeId × Value → H} {w : World} {base : Nat} {held : Bool}
set_option maxRecDepth 100000 in
theorem open_cv {fuel : Nat} {cs : List Value} {y : DataW H × List MemPlace} (h : DataW.trod enc Tryz.prog w base (fun _ => true) held fuel 25 cs = some y) : ∃ a b c d e f : Int, cs = [.int .i64 a, .int .i64 b, .int .i64 c, .int .i64 d, .int .i64 e, .int .i64 f] ∧ a ≤ 9223372036854775807 ∧ d ≤ 9223372036854775807 := by
 obtain ⟨k1, k2, k3, k4, k5, k6, k7, k8⟩ := kc
 obtain ⟨xs, n, _, hx, hcl, hlen, hel⟩ := DataW.trod_struct Tryz.underlying25 h
 rw [k2] at hcl
 obtain ⟨c0, c1, c2, c3, c4, c5, rfl⟩ := list6' hcl
 obtain ⟨y0, y1, y2, y3, y4, y5, rfl⟩ := list6' hlen
 have e0 := hel 0 _ rfl
 have e1 := hel 1 _ rfl
 have e2 := hel 2 _ rfl
 have e3 := hel 3 _ rfl
 have e4 := hel 4 _ rfl
 have e5 := hel 5 _ rfl
 simp [k6] at e0 e1 e2 e3 e4 e5
 obtain ⟨a0, q0, _, w0⟩ := DataW.trod_int Tryz.underlying3 e0
 obtain ⟨a1, q1, _, w1⟩ := DataW.trod_int Tryz.underlying3 e1
 obtain ⟨a2, q2, _, w2⟩ := DataW.trod_int Tryz.underlying3 e2
 obtain ⟨a3, q3, _, w3⟩ := DataW.trod_int Tryz.underlying3 e3
 obtain ⟨a4, q4, _, w4⟩ := DataW.trod_int Tryz.underlying3 e4
 obtain ⟨a5, q5, _, w5⟩ := DataW.trod_int Tryz.underlying3 e5
 simp at q0 q1 q2 q3 q4 q5
 subst q0 q1 q2 q3 q4 q5
 exact ⟨a0, a1, a2, a3, a4, a5, rfl, (bounds_i64 w0).2, (bounds_i64 w3).2⟩
set_option maxRecDepth 100000 in
theorem open_ed {fuel : Nat} {cs : List Value} {y : DataW H × List MemPlace} (h : DataW.trod enc Tryz.prog w base (fun _ => true) held fuel 29 cs = some y) : ∃ a b c d e : Int, cs = [.int .i64 a, .int .i64 b, .int .i64 c, .int .i64 d, .int .i64 e] ∧ a ≤ 9223372036854775807 ∧ c ≤ 9223372036854775807 := by
 obtain ⟨k1, k2, k3, k4, k5, k6, k7, k8⟩ := kc
 obtain ⟨xs, n, _, hx, hcl, hlen, hel⟩ := DataW.trod_struct Tryz.underlying29 h
 rw [k4] at hcl
 obtain ⟨c0, c1, c2, c3, c4, rfl⟩ := list5' hcl
 obtain ⟨y0, y1, y2, y3, y4, rfl⟩ := list5' hlen
 have e0 := hel 0 _ rfl
 have e1 := hel 1 _ rfl
 have e2 := hel 2 _ rfl
 have e3 := hel 3 _ rfl
 have e4 := hel 4 _ rfl
 simp [k6] at e0 e1 e2 e3 e4
 obtain ⟨a0, q0, _, w0⟩ := DataW.trod_int Tryz.underlying3 e0
 obtain ⟨a1, q1, _, w1⟩ := DataW.trod_int Tryz.underlying3 e1
 obtain ⟨a2, q2, _, w2⟩ := DataW.trod_int Tryz.underlying3 e2
 obtain ⟨a3, q3, _, w3⟩ := DataW.trod_int Tryz.underlying3 e3
 obtain ⟨a4, q4, _, w4⟩ := DataW.trod_int Tryz.underlying3 e4
 simp at q0 q1 q2 q3 q4
 subst q0 q1 q2 q3 q4
 exact ⟨a0, a1, a2, a3, a4, rfl, (bounds_i64 w0).2, (bounds_i64 w2).2⟩
set_option maxRecDepth 100000 in
theorem open_pt {fuel : Nat} {cs : List Value} {y : DataW H × List MemPlace} (h : DataW.trod enc Tryz.prog w base (fun _ => true) held fuel 27 cs = some y) : ∃ (a b : Int) (f : Bool), cs = [.int .i64 a, .int .i64 b, .bool f] := by
 obtain ⟨k1, k2, k3, k4, k5, k6, k7, k8⟩ := kc
 obtain ⟨xs, n, _, hx, hcl, hlen, hel⟩ := DataW.trod_struct Tryz.underlying27 h
 rw [k3] at hcl
 obtain ⟨c0, c1, c2, rfl⟩ := list3'' hcl
 obtain ⟨y0, y1, y2, rfl⟩ := list3'' hlen
 have e0 := hel 0 _ rfl
 have e1 := hel 1 _ rfl
 have e2 := hel 2 _ rfl
 simp [k6, k7] at e0 e1 e2
 obtain ⟨a0, q0, _, w0⟩ := DataW.trod_int Tryz.underlying3 e0
 obtain ⟨a1, q1, _, w1⟩ := DataW.trod_int Tryz.underlying3 e1
 obtain ⟨a2, q2, _⟩ := DataW.trod_bool Tryz.underlying4 e2
 simp at q0 q1 q2
 subst q0 q1 q2
 exact ⟨a0, a1, a2, rfl⟩
set_option maxRecDepth 100000 in
theorem open_pr {fuel : Nat} {cs : List Value} {y : DataW H × List MemPlace} (h : DataW.trod enc Tryz.prog w base (fun _ => true) held fuel 31 cs = some y) : ∃ a b : Int, cs = [.int .i64 a, .int .i64 b] := by
 obtain ⟨k1, k2, k3, k4, k5, k6, k7, k8⟩ := kc
 obtain ⟨xs, n, _, hx, hcl, hlen, hel⟩ := DataW.trod_struct Tryz.underlying31 h
 rw [k5] at hcl
 obtain ⟨c0, c1, rfl⟩ := list2' hcl
 obtain ⟨y0, y1, rfl⟩ := list2' hlen
 have e0 := hel 0 _ rfl
 have e1 := hel 1 _ rfl
 simp [k6] at e0 e1
 obtain ⟨a0, q0, _, w0⟩ := DataW.trod_int Tryz.underlying3 e0
 obtain ⟨a1, q1, _, w1⟩ := DataW.trod_int Tryz.underlying3 e1
 simp at q0 q1
 subst q0 q1
 exact ⟨a0, a1, rfl⟩
set_option maxRecDepth 100000 in
theorem open_ns {fuel : Nat} {cs : List Value} {x : DataW H × List MemPlace} (h : DataW.trod enc Tryz.prog w base (fun _ => true) held fuel 23 cs = some x) :
  ∃ (a : Option Addr) (b off n cap : Nat) (f : Nat → Int), cs = [.slice a n cap] ∧ Seg w a b off n f ∧ n ≤ 9223372036854775807 := by
 rcases open_ints Tryz.underlying23 Tryz.underlying3 (by kernel_rfl) h with ⟨hcs, _⟩ | ⟨a, l, c, zs, hcs, _, hl, hm, hz, _, hcell, hwz⟩
 ·exact ⟨none, 0, 0, 0, 0, fun _ => 0, hcs, ⟨fun h => absurd h (Nat.lt_irrefl _), fun i hi => absurd hi (Nat.not_lt_zero _)⟩, Nat.zero_le _⟩
 ·simp at hz
  obtain ⟨b, off, spot⟩ := a
  have hmm : l ≤ 9223372036854775807 := by unfold maxLen at hm; omega
  by_cases h0 : l = 0
  ·subst h0
   exact ⟨_, 0, 0, 0, c, fun _ => 0, hcs, ⟨fun h => absurd h (Nat.lt_irrefl _), fun i hi => absurd hi (Nat.not_lt_zero _)⟩, Nat.zero_le _⟩
  ·have hspot : spot = none := by simpa [Addr.add] using World.cell?_spot (hcell 0 (by omega))
   subst hspot
   refine ⟨some ⟨b, off, none⟩, b, off, l, c, fun i => zs.getD i 0, hcs, ⟨fun _ => rfl, fun i hi => ?_⟩, hmm⟩
   have := hcell i (by omega)
   have e : (⟨b, off, none⟩ : Addr).add i = ⟨b, off + i, none⟩ := by
    by_cases h0 : i = 0
    ·subst h0; simp [Addr.add]
    ·simp [Addr.add, h0]
   rwa [e] at this
set_option maxHeartbeats 1600000 in
set_option maxRecDepth 100000 in
theorem open_keyC {fuel : Nat} {cs : List Value} {y : DataW H × List MemPlace} (h : DataW.trod enc Tryz.prog w base (fun _ => true) held fuel 33 cs = some y) : ∃ m : KyM, cs = [.int .i64 m.k.kind, .slice m.ad m.k.n m.cap, .int .i64 m.k.e, .int .i64 m.k.cP, .int .i64 m.k.cA, .int .i64 m.k.cB, .int .i64 m.k.cN, .int .i64 m.k.cX, .int .i64 m.k.cY, .int .i64 m.k.q.x, .int .i64 m.k.q.y, .bool m.k.q.far, .int .i64 m.k.dP, .int .i64 m.k.dD, .int .i64 m.k.dL, .int .i64 m.k.dX, .int .i64 m.k.dY, .int .i64 m.k.a.x, .int .i64 m.k.a.y] ∧ KeyIn w m := by
 obtain ⟨k1, k2, k3, k4, k5, k6, k7, k8⟩ := kc
 obtain ⟨xs, n, _, hx, hcl, hlen, hel⟩ := DataW.trod_struct Tryz.underlying33 h
 rw [k1] at hcl
 obtain ⟨kd, sl, ee, c0, c1, c2, c3, c4, c5, q0, q1, q2, e0, e1, e2, e3, e4, a0, a1, rfl⟩ := listK hcl
 obtain ⟨y0, y1, y2, y3, y4, y5, y6, rfl⟩ := listN hlen
 have f0 := hel 0 _ rfl
 have f1 := hel 1 _ rfl
 have f2 := hel 2 _ rfl
 have f3 := hel 3 _ rfl
 have f4 := hel 4 _ rfl
 have f5 := hel 5 _ rfl
 have f6 := hel 6 _ rfl
 simp [k2, k3, k4, k5, k6, k8] at f0 f1 f2 f3 f4 f5 f6
 obtain ⟨u0, g0, _, w0⟩ := DataW.trod_int Tryz.underlying3 f0
 obtain ⟨a, b, off, ln, cap, f, g1, hS, hL⟩ := open_ns f1
 obtain ⟨u2, g2, _, w2⟩ := DataW.trod_int Tryz.underlying3 f2
 obtain ⟨p1, p2, p3, p4, p5, p6, g3, b1, b2⟩ := open_cv f3
 obtain ⟨r1, r2, r3, g4⟩ := open_pt f4
 obtain ⟨s1, s2, s3, s4, s5, g5, b3, b4⟩ := open_ed f5
 obtain ⟨t1, t2, g6⟩ := open_pr f6
 simp at g0 g1 g2 g3 g4 g5 g6
 obtain ⟨rfl, rfl, rfl, rfl, rfl, rfl⟩ := g3
 obtain ⟨rfl, rfl, rfl⟩ := g4
 obtain ⟨rfl, rfl, rfl, rfl, rfl⟩ := g5
 obtain ⟨rfl, rfl⟩ := g6
 subst g0 g1 g2
 have bb := bounds_i64 w2
 exact ⟨⟨⟨u0, ln, f, u2, p1, p2, p3, p4, p5, p6, ⟨r1, r2, r3⟩, s1, s2, s3, s4, s5, ⟨t1, t2⟩⟩, a, b, off, cap⟩, rfl, ⟨hS, hL, bb.1, bb.2, b1, b2, b3, b4⟩⟩
end
end
section
set_option maxRecDepth 100000
open Go.RowKit
open Go.ChangeShapes Go.WideShapes Go.ChangeAt
theorem kq : Tryz.prog.cellsOf 39 = 34 ∧ Tryz.prog.cellsOf 33 = 19 ∧ Tryz.prog.cellsOf 36 = 8 ∧ Tryz.prog.cellsOf 3 = 1 ∧ Tryz.prog.cellsOf 22 = 1 ∧ Tryz.prog.cellsOf 37 = 1 := by
 refine ⟨?_, ?_, ?_, ?_, ?_, ?_⟩ <;> kernel_rfl
theorem listC9 {α : Type} {l : List α} (h : l.length = 9) : ∃ a b c d e f g i j, l = [a, b, c, d, e, f, g, i, j] := by
 match l, h with
 | [a, b, c, d, e, f, g, i, j], _ => exact ⟨a, b, c, d, e, f, g, i, j, rfl⟩
theorem list34 {α : Type} {l : List α} (h : l.length = 34) : ∃ (c0 c1 c2 c3 c4 : α) (K : List α) (a : α) (X : List α) (s : α), l = [c0, c1, c2, c3, c4] ++ (K ++ ([a] ++ (X ++ [s]))) ∧ K.length = 19 ∧ X.length = 8 := by
 match l, h with
 | c0 :: c1 :: c2 :: c3 :: c4 :: r, h =>
  have hr : r.length = 29 := by simp at h; omega
  have h1 : (r.drop 19).length = 10 := by simp [hr]
  match e1 : r.drop 19, h1 with
  | a :: r2, h1 =>
   have hr2 : r2.length = 9 := by simpa using h1
   have h2 : (r2.drop 8).length = 1 := by simp [hr2]
   match e2 : r2.drop 8, h2 with
   | [s], _ =>
    refine ⟨c0, c1, c2, c3, c4, r.take 19, a, r2.take 8, s, ?_, by simp [hr], by simp [hr2]⟩
    rw [← e2, List.take_append_drop, show [a] ++ r2 = a :: r2 from rfl, ← e1, List.take_append_drop]
    rfl
section
variable {H : Type} {enc : TypeId × Value → H} {w : World} {base : Nat} {held : Bool}
structure CtM where
 c : Ct
 m : CtPl
structure CertIn (w : World) (X : CtM) : Prop where
 ok : CtIn w X.c X.m
 sm : CtSm X.c 9223372036854775807
 e0 : -9223372036854775808 ≤ X.c.k.e
 e1 : X.c.k.e ≤ 9223372036854775807
 p : X.c.k.cP ≤ 9223372036854775807
 n : X.c.k.cN ≤ 9223372036854775807
 d : X.c.k.dP ≤ 9223372036854775807
 l : X.c.k.dL ≤ 9223372036854775807
theorem CertIn.ky {w : World} {X : CtM} (h : CertIn w X) (hn : X.c.k.n ≤ 1048576) : KyIn X.c.k := ⟨hn, h.e0, h.e1, h.p, h.n, h.d, h.l⟩
set_option maxHeartbeats 3200000 in
theorem open_certC {fuel : Nat} {cs : List Value} {y : DataW H × List MemPlace} (h : DataW.trod enc Tryz.prog w base (fun _ => true) held fuel 39 cs = some y) : ∃ X : CtM, cs = ctL X.c X.m ∧ CertIn w X := by
 obtain ⟨k1, k2, k3, k4, k5, k6⟩ := kq
 obtain ⟨xs, n, _, hx, hcl, hlen, hel⟩ := DataW.trod_struct Tryz.underlying39 h
 rw [k1] at hcl
 obtain ⟨c0, c1, c2, c3, c4, K, a, X, s, rfl, hK, hX⟩ := list34 hcl
 obtain ⟨y0, y1, y2, y3, y4, y5, y6, y7, y8, rfl⟩ := listC9 hlen
 have f0 := hel 0 _ rfl
 have f1 := hel 1 _ rfl
 have f2 := hel 2 _ rfl
 have f3 := hel 3 _ rfl
 have f4 := hel 4 _ rfl
 have f5 := hel 5 _ rfl
 have f6 := hel 6 _ rfl
 have f7 := hel 7 _ rfl
 have f8 := hel 8 _ rfl
 simp [k2, k3, k4, k5, k6] at f0 f1 f2 f3 f4 f5 f6 f7 f8
 rw [List.take_left' hK] at f5
 rw [List.drop_left' hK] at f6
 rw [show K ++ a :: (X ++ [s]) = (K ++ [a]) ++ (X ++ [s]) by simp, List.drop_left' (by simp [hK]), List.take_left' hX] at f7
 rw [show K ++ a :: (X ++ [s]) = (K ++ [a] ++ X) ++ [s] by simp, List.drop_left' (by simp [hK, hX])] at f8
 simp only [List.take_succ_cons, List.take_zero] at f6 f8
 obtain ⟨u0, g0, _, w0⟩ := DataW.trod_int Tryz.underlying3 f0
 obtain ⟨p1, n1, s1, g1, i1⟩ := open_strsP f1
 obtain ⟨p2, n2, s2, g2, i2⟩ := open_strsP f2
 obtain ⟨u3, g3, _, w3⟩ := DataW.trod_int Tryz.underlying3 f3
 obtain ⟨u4, g4, _, w4⟩ := DataW.trod_int Tryz.underlying3 f4
 obtain ⟨m5, g5, i5⟩ := open_keyC f5
 obtain ⟨u6, g6, _, w6⟩ := DataW.trod_int Tryz.underlying3 f6
 obtain ⟨X7, g7, i7⟩ := open_extsC f7
 obtain ⟨p8, n8, s8, g8, i8, j8⟩ := open_bysC f8
 simp at g0 g1 g2 g3 g4 g6 g8
 subst g0 g1 g2 g3 g4 g5 g6 g7 g8
 exact ⟨⟨⟨u0, n1, s1, n2, s2, u3, u4, m5.k, u6, X7.x, n8, s8⟩, ⟨p1, p2, ⟨m5.ad, m5.b, m5.off, m5.cap⟩, X7.m, p8⟩⟩, rfl, ⟨i1.seg, i2.seg, i5.seg, i7.ok, i8⟩, ⟨i1.small, i1.each, i2.small, i2.each, i5.small, i7.sm, j8⟩, i5.e0, i5.e1, i5.p, i5.c, i5.d, i5.l⟩
theorem open_cert {r : Reach} {b0 : Nat} {v : Value} {d : DataW H} {p : List MemPlace} (hv : Value.okWide Tryz.prog w r b0 39 v) (h : DataW.Trod enc Tryz.prog w base (fun _ => true) held 39 v d p) :
  ∃ X : CtM, v = .agg (ctL X.c X.m).toArray ∧ CertIn w X := by
 obtain ⟨cs, rfl, hsz⟩ := okWide_struct Tryz.underlying39 hv
 obtain ⟨fuel, hf⟩ := h
 obtain ⟨X, hm, hI⟩ := open_certC hf
 refine ⟨X, ?_, hI⟩
 simp only [Value.cells] at hm
 rw [← hm]
end
end
end Go.Proofs.YtfhiiakoilkbkaaGreatDoor
