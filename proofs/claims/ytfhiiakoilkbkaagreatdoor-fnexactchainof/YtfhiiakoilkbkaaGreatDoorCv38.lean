/- Walks: the law's copies of certificates, each list one's own (written by mkcpo.py). -/
import Derived.Test.YtfhiiakoilkbkaaGreatDoorCv37
namespace Go.Proofs.YtfhiiakoilkbkaaGreatDoor
set_option linter.unusedVariables false
set_option linter.unusedSimpArgs false
open Go.RowKit
theorem toStrsC (p : Plc) (n : Nat) (f : Nat → ByteArray) (W : World) (hs : SSeg W p.ad p.b p.off n f) (hn : n ≤ 1048576) :
  Calls Tryz.prog 26 #[.slice p.ad n p.cap] W fun e w' => ∃ q : Plc, e = .returned (.slice q.ad n q.cap) ∧ CpSs W w' n f q ∧ Ext W w' :=
 (toStrs_kpO p n f W hs hn).mono fun e w' ⟨q, h1, h2, h3⟩ => ⟨q, h1, fun w'' k => ⟨(h2 w'' k).1, fun _ => (h2 w'' k).2⟩, h3⟩
theorem toIntsC (p : Plc) (n : Nat) (f : Nat → Int) (W : World) (hs : Seg W p.ad p.b p.off n f) (hn : n ≤ 1048576) :
  Calls Tryz.prog 9 #[.slice p.ad n p.cap] W fun e w' => ∃ q : Plc, e = .returned (.slice q.ad n q.cap) ∧ CpIs W w' n f q ∧ Ext W w' :=
 (toInts_kpO p n f W hs hn).mono fun e w' ⟨q, h1, h2, h3⟩ => ⟨q, h1, fun w'' k => ⟨(h2 w'' k).1.2, fun _ => (h2 w'' k).2⟩, h3⟩
theorem toBytesC (p : Plc) (n : Nat) (f : Nat → Int) (W : World) (hs : BSeg W p.ad p.b p.off n f) (hn : n ≤ 1048576) :
  Calls Tryz.prog 29 #[.slice p.ad n p.cap] W fun e w' => ∃ q : Plc, e = .returned (.slice q.ad n q.cap) ∧ CpBs W w' n f q ∧ Ext W w' :=
 (toBytes_kpO p n f W hs hn).mono fun e w' ⟨q, h1, h2, h3⟩ => ⟨q, h1, fun w'' k => ⟨(h2 w'' k).1.2, fun _ => (h2 w'' k).2⟩, h3⟩
theorem toKeyC (k : Ky) (p : Plc) (W : World) (hs : Seg W p.ad p.b p.off k.n k.f) (hn : k.n ≤ 1048576) :
  Calls Tryz.prog 27 #[.agg (kyL k p).toArray] W fun e w' => ∃ q : Plc, e = .returned (.agg (kyL k q).toArray) ∧ CpIs W w' k.n k.f q ∧ Ext W w' :=
 (toKeyO_any k p.ad p.b p.off p.cap W hs hn).mono fun e w' ⟨R, h1, h2, h3, h4⟩ => ⟨⟨some ⟨R, 0, none⟩, R, 0, k.n⟩, h1, cpi_of h2 h3, h4⟩
theorem toNetsC (p : Plc) (q : Nat → Plc) (n : Nat) (ln : Nat → Nat) (f : Nat → Nat → Int) (W : World) (hs : NSeg W p q n ln f) (hn : n ≤ 1048576) (hl : ∀ i, i < n → ln i ≤ 1048576) :
  Calls Tryz.prog 59 #[.slice p.ad n p.cap] W fun e w' => ∃ r : Plc × (Nat → Plc), e = .returned (.slice r.1.ad n r.1.cap) ∧ CpNs W w' n ln f r ∧ Ext W w' := by
 refine (toIntSS_any p q n ln f W hs hn hl).mono ?_
 rintro e w' ⟨rfl, h⟩
 have hz := h.size
 have key : NMk W w' n n (fun j => ⟨some ⟨W.heap.size + 1 + j, 0, none⟩, W.heap.size + 1 + j, 0, ln j⟩) ln f := by
  refine ⟨h.below, by omega, h.row, fun i hi => ⟨?_, fun _ => by show W.heap.size < W.heap.size + 1 + i ∧ W.heap.size + 1 + i < _; omega⟩, fun i i' h1 h2 _ _ => by show W.heap.size + 1 + i < W.heap.size + 1 + i'; omega⟩
  have hr := h.each i hi
  exact ⟨⟨fun _ => rfl, fun j hj => by show w'.cell? ⟨W.heap.size + 1 + i, 0 + j, none⟩ = _; rw [Nat.zero_add]; exact hr.cell hj⟩, fun j hj => hr.frozen _⟩
 exact ⟨_, rfl, key.done, h.below⟩
set_option maxHeartbeats 12800000 in
set_option maxRecDepth 100000 in
theorem toExtsO_any (x : Ex) (m : ExPl) (w : World) (hI : ExIn w x m) (hS : ExSm x 1048576) :
  Calls Tryz.prog 28 #[.agg (exL x m).toArray] w fun e w' => ∃ q : ExPl, e = .returned (.agg (exL x q).toArray) ∧ CpEx w w' x q ∧ Ext w w' := by
 obtain ⟨V, hV⟩ : ∃ V, ((w.alloc (.cells (exL x m).toArray 36)).alloc (.cells #[.bool false, .int .i64 0, .int .i64 0, .slice none 0 0, .slice none 0 0, .slice none 0 0, .slice none 0 0, .slice none 0 0] 52)).alloc (.cells #[.bool false, .int .i64 0, .int .i64 0, .slice none 0 0, .slice none 0 0, .slice none 0 0, .slice none 0 0, .slice none 0 0] 52) = V := ⟨_, rfl⟩
 have HM := hide (mkg_start w (exL x m) [.bool false, .int .i64 0, .int .i64 0, .slice none 0 0, .slice none 0 0, .slice none 0 0, .slice none 0 0, .slice none 0 0] [.bool false, .int .i64 0, .int .i64 0, .slice none 0 0, .slice none 0 0, .slice none 0 0, .slice none 0 0, .slice none 0 0] 36 52 52 hV)
 have HN : Hid (w.heap.size + 1 + 1 < V.heap.size) := hide HM.out.lt
 have HI := hide hI
 have HS := hide hS
 clear hI hS
 have HF : Hid (∀ w'', Kp V.heap.size V w'' → True) := hide (fun _ _ => trivial)
 have HG : Hid (V.heap.size ≤ V.heap.size) := hide (Nat.le_refl _)
 have a0 := (HM.out.a 0 _ rfl).1
 have a1 := (HM.out.a 1 _ rfl).1
 have a2 := (HM.out.a 2 _ rfl).1
 have a3 := (HM.out.a 3 _ rfl).1
 have o0 := (HM.out.o 0 _ rfl).1
 have f0 := (HM.out.o 0 _ rfl).2
 have o1 := (HM.out.o 1 _ rfl).1
 have f1 := (HM.out.o 1 _ rfl).2
 have o2 := (HM.out.o 2 _ rfl).1
 have f2 := (HM.out.o 2 _ rfl).2
 have HM1 := hide (Mkg.set (Mkg.set (Mkg.set HM.out 0 (.bool x.ca) (by simp [exL])) 1 (.int .i64 x.path) (by simp [exL])) 2 (.int .i64 x.usage) (by simp [exL]))
 have HF1 := hide (later_set (later_set (later_set HF.out HN.out 0 (.bool x.ca)) HN.out 1 (.int .i64 x.path)) HN.out 2 (.int .i64 x.usage))
 have HL1 : Hid (V.heap.size ≤ (((V.setCell ⟨w.heap.size + 1 + 1, 0, none⟩ (.bool x.ca)).setCell ⟨w.heap.size + 1 + 1, 1, none⟩ (.int .i64 x.path)).setCell ⟨w.heap.size + 1 + 1, 2, none⟩ (.int .i64 x.usage)).heap.size ∧ 0 < V.heap.size + 1) := hide ⟨Nat.le_of_eq (by first | rfl | simp [World.setCell, size_putL]), Nat.succ_pos _⟩
 go_enter Tryz.func28, Tryz.ntmps28
 go_wp2_with fail
 refine (toStrsC m.h x.nh x.fh _ (HI.out.h.of_all HM1.out.ext) HS.out.h).mono ?_
 rintro e w1 ⟨ph, rfl, hS0, hEW⟩
 have Hy1 := hide (Below.size hEW)
 clear a0 a1 a2 a3 o0 f0 o1 f1 o2 f2
 replace HM : Hid (Mkg w w1 (exL x m) [.bool false, .int .i64 0, .int .i64 0, .slice none 0 0, .slice none 0 0, .slice none 0 0, .slice none 0 0, .slice none 0 0] [.bool x.ca, .int .i64 x.path, .int .i64 x.usage, .slice none 0 0, .slice none 0 0, .slice none 0 0, .slice none 0 0, .slice none 0 0]) := hide (Mkg.later HM1.out hEW)
 replace HF := hide (later_and (later_ext HF1.out hEW) (Nat.le_trans HG.out HL1.out.1) hS0)
 replace HG : Hid (V.heap.size ≤ w1.heap.size) := hide (Nat.le_trans HG.out (Nat.le_trans HL1.out.1 (Below.size hEW)))
 clear hS0 hEW HM1 HF1 HL1
 have a4 := (HM.out.a 4 _ rfl).1
 have o3 := (HM.out.o 3 _ rfl).1
 have f3 := (HM.out.o 3 _ rfl).2
 have HM1 := hide (Mkg.set HM.out 3 (.slice ph.ad x.nh ph.cap) (by simp [exL]))
 have HF1 := hide (later_set HF.out HN.out 3 (.slice ph.ad x.nh ph.cap))
 have HL1 : Hid (w1.heap.size ≤ (w1.setCell ⟨w.heap.size + 1 + 1, 3, none⟩ (.slice ph.ad x.nh ph.cap)).heap.size ∧ 0 < w1.heap.size + 1) := hide ⟨Nat.le_of_eq (by first | rfl | simp [World.setCell, size_putL]), Nat.succ_pos _⟩
 go_wp2_with fail
 refine (toNetsC m.n m.ni x.nn x.ln x.fn _ (HI.out.n.of_all HM1.out.ext) HS.out.n HS.out.ns).mono ?_
 rintro e w2 ⟨pn, rfl, hS1, hEW⟩
 have Hy2 := hide (Below.size hEW)
 clear a4 o3 f3
 replace HM : Hid (Mkg w w2 (exL x m) [.bool false, .int .i64 0, .int .i64 0, .slice none 0 0, .slice none 0 0, .slice none 0 0, .slice none 0 0, .slice none 0 0] [.bool x.ca, .int .i64 x.path, .int .i64 x.usage, .slice ph.ad x.nh ph.cap, .slice none 0 0, .slice none 0 0, .slice none 0 0, .slice none 0 0]) := hide (Mkg.later HM1.out hEW)
 replace HF := hide (later_and (later_ext HF1.out hEW) (Nat.le_trans HG.out HL1.out.1) hS1)
 replace HG : Hid (V.heap.size ≤ w2.heap.size) := hide (Nat.le_trans HG.out (Nat.le_trans HL1.out.1 (Below.size hEW)))
 clear hS1 hEW HM1 HF1 HL1
 have a5 := (HM.out.a 5 _ rfl).1
 have o4 := (HM.out.o 4 _ rfl).1
 have f4 := (HM.out.o 4 _ rfl).2
 have HM1 := hide (Mkg.set HM.out 4 (.slice pn.1.ad x.nn pn.1.cap) (by simp [exL]))
 have HF1 := hide (later_set HF.out HN.out 4 (.slice pn.1.ad x.nn pn.1.cap))
 have HL1 : Hid (w2.heap.size ≤ (w2.setCell ⟨w.heap.size + 1 + 1, 4, none⟩ (.slice pn.1.ad x.nn pn.1.cap)).heap.size ∧ 0 < w2.heap.size + 1) := hide ⟨Nat.le_of_eq (by first | rfl | simp [World.setCell, size_putL]), Nat.succ_pos _⟩
 go_wp2_with fail
 refine (toStrsC m.a x.na x.fa _ (HI.out.a.of_all HM1.out.ext) HS.out.a).mono ?_
 rintro e w3 ⟨pa, rfl, hS2, hEW⟩
 have Hy3 := hide (Below.size hEW)
 clear a5 o4 f4
 replace HM : Hid (Mkg w w3 (exL x m) [.bool false, .int .i64 0, .int .i64 0, .slice none 0 0, .slice none 0 0, .slice none 0 0, .slice none 0 0, .slice none 0 0] [.bool x.ca, .int .i64 x.path, .int .i64 x.usage, .slice ph.ad x.nh ph.cap, .slice pn.1.ad x.nn pn.1.cap, .slice none 0 0, .slice none 0 0, .slice none 0 0]) := hide (Mkg.later HM1.out hEW)
 replace HF := hide (later_and (later_ext HF1.out hEW) (Nat.le_trans HG.out HL1.out.1) hS2)
 replace HG : Hid (V.heap.size ≤ w3.heap.size) := hide (Nat.le_trans HG.out (Nat.le_trans HL1.out.1 (Below.size hEW)))
 clear hS2 hEW HM1 HF1 HL1
 have a6 := (HM.out.a 6 _ rfl).1
 have o5 := (HM.out.o 5 _ rfl).1
 have f5 := (HM.out.o 5 _ rfl).2
 have HM1 := hide (Mkg.set HM.out 5 (.slice pa.ad x.na pa.cap) (by simp [exL]))
 have HF1 := hide (later_set HF.out HN.out 5 (.slice pa.ad x.na pa.cap))
 have HL1 : Hid (w3.heap.size ≤ (w3.setCell ⟨w.heap.size + 1 + 1, 5, none⟩ (.slice pa.ad x.na pa.cap)).heap.size ∧ 0 < w3.heap.size + 1) := hide ⟨Nat.le_of_eq (by first | rfl | simp [World.setCell, size_putL]), Nat.succ_pos _⟩
 go_wp2_with fail
 refine (toStrsC m.d x.nd x.fd _ (HI.out.d.of_all HM1.out.ext) HS.out.d).mono ?_
 rintro e w4 ⟨pd, rfl, hS3, hEW⟩
 have Hy4 := hide (Below.size hEW)
 clear a6 o5 f5
 replace HM : Hid (Mkg w w4 (exL x m) [.bool false, .int .i64 0, .int .i64 0, .slice none 0 0, .slice none 0 0, .slice none 0 0, .slice none 0 0, .slice none 0 0] [.bool x.ca, .int .i64 x.path, .int .i64 x.usage, .slice ph.ad x.nh ph.cap, .slice pn.1.ad x.nn pn.1.cap, .slice pa.ad x.na pa.cap, .slice none 0 0, .slice none 0 0]) := hide (Mkg.later HM1.out hEW)
 replace HF := hide (later_and (later_ext HF1.out hEW) (Nat.le_trans HG.out HL1.out.1) hS3)
 replace HG : Hid (V.heap.size ≤ w4.heap.size) := hide (Nat.le_trans HG.out (Nat.le_trans HL1.out.1 (Below.size hEW)))
 clear hS3 hEW HM1 HF1 HL1
 have a7 := (HM.out.a 7 _ rfl).1
 have o6 := (HM.out.o 6 _ rfl).1
 have f6 := (HM.out.o 6 _ rfl).2
 have HM1 := hide (Mkg.set HM.out 6 (.slice pd.ad x.nd pd.cap) (by simp [exL]))
 have HF1 := hide (later_set HF.out HN.out 6 (.slice pd.ad x.nd pd.cap))
 have HL1 : Hid (w4.heap.size ≤ (w4.setCell ⟨w.heap.size + 1 + 1, 6, none⟩ (.slice pd.ad x.nd pd.cap)).heap.size ∧ 0 < w4.heap.size + 1) := hide ⟨Nat.le_of_eq (by first | rfl | simp [World.setCell, size_putL]), Nat.succ_pos _⟩
 go_wp2_with fail
 refine (toIntsC m.p x.np x.fp _ (HI.out.p.of_all HM1.out.ext) HS.out.p).mono ?_
 rintro e w5 ⟨pp, rfl, hS4, hEW⟩
 have Hy5 := hide (Below.size hEW)
 clear a7 o6 f6
 replace HM : Hid (Mkg w w5 (exL x m) [.bool false, .int .i64 0, .int .i64 0, .slice none 0 0, .slice none 0 0, .slice none 0 0, .slice none 0 0, .slice none 0 0] [.bool x.ca, .int .i64 x.path, .int .i64 x.usage, .slice ph.ad x.nh ph.cap, .slice pn.1.ad x.nn pn.1.cap, .slice pa.ad x.na pa.cap, .slice pd.ad x.nd pd.cap, .slice none 0 0]) := hide (Mkg.later HM1.out hEW)
 replace HF := hide (later_and (later_ext HF1.out hEW) (Nat.le_trans HG.out HL1.out.1) hS4)
 replace HG : Hid (V.heap.size ≤ w5.heap.size) := hide (Nat.le_trans HG.out (Nat.le_trans HL1.out.1 (Below.size hEW)))
 clear hS4 hEW HM1 HF1 HL1
 have o7 := (HM.out.o 7 _ rfl).1
 have f7 := (HM.out.o 7 _ rfl).2
 have HM1 := hide (Mkg.set HM.out 7 (.slice pp.ad x.np pp.cap) (by simp [exL]))
 have HF1 := hide (later_set HF.out HN.out 7 (.slice pp.ad x.np pp.cap))
 obtain ⟨V2, hV2⟩ : ∃ V2, (w5.setCell ⟨w.heap.size + 1 + 1, 7, none⟩ (.slice pp.ad x.np pp.cap)) = V2 := ⟨_, rfl⟩
 have hM1 : Mkg w V2 (exL x m) [.bool false, .int .i64 0, .int .i64 0, .slice none 0 0, .slice none 0 0, .slice none 0 0, .slice none 0 0, .slice none 0 0] (exL x ⟨ph, pn.1, pn.2, pa, pd, pp⟩) := hV2 ▸ HM1.out
 have HV2 := hide (show V2.heap.size = w5.heap.size by rw [← hV2]; simp [World.setCell])
 have hF1 := HF1.out
 rw [hV2] at hF1
 have hldE := run_ld (P := Tryz.prog) 52 (exL x ⟨ph, pn.1, pn.2, pa, pd, pp⟩) V2 (by kernel_rfl) (by kernel_rfl) (w.heap.size + 1 + 1) 0 (Blk.ld hM1.o 0 _ (fun j v h => by rw [Nat.zero_add]; exact h))
 have hstE := run_st (P := Tryz.prog) 52 (exL x ⟨ph, pn.1, pn.2, pa, pd, pp⟩) V2 (by kernel_rfl) (by simp [exL, Value.oneCell']) (w.heap.size + 1) 0 (Blk.st hM1.d 0 _ (by simp [exL]))
 have HB3 := hide (Blk.putAll1 hM1.d (vs := exL x ⟨ph, pn.1, pn.2, pa, pd, pp⟩) rfl)
 have HX3 := hide (below_putL (Nat.le_succ _) (exL x ⟨ph, pn.1, pn.2, pa, pd, pp⟩) 0 _ hM1.ext)
 have HF3 := hide (later_put hF1 (Nat.lt_of_succ_lt HN.out) 0 (exL x ⟨ph, pn.1, pn.2, pa, pd, pp⟩))
 clear hM1 hF1 HM1 HF1 HM HF
 go_wp2_with (first | (refine wpList_ld (by first | rfl | simp [Region.wanted, yielded]) 52 _ rfl _ rfl _ hldE ?_) | (refine wpList_st (by first | rfl | simp [Region.wanted, yielded]) 52 _ _ rfl _ rfl _ rfl _ hstE ?_))
 refine bodyPost_ret (v := .agg (exL x ⟨ph, pn.1, pn.2, pa, pd, pp⟩).toArray) (results_at Tryz.results28 rfl (run_ld (P := Tryz.prog) 52 (exL x ⟨ph, pn.1, pn.2, pa, pd, pp⟩) _ (by kernel_rfl) (by kernel_rfl) (w.heap.size + 1) 0 (Blk.ld HB3.out 0 _ (fun j v h => by rw [Nat.zero_add]; exact h)))) rfl ?_
 have n2 : ∀ (W : World) (a : Addr) (v : Value), (W.setCell a v).heap.size = W.heap.size := fun W a v => by simp [World.setCell]
 have y1 := Hy1.out; have y2 := Hy2.out; have y3 := Hy3.out; have y4 := Hy4.out; have y5 := Hy5.out; have yv := HV2.out; have yn := HN.out
 simp only [n2] at y1 y2 y3 y4 y5
 refine ⟨⟨ph, pn.1, pn.2, pa, pd, pp⟩, rfl, fun w'' k => ?_, HX3.out⟩
 have h := HF3.out w'' (k.mono (Nat.le_of_lt (Nat.lt_of_le_of_lt (Nat.le_succ_of_le (Nat.le_succ _)) HN.out)))
 obtain ⟨⟨⟨⟨⟨-, h0, i0⟩, h1, i1⟩, h2, i2⟩, h3, i3⟩, h4, i4⟩ := h
 simp only [n2] at i0 i1 i2 i3 i4
 have hs := xt_sep (x := x) (m := ⟨ph, pn.1, pn.2, pa, pd, pp⟩) (B := w.heap.size) (T := w5.heap.size) (fun r => [V.heap.size, w1.heap.size, w2.heap.size, w3.heap.size, w4.heap.size].getD r 0) (fun r => [w1.heap.size, w2.heap.size, w3.heap.size, w4.heap.size, w5.heap.size].getD r 0)
  (fun r hr b hb => by
   match r, hr, hb with
   | 0, _, ⟨h0, e⟩ => rw [e]; exact i0 h0
   | 1, _, hb => exact i1 b hb
   | 2, _, ⟨h0, e⟩ => rw [e]; exact i2 h0
   | 3, _, ⟨h0, e⟩ => rw [e]; exact i3 h0
   | 4, _, ⟨h0, e⟩ => rw [e]; exact i4 h0)
  (fun r r' hr hr' hne => by
   have e1 : r = 0 ∨ r = 1 ∨ r = 2 ∨ r = 3 ∨ r = 4 := by omega
   have e2 : r' = 0 ∨ r' = 1 ∨ r' = 2 ∨ r' = 3 ∨ r' = 4 := by omega
   rcases e1 with rfl | rfl | rfl | rfl | rfl <;> rcases e2 with rfl | rfl | rfl | rfl | rfl <;> first | exact absurd rfl hne | (simp; try omega))
  (fun r hr => by
   have e1 : r = 0 ∨ r = 1 ∨ r = 2 ∨ r = 3 ∨ r = 4 := by omega
   rcases e1 with rfl | rfl | rfl | rfl | rfl <;> (simp; try omega))
  (fun r hr => by
   have e1 : r = 0 ∨ r = 1 ∨ r = 2 ∨ r = 3 ∨ r = 4 := by omega
   rcases e1 with rfl | rfl | rfl | rfl | rfl <;> (simp; try omega))
 rw [size_putL, yv]
 exact ⟨h0, h1, h2, h3, h4, hs.1, hs.2⟩
set_option maxHeartbeats 12800000 in
set_option maxRecDepth 100000 in
theorem toCertO_any (c : Ct) (m : CtPl) (w : World) (hI : CtIn w c m) (hS : CtSm c 1048576) :
  Calls Tryz.prog 7 #[.agg (ctL c m).toArray] w fun e w' => ∃ q : CtPl, e = .returned (.agg (ctL c q).toArray) ∧ CpCt w w' c q ∧ Ext w w' := by
 obtain ⟨V, hV⟩ : ∃ V, ((w.alloc (.cells (ctL c m).toArray 39)).alloc (.cells #[.int .i64 0, .slice none 0 0, .slice none 0 0, .int .i64 0, .int .i64 0, .int .i64 0, .slice none 0 0, .int .i64 0, .int .i64 0, .int .i64 0, .int .i64 0, .int .i64 0, .int .i64 0, .int .i64 0, .int .i64 0, .int .i64 0, .bool false, .int .i64 0, .int .i64 0, .int .i64 0, .int .i64 0, .int .i64 0, .int .i64 0, .int .i64 0, .int .i64 0, .bool false, .int .i64 0, .int .i64 0, .slice none 0 0, .slice none 0 0, .slice none 0 0, .slice none 0 0, .slice none 0 0, .slice none 0 0] 54)).alloc (.cells #[.int .i64 0, .slice none 0 0, .slice none 0 0, .int .i64 0, .int .i64 0, .int .i64 0, .slice none 0 0, .int .i64 0, .int .i64 0, .int .i64 0, .int .i64 0, .int .i64 0, .int .i64 0, .int .i64 0, .int .i64 0, .int .i64 0, .bool false, .int .i64 0, .int .i64 0, .int .i64 0, .int .i64 0, .int .i64 0, .int .i64 0, .int .i64 0, .int .i64 0, .bool false, .int .i64 0, .int .i64 0, .slice none 0 0, .slice none 0 0, .slice none 0 0, .slice none 0 0, .slice none 0 0, .slice none 0 0] 54) = V := ⟨_, rfl⟩
 have HM := hide (mkg_start w (ctL c m) [.int .i64 0, .slice none 0 0, .slice none 0 0, .int .i64 0, .int .i64 0, .int .i64 0, .slice none 0 0, .int .i64 0, .int .i64 0, .int .i64 0, .int .i64 0, .int .i64 0, .int .i64 0, .int .i64 0, .int .i64 0, .int .i64 0, .bool false, .int .i64 0, .int .i64 0, .int .i64 0, .int .i64 0, .int .i64 0, .int .i64 0, .int .i64 0, .int .i64 0, .bool false, .int .i64 0, .int .i64 0, .slice none 0 0, .slice none 0 0, .slice none 0 0, .slice none 0 0, .slice none 0 0, .slice none 0 0] [.int .i64 0, .slice none 0 0, .slice none 0 0, .int .i64 0, .int .i64 0, .int .i64 0, .slice none 0 0, .int .i64 0, .int .i64 0, .int .i64 0, .int .i64 0, .int .i64 0, .int .i64 0, .int .i64 0, .int .i64 0, .int .i64 0, .bool false, .int .i64 0, .int .i64 0, .int .i64 0, .int .i64 0, .int .i64 0, .int .i64 0, .int .i64 0, .int .i64 0, .bool false, .int .i64 0, .int .i64 0, .slice none 0 0, .slice none 0 0, .slice none 0 0, .slice none 0 0, .slice none 0 0, .slice none 0 0] 39 54 54 hV)
 have HN : Hid (w.heap.size + 1 + 1 < V.heap.size) := hide HM.out.lt
 have HI := hide hI
 have HS := hide hS
 clear hI hS
 have HF : Hid (∀ w'', Kp V.heap.size V w'' → True) := hide (fun _ _ => trivial)
 have HG : Hid (V.heap.size ≤ V.heap.size) := hide (Nat.le_refl _)
 have a0 := (HM.out.a 0 _ rfl).1
 have a1 := (HM.out.a 1 _ rfl).1
 have o0 := (HM.out.o 0 _ rfl).1
 have f0 := (HM.out.o 0 _ rfl).2
 have HM1 := hide (Mkg.set HM.out 0 (.int .i64 c.serial) (by simp [ctL, kyL, exL]))
 have HF1 := hide (later_set HF.out HN.out 0 (.int .i64 c.serial))
 have HL1 : Hid (V.heap.size ≤ (V.setCell ⟨w.heap.size + 1 + 1, 0, none⟩ (.int .i64 c.serial)).heap.size ∧ 0 < V.heap.size + 1) := hide ⟨Nat.le_of_eq (by first | rfl | simp [World.setCell, size_putL]), Nat.succ_pos _⟩
 go_enter Tryz.func7, Tryz.ntmps7
 go_wp2_with fail
 refine (toStrsC m.i c.ni c.fi _ (HI.out.i.of_all HM1.out.ext) HS.out.i).mono ?_
 rintro e w1 ⟨pi, rfl, hS0, hEW⟩
 have Hy1 := hide (Below.size hEW)
 clear a0 a1 o0 f0
 replace HM : Hid (Mkg w w1 (ctL c m) [.int .i64 0, .slice none 0 0, .slice none 0 0, .int .i64 0, .int .i64 0, .int .i64 0, .slice none 0 0, .int .i64 0, .int .i64 0, .int .i64 0, .int .i64 0, .int .i64 0, .int .i64 0, .int .i64 0, .int .i64 0, .int .i64 0, .bool false, .int .i64 0, .int .i64 0, .int .i64 0, .int .i64 0, .int .i64 0, .int .i64 0, .int .i64 0, .int .i64 0, .bool false, .int .i64 0, .int .i64 0, .slice none 0 0, .slice none 0 0, .slice none 0 0, .slice none 0 0, .slice none 0 0, .slice none 0 0] [.int .i64 c.serial, .slice none 0 0, .slice none 0 0, .int .i64 0, .int .i64 0, .int .i64 0, .slice none 0 0, .int .i64 0, .int .i64 0, .int .i64 0, .int .i64 0, .int .i64 0, .int .i64 0, .int .i64 0, .int .i64 0, .int .i64 0, .bool false, .int .i64 0, .int .i64 0, .int .i64 0, .int .i64 0, .int .i64 0, .int .i64 0, .int .i64 0, .int .i64 0, .bool false, .int .i64 0, .int .i64 0, .slice none 0 0, .slice none 0 0, .slice none 0 0, .slice none 0 0, .slice none 0 0, .slice none 0 0]) := hide (Mkg.later HM1.out hEW)
 replace HF := hide (later_and (later_ext HF1.out hEW) (Nat.le_trans HG.out HL1.out.1) hS0)
 replace HG : Hid (V.heap.size ≤ w1.heap.size) := hide (Nat.le_trans HG.out (Nat.le_trans HL1.out.1 (Below.size hEW)))
 clear hS0 hEW HM1 HF1 HL1
 have a2 := (HM.out.a 2 _ rfl).1
 have o1 := (HM.out.o 1 _ rfl).1
 have f1 := (HM.out.o 1 _ rfl).2
 have HM1 := hide (Mkg.set HM.out 1 (.slice pi.ad c.ni pi.cap) (by simp [ctL, kyL, exL]))
 have HF1 := hide (later_set HF.out HN.out 1 (.slice pi.ad c.ni pi.cap))
 have HL1 : Hid (w1.heap.size ≤ (w1.setCell ⟨w.heap.size + 1 + 1, 1, none⟩ (.slice pi.ad c.ni pi.cap)).heap.size ∧ 0 < w1.heap.size + 1) := hide ⟨Nat.le_of_eq (by first | rfl | simp [World.setCell, size_putL]), Nat.succ_pos _⟩
 go_wp2_with fail
 refine (toStrsC m.s c.ns c.fs _ (HI.out.s.of_all HM1.out.ext) HS.out.s).mono ?_
 rintro e w2 ⟨ps, rfl, hS1, hEW⟩
 have Hy2 := hide (Below.size hEW)
 clear a2 o1 f1
 replace HM : Hid (Mkg w w2 (ctL c m) [.int .i64 0, .slice none 0 0, .slice none 0 0, .int .i64 0, .int .i64 0, .int .i64 0, .slice none 0 0, .int .i64 0, .int .i64 0, .int .i64 0, .int .i64 0, .int .i64 0, .int .i64 0, .int .i64 0, .int .i64 0, .int .i64 0, .bool false, .int .i64 0, .int .i64 0, .int .i64 0, .int .i64 0, .int .i64 0, .int .i64 0, .int .i64 0, .int .i64 0, .bool false, .int .i64 0, .int .i64 0, .slice none 0 0, .slice none 0 0, .slice none 0 0, .slice none 0 0, .slice none 0 0, .slice none 0 0] [.int .i64 c.serial, .slice pi.ad c.ni pi.cap, .slice none 0 0, .int .i64 0, .int .i64 0, .int .i64 0, .slice none 0 0, .int .i64 0, .int .i64 0, .int .i64 0, .int .i64 0, .int .i64 0, .int .i64 0, .int .i64 0, .int .i64 0, .int .i64 0, .bool false, .int .i64 0, .int .i64 0, .int .i64 0, .int .i64 0, .int .i64 0, .int .i64 0, .int .i64 0, .int .i64 0, .bool false, .int .i64 0, .int .i64 0, .slice none 0 0, .slice none 0 0, .slice none 0 0, .slice none 0 0, .slice none 0 0, .slice none 0 0]) := hide (Mkg.later HM1.out hEW)
 replace HF := hide (later_and (later_ext HF1.out hEW) (Nat.le_trans HG.out HL1.out.1) hS1)
 replace HG : Hid (V.heap.size ≤ w2.heap.size) := hide (Nat.le_trans HG.out (Nat.le_trans HL1.out.1 (Below.size hEW)))
 clear hS1 hEW HM1 HF1 HL1
 have a3 := (HM.out.a 3 _ rfl).1
 have a4 := (HM.out.a 4 _ rfl).1
 have o2 := (HM.out.o 2 _ rfl).1
 have f2 := (HM.out.o 2 _ rfl).2
 have o3 := (HM.out.o 3 _ rfl).1
 have f3 := (HM.out.o 3 _ rfl).2
 have o4 := (HM.out.o 4 _ rfl).1
 have f4 := (HM.out.o 4 _ rfl).2
 have HM1 := hide (Mkg.set (Mkg.set (Mkg.set HM.out 2 (.slice ps.ad c.ns ps.cap) (by simp [ctL, kyL, exL])) 3 (.int .i64 c.fr) (by simp [ctL, kyL, exL])) 4 (.int .i64 c.to) (by simp [ctL, kyL, exL]))
 have HF1 := hide (later_set (later_set (later_set HF.out HN.out 2 (.slice ps.ad c.ns ps.cap)) HN.out 3 (.int .i64 c.fr)) HN.out 4 (.int .i64 c.to))
 have HL1 : Hid (w2.heap.size ≤ (((w2.setCell ⟨w.heap.size + 1 + 1, 2, none⟩ (.slice ps.ad c.ns ps.cap)).setCell ⟨w.heap.size + 1 + 1, 3, none⟩ (.int .i64 c.fr)).setCell ⟨w.heap.size + 1 + 1, 4, none⟩ (.int .i64 c.to)).heap.size ∧ 0 < w2.heap.size + 1) := hide ⟨Nat.le_of_eq (by first | rfl | simp [World.setCell, size_putL]), Nat.succ_pos _⟩
 have hld := run_ld (P := Tryz.prog) 33 (kyL c.k m.k) (((w2.setCell ⟨w.heap.size + 1 + 1, 2, none⟩ (.slice ps.ad c.ns ps.cap)).setCell ⟨w.heap.size + 1 + 1, 3, none⟩ (.int .i64 c.fr)).setCell ⟨w.heap.size + 1 + 1, 4, none⟩ (.int .i64 c.to)) (by kernel_rfl) (by kernel_rfl) w.heap.size 5 (Blk.ld HM1.out.a 5 _ (fun j v h => sub_key c m j v h))
 go_wp2_with (first | (refine wpList_ld (by first | rfl | simp [Region.wanted, yielded]) 33 _ rfl _ rfl _ hld ?_))
 refine (toKeyC c.k m.k _ (HI.out.k.of_all HM1.out.ext) HS.out.k).mono ?_
 rintro e w3 ⟨pk, rfl, hS2, hEW⟩
 have Hy3 := hide (Below.size hEW)
 clear a3 a4 o2 f2 o3 f3 o4 f4 hld
 replace HM : Hid (Mkg w w3 (ctL c m) [.int .i64 0, .slice none 0 0, .slice none 0 0, .int .i64 0, .int .i64 0, .int .i64 0, .slice none 0 0, .int .i64 0, .int .i64 0, .int .i64 0, .int .i64 0, .int .i64 0, .int .i64 0, .int .i64 0, .int .i64 0, .int .i64 0, .bool false, .int .i64 0, .int .i64 0, .int .i64 0, .int .i64 0, .int .i64 0, .int .i64 0, .int .i64 0, .int .i64 0, .bool false, .int .i64 0, .int .i64 0, .slice none 0 0, .slice none 0 0, .slice none 0 0, .slice none 0 0, .slice none 0 0, .slice none 0 0] [.int .i64 c.serial, .slice pi.ad c.ni pi.cap, .slice ps.ad c.ns ps.cap, .int .i64 c.fr, .int .i64 c.to, .int .i64 0, .slice none 0 0, .int .i64 0, .int .i64 0, .int .i64 0, .int .i64 0, .int .i64 0, .int .i64 0, .int .i64 0, .int .i64 0, .int .i64 0, .bool false, .int .i64 0, .int .i64 0, .int .i64 0, .int .i64 0, .int .i64 0, .int .i64 0, .int .i64 0, .int .i64 0, .bool false, .int .i64 0, .int .i64 0, .slice none 0 0, .slice none 0 0, .slice none 0 0, .slice none 0 0, .slice none 0 0, .slice none 0 0]) := hide (Mkg.later HM1.out hEW)
 replace HF := hide (later_and (later_ext HF1.out hEW) (Nat.le_trans HG.out HL1.out.1) hS2)
 replace HG : Hid (V.heap.size ≤ w3.heap.size) := hide (Nat.le_trans HG.out (Nat.le_trans HL1.out.1 (Below.size hEW)))
 clear hS2 hEW HM1 HF1 HL1
 have hst := run_st (P := Tryz.prog) 51 (kyL c.k pk) w3 (by kernel_rfl) (by simp [kyL, Value.oneCell']) (w.heap.size + 1 + 1) 5 (Blk.st HM.out.o 5 _ (by simp [ctL, kyL, exL]))
 have HM2 := hide (Mkg.put HM.out 5 (kyL c.k pk) (by simp [ctL, kyL, exL]))
 have HF2 := hide (later_put HF.out HN.out 5 (kyL c.k pk))
 have HG2 : Hid (V.heap.size ≤ (putL (w.heap.size + 1 + 1) 5 (kyL c.k pk) w3).heap.size) := hide (by rw [size_putL]; exact HG.out)
 obtain ⟨k3, hk3⟩ : ∃ z, putL (w.heap.size + 1 + 1) 5 (kyL c.k pk) w3 = z := ⟨_, rfl⟩
 rw [hk3] at hst HM2 HF2 HG2
 have Hk3 := hide (show k3.heap.size = w3.heap.size by rw [← hk3, size_putL])
 clear hk3
 replace HM : Hid (Mkg w k3 (ctL c m) [.int .i64 0, .slice none 0 0, .slice none 0 0, .int .i64 0, .int .i64 0, .int .i64 0, .slice none 0 0, .int .i64 0, .int .i64 0, .int .i64 0, .int .i64 0, .int .i64 0, .int .i64 0, .int .i64 0, .int .i64 0, .int .i64 0, .bool false, .int .i64 0, .int .i64 0, .int .i64 0, .int .i64 0, .int .i64 0, .int .i64 0, .int .i64 0, .int .i64 0, .bool false, .int .i64 0, .int .i64 0, .slice none 0 0, .slice none 0 0, .slice none 0 0, .slice none 0 0, .slice none 0 0, .slice none 0 0] ([.int .i64 c.serial, .slice pi.ad c.ni pi.cap, .slice ps.ad c.ns ps.cap, .int .i64 c.fr, .int .i64 c.to] ++ ((kyL c.k pk) ++ ([.int .i64 0, .bool false, .int .i64 0, .int .i64 0, .slice none 0 0, .slice none 0 0, .slice none 0 0, .slice none 0 0, .slice none 0 0, .slice none 0 0])))) := HM2
 replace HF := HF2
 replace HG := HG2
 clear HM2 HF2 HG2
 have a24 := (HM.out.a 24 _ rfl).1
 have o24 := (HM.out.o 24 _ rfl).1
 have f24 := (HM.out.o 24 _ rfl).2
 have HM1 := hide (Mkg.set HM.out 24 (.int .i64 c.alg) (by simp [ctL, kyL, exL]))
 have HF1 := hide (later_set HF.out HN.out 24 (.int .i64 c.alg))
 have HL1 : Hid (k3.heap.size ≤ (k3.setCell ⟨w.heap.size + 1 + 1, 24, none⟩ (.int .i64 c.alg)).heap.size ∧ 0 < k3.heap.size + 1) := hide ⟨Nat.le_of_eq (by first | rfl | simp [World.setCell, size_putL]), Nat.succ_pos _⟩
 have hld := run_ld (P := Tryz.prog) 36 (exL c.x m.x) (k3.setCell ⟨w.heap.size + 1 + 1, 24, none⟩ (.int .i64 c.alg)) (by kernel_rfl) (by kernel_rfl) w.heap.size 25 (Blk.ld HM1.out.a 25 _ (fun j v h => sub_ex c m j v h))
 go_wp2_with (first | (refine wpList_st (by first | rfl | simp [Region.wanted, yielded]) 51 _ _ rfl _ rfl _ rfl _ hst ?_) | (refine wpList_ld (by first | rfl | simp [Region.wanted, yielded]) 36 _ rfl _ rfl _ hld ?_))
 refine (toExtsO_any c.x m.x _ (HI.out.x.ext HM1.out.ext) HS.out.x).mono ?_
 rintro e w4 ⟨px, rfl, hS3, hEW⟩
 have Hy4 := hide (Below.size hEW)
 clear a24 o24 f24 hst hld
 replace HM : Hid (Mkg w w4 (ctL c m) [.int .i64 0, .slice none 0 0, .slice none 0 0, .int .i64 0, .int .i64 0, .int .i64 0, .slice none 0 0, .int .i64 0, .int .i64 0, .int .i64 0, .int .i64 0, .int .i64 0, .int .i64 0, .int .i64 0, .int .i64 0, .int .i64 0, .bool false, .int .i64 0, .int .i64 0, .int .i64 0, .int .i64 0, .int .i64 0, .int .i64 0, .int .i64 0, .int .i64 0, .bool false, .int .i64 0, .int .i64 0, .slice none 0 0, .slice none 0 0, .slice none 0 0, .slice none 0 0, .slice none 0 0, .slice none 0 0] ([.int .i64 c.serial, .slice pi.ad c.ni pi.cap, .slice ps.ad c.ns ps.cap, .int .i64 c.fr, .int .i64 c.to] ++ ((kyL c.k pk) ++ ([.int .i64 c.alg, .bool false, .int .i64 0, .int .i64 0, .slice none 0 0, .slice none 0 0, .slice none 0 0, .slice none 0 0, .slice none 0 0, .slice none 0 0])))) := hide (Mkg.later HM1.out hEW)
 replace HF := hide (later_and (later_ext HF1.out hEW) (Nat.le_trans HG.out HL1.out.1) hS3)
 replace HG : Hid (V.heap.size ≤ w4.heap.size) := hide (Nat.le_trans HG.out (Nat.le_trans HL1.out.1 (Below.size hEW)))
 clear hS3 hEW HM1 HF1 HL1
 have hst := run_st (P := Tryz.prog) 52 (exL c.x px) w4 (by kernel_rfl) (by simp [exL, Value.oneCell']) (w.heap.size + 1 + 1) 25 (Blk.st HM.out.o 25 _ (by simp [ctL, kyL, exL]))
 have HM2 := hide (Mkg.put HM.out 25 (exL c.x px) (by simp [ctL, kyL, exL]))
 have HF2 := hide (later_put HF.out HN.out 25 (exL c.x px))
 have HG2 : Hid (V.heap.size ≤ (putL (w.heap.size + 1 + 1) 25 (exL c.x px) w4).heap.size) := hide (by rw [size_putL]; exact HG.out)
 obtain ⟨k4, hk4⟩ : ∃ z, putL (w.heap.size + 1 + 1) 25 (exL c.x px) w4 = z := ⟨_, rfl⟩
 rw [hk4] at hst HM2 HF2 HG2
 have Hk4 := hide (show k4.heap.size = w4.heap.size by rw [← hk4, size_putL])
 clear hk4
 replace HM : Hid (Mkg w k4 (ctL c m) [.int .i64 0, .slice none 0 0, .slice none 0 0, .int .i64 0, .int .i64 0, .int .i64 0, .slice none 0 0, .int .i64 0, .int .i64 0, .int .i64 0, .int .i64 0, .int .i64 0, .int .i64 0, .int .i64 0, .int .i64 0, .int .i64 0, .bool false, .int .i64 0, .int .i64 0, .int .i64 0, .int .i64 0, .int .i64 0, .int .i64 0, .int .i64 0, .int .i64 0, .bool false, .int .i64 0, .int .i64 0, .slice none 0 0, .slice none 0 0, .slice none 0 0, .slice none 0 0, .slice none 0 0, .slice none 0 0] ([.int .i64 c.serial, .slice pi.ad c.ni pi.cap, .slice ps.ad c.ns ps.cap, .int .i64 c.fr, .int .i64 c.to] ++ ((kyL c.k pk) ++ ([.int .i64 c.alg] ++ ((exL c.x px) ++ ([.slice none 0 0])))))) := HM2
 replace HF := HF2
 replace HG := HG2
 clear HM2 HF2 HG2
 have a33 := (HM.out.a 33 _ rfl).1
 have HM1 := hide HM.out
 have HF1 := hide HF.out
 go_wp2_with (first | (refine wpList_st (by first | rfl | simp [Region.wanted, yielded]) 52 _ _ rfl _ rfl _ rfl _ hst ?_))
 refine (toBytesC m.g c.ng c.fg _ (HI.out.g.of_all HM1.out.ext) HS.out.g).mono ?_
 rintro e w5 ⟨pg, rfl, hS4, hEW⟩
 have Hy5 := hide (Below.size hEW)
 clear a33 hst
 replace HM : Hid (Mkg w w5 (ctL c m) [.int .i64 0, .slice none 0 0, .slice none 0 0, .int .i64 0, .int .i64 0, .int .i64 0, .slice none 0 0, .int .i64 0, .int .i64 0, .int .i64 0, .int .i64 0, .int .i64 0, .int .i64 0, .int .i64 0, .int .i64 0, .int .i64 0, .bool false, .int .i64 0, .int .i64 0, .int .i64 0, .int .i64 0, .int .i64 0, .int .i64 0, .int .i64 0, .int .i64 0, .bool false, .int .i64 0, .int .i64 0, .slice none 0 0, .slice none 0 0, .slice none 0 0, .slice none 0 0, .slice none 0 0, .slice none 0 0] ([.int .i64 c.serial, .slice pi.ad c.ni pi.cap, .slice ps.ad c.ns ps.cap, .int .i64 c.fr, .int .i64 c.to] ++ ((kyL c.k pk) ++ ([.int .i64 c.alg] ++ ((exL c.x px) ++ ([.slice none 0 0])))))) := hide (Mkg.later HM1.out hEW)
 replace HF := hide (later_and (later_ext HF1.out hEW) HG.out hS4)
 replace HG : Hid (V.heap.size ≤ w5.heap.size) := hide (Nat.le_trans HG.out (Below.size hEW))
 clear hS4 hEW HM1 HF1
 have o33 := (HM.out.o 33 _ rfl).1
 have f33 := (HM.out.o 33 _ rfl).2
 have HM1 := hide (Mkg.set HM.out 33 (.slice pg.ad c.ng pg.cap) (by simp [ctL, kyL, exL]))
 have HF1 := hide (later_set HF.out HN.out 33 (.slice pg.ad c.ng pg.cap))
 obtain ⟨V2, hV2⟩ : ∃ V2, (w5.setCell ⟨w.heap.size + 1 + 1, 33, none⟩ (.slice pg.ad c.ng pg.cap)) = V2 := ⟨_, rfl⟩
 have hM1 : Mkg w V2 (ctL c m) [.int .i64 0, .slice none 0 0, .slice none 0 0, .int .i64 0, .int .i64 0, .int .i64 0, .slice none 0 0, .int .i64 0, .int .i64 0, .int .i64 0, .int .i64 0, .int .i64 0, .int .i64 0, .int .i64 0, .int .i64 0, .int .i64 0, .bool false, .int .i64 0, .int .i64 0, .int .i64 0, .int .i64 0, .int .i64 0, .int .i64 0, .int .i64 0, .int .i64 0, .bool false, .int .i64 0, .int .i64 0, .slice none 0 0, .slice none 0 0, .slice none 0 0, .slice none 0 0, .slice none 0 0, .slice none 0 0] (ctL c ⟨pi, ps, pk, px, pg⟩) := hV2 ▸ HM1.out
 have HV2 := hide (show V2.heap.size = w5.heap.size by rw [← hV2]; simp [World.setCell])
 have hF1 := HF1.out
 rw [hV2] at hF1
 have hldE := run_ld (P := Tryz.prog) 54 (ctL c ⟨pi, ps, pk, px, pg⟩) V2 (by kernel_rfl) (by kernel_rfl) (w.heap.size + 1 + 1) 0 (Blk.ld hM1.o 0 _ (fun j v h => by rw [Nat.zero_add]; exact h))
 have hstE := run_st (P := Tryz.prog) 54 (ctL c ⟨pi, ps, pk, px, pg⟩) V2 (by kernel_rfl) (by simp [ctL, kyL, exL, Value.oneCell']) (w.heap.size + 1) 0 (Blk.st hM1.d 0 _ (by simp [ctL, kyL, exL]))
 have HB3 := hide (Blk.putAll1 hM1.d (vs := ctL c ⟨pi, ps, pk, px, pg⟩) rfl)
 have HX3 := hide (below_putL (Nat.le_succ _) (ctL c ⟨pi, ps, pk, px, pg⟩) 0 _ hM1.ext)
 have HF3 := hide (later_put hF1 (Nat.lt_of_succ_lt HN.out) 0 (ctL c ⟨pi, ps, pk, px, pg⟩))
 clear hM1 hF1 HM1 HF1 HM HF
 go_wp2_with (first | (refine wpList_ld (by first | rfl | simp [Region.wanted, yielded]) 54 _ rfl _ rfl _ hldE ?_) | (refine wpList_st (by first | rfl | simp [Region.wanted, yielded]) 54 _ _ rfl _ rfl _ rfl _ hstE ?_))
 refine bodyPost_ret (v := .agg (ctL c ⟨pi, ps, pk, px, pg⟩).toArray) (results_at Tryz.results7 rfl (run_ld (P := Tryz.prog) 54 (ctL c ⟨pi, ps, pk, px, pg⟩) _ (by kernel_rfl) (by kernel_rfl) (w.heap.size + 1) 0 (Blk.ld HB3.out 0 _ (fun j v h => by rw [Nat.zero_add]; exact h)))) rfl ?_
 have n2 : ∀ (W : World) (a : Addr) (v : Value), (W.setCell a v).heap.size = W.heap.size := fun W a v => by simp [World.setCell]
 have y1 := Hy1.out; have y2 := Hy2.out; have y3 := Hy3.out; have y4 := Hy4.out; have y5 := Hy5.out; have yv := HV2.out; have yn := HN.out; have y6 := Hk3.out; have y7 := Hk4.out
 simp only [n2] at y1 y2 y3 y4 y5
 refine ⟨⟨pi, ps, pk, px, pg⟩, rfl, fun w'' k => ?_, HX3.out⟩
 have h := HF3.out w'' (k.mono (Nat.le_of_lt (Nat.lt_of_le_of_lt (Nat.le_succ_of_le (Nat.le_succ _)) HN.out)))
 obtain ⟨⟨⟨⟨⟨-, h0, i0⟩, h1, i1⟩, h2, i2⟩, h3⟩, h4, i4⟩ := h
 simp only [n2] at i0 i1 i2 h3 i4
 rw [size_putL, yv]
 exact ctn_of (fun r => [V.heap.size, w1.heap.size, w2.heap.size, k3.heap.size, k4.heap.size].getD r 0) (fun r => [w1.heap.size, w2.heap.size, w3.heap.size, w4.heap.size, w5.heap.size].getD r 0) h0 h1 h2 h3 h4 i0 i1 i2 ⟨rfl, rfl⟩ i4
  (fun r r' hr hr' hne => by
   have e1 : r = 0 ∨ r = 1 ∨ r = 2 ∨ r = 3 ∨ r = 4 := by omega
   have e2 : r' = 0 ∨ r' = 1 ∨ r' = 2 ∨ r' = 3 ∨ r' = 4 := by omega
   rcases e1 with rfl | rfl | rfl | rfl | rfl <;> rcases e2 with rfl | rfl | rfl | rfl | rfl <;> first | exact absurd rfl hne | (simp; try omega))
  (fun r hr => by
   have e1 : r = 0 ∨ r = 1 ∨ r = 2 ∨ r = 3 ∨ r = 4 := by omega
   rcases e1 with rfl | rfl | rfl | rfl | rfl <;> (simp; try omega))
  (fun r hr => by
   have e1 : r = 0 ∨ r = 1 ∨ r = 2 ∨ r = 3 ∨ r = 4 := by omega
   rcases e1 with rfl | rfl | rfl | rfl | rfl <;> (simp; try omega))
end Go.Proofs.YtfhiiakoilkbkaaGreatDoor
