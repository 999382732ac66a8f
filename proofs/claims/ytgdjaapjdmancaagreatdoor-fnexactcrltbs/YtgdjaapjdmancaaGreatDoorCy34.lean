/- Walks: a copy of a list of what is void whose lists are one's own; its marks (written by mkclw.py). -/
import Derived.Test.YtgdjaapjdmancaaGreatDoorCy17
import Derived.Test.YtgdjaapjdmancaaGreatDoorCy20
import Derived.Test.YtgdjaapjdmancaaGreatDoorCy29
import Derived.Test.YtgdjaapjdmancaaGreatDoorCy33
namespace Go.Proofs.YtgdjaapjdmancaaGreatDoor

section
set_option linter.unusedVariables false
set_option linter.unusedSimpArgs false
set_option maxRecDepth 100000

open Go.RowKit

/-- A list of what is void whose lists are one's own, in blocks from S up to T. -/
structure ClOw (S T : Nat) (w : World) (c : Cl) (m : ClPl) : Prop where
  in' : ClIn w c m
  i : SAny w m.i.ad m.i.b m.i.off c.ni
  v : Own w m.v.ad m.v.b m.v.off c.nv c.fv
  g : BOwn w m.g.ad m.g.b m.g.off c.ng c.fg
  b0 : S ≤ m.i.b
  b1 : m.i.b < m.v.b
  b2 : m.v.b < m.g.b
  b3 : m.g.b < T

theorem ClOw.ext {S T : Nat} {w w' : World} {c : Cl} {m : ClPl} (h : ClOw S T w c m) (e : Ext w w') : ClOw S T w' c m := ⟨h.in'.ext e, h.i.of_all e, h.v.of_all e, h.g.of_all e, h.b0, h.b1, h.b2, h.b3⟩

set_option maxHeartbeats 12800000 in
set_option maxRecDepth 100000 in
theorem toCrlO_any (c : Cl) (m : ClPl) (w : World) (hI : ClIn w c m) (hS : ClSm c 1048576) :
    Calls Tryz.prog 7 #[.agg (clL c m).toArray] w fun e w' => ∃ p : ClPl, e = .returned (.agg (clL c p).toArray) ∧ ClOw w.heap.size w'.heap.size w' c p ∧ Ext w w' := by
  obtain ⟨V, hV⟩ : ∃ V, ((w.alloc (.cells (clL c m).toArray 26)).alloc (.cells #[.slice none 0 0, .int .i64 0, .int .i64 0, .int .i64 0, .slice none 0 0, .slice none 0 0] 30)).alloc (.cells #[.slice none 0 0, .int .i64 0, .int .i64 0, .int .i64 0, .slice none 0 0, .slice none 0 0] 30) = V := ⟨_, rfl⟩
  have HM := hide (mkg_start w (clL c m) [.slice none 0 0, .int .i64 0, .int .i64 0, .int .i64 0, .slice none 0 0, .slice none 0 0] [.slice none 0 0, .int .i64 0, .int .i64 0, .int .i64 0, .slice none 0 0, .slice none 0 0] 26 30 30 hV)
  have HN : Hid (w.heap.size + 1 + 1 < V.heap.size) := hide HM.out.lt
  have HI := hide hI
  have HS := hide hS
  clear hI hS
  have HF : Hid (∀ w'', Kp V.heap.size V w'' → True) := hide (fun _ _ => trivial)
  have HG : Hid (V.heap.size ≤ V.heap.size) := hide (Nat.le_refl _)
  have a0 := (HM.out.a 0 _ rfl).1
  have HM1 := hide HM.out
  have HF1 := hide HF.out
  go_enter Tryz.func7, Tryz.ntmps7
  go_wp2_with fail
  refine (toStrs_kpO m.i c.ni c.fi _ (HI.out.i.of_all HM1.out.ext) HS.out.i).mono ?_
  rintro e w1 ⟨pi, rfl, hS0, hEW⟩
  clear a0
  replace HM : Hid (Mkg w w1 (clL c m) [.slice none 0 0, .int .i64 0, .int .i64 0, .int .i64 0, .slice none 0 0, .slice none 0 0] [.slice none 0 0, .int .i64 0, .int .i64 0, .int .i64 0, .slice none 0 0, .slice none 0 0]) := hide (Mkg.later HM1.out hEW)
  replace HF := hide (later_and (later_ext HF1.out hEW) HG.out hS0)
  replace HG : Hid (V.heap.size ≤ w1.heap.size) := hide (Nat.le_trans HG.out (Below.size hEW))
  clear hS0 hEW HM1 HF1
  have a1 := (HM.out.a 1 _ rfl).1
  have a2 := (HM.out.a 2 _ rfl).1
  have a3 := (HM.out.a 3 _ rfl).1
  have a4 := (HM.out.a 4 _ rfl).1
  have o0 := (HM.out.o 0 _ rfl).1
  have f0 := (HM.out.o 0 _ rfl).2
  have o1 := (HM.out.o 1 _ rfl).1
  have f1 := (HM.out.o 1 _ rfl).2
  have o2 := (HM.out.o 2 _ rfl).1
  have f2 := (HM.out.o 2 _ rfl).2
  have o3 := (HM.out.o 3 _ rfl).1
  have f3 := (HM.out.o 3 _ rfl).2
  have HM1 := hide (Mkg.set (Mkg.set (Mkg.set (Mkg.set HM.out 0 (.slice pi.ad c.ni pi.cap) (by simp [clL])) 1 (.int .i64 c.fr) (by simp [clL])) 2 (.int .i64 c.to) (by simp [clL])) 3 (.int .i64 c.alg) (by simp [clL]))
  have HF1 := hide (later_set (later_set (later_set (later_set HF.out HN.out 0 (.slice pi.ad c.ni pi.cap)) HN.out 1 (.int .i64 c.fr)) HN.out 2 (.int .i64 c.to)) HN.out 3 (.int .i64 c.alg))
  have HL1 : Hid (w1.heap.size ≤ ((((w1.setCell ⟨w.heap.size + 1 + 1, 0, none⟩ (.slice pi.ad c.ni pi.cap)).setCell ⟨w.heap.size + 1 + 1, 1, none⟩ (.int .i64 c.fr)).setCell ⟨w.heap.size + 1 + 1, 2, none⟩ (.int .i64 c.to)).setCell ⟨w.heap.size + 1 + 1, 3, none⟩ (.int .i64 c.alg)).heap.size ∧ 0 < w1.heap.size + 1) := hide ⟨Nat.le_of_eq (by first | rfl | simp [World.setCell, size_putL]), Nat.succ_pos _⟩
  go_wp2_with fail
  refine (toInts_kpO m.v c.nv c.fv _ (HI.out.v.of_all HM1.out.ext) HS.out.v).mono ?_
  rintro e w2 ⟨pv, rfl, hS1, hEW⟩
  clear a1 a2 a3 a4 o0 f0 o1 f1 o2 f2 o3 f3
  replace HM : Hid (Mkg w w2 (clL c m) [.slice none 0 0, .int .i64 0, .int .i64 0, .int .i64 0, .slice none 0 0, .slice none 0 0] [.slice pi.ad c.ni pi.cap, .int .i64 c.fr, .int .i64 c.to, .int .i64 c.alg, .slice none 0 0, .slice none 0 0]) := hide (Mkg.later HM1.out hEW)
  replace HF := hide (later_and (later_ext HF1.out hEW) (Nat.le_trans HG.out HL1.out.1) hS1)
  replace HG : Hid (V.heap.size ≤ w2.heap.size) := hide (Nat.le_trans HG.out (Nat.le_trans HL1.out.1 (Below.size hEW)))
  clear hS1 hEW HM1 HF1 HL1
  have a5 := (HM.out.a 5 _ rfl).1
  have o4 := (HM.out.o 4 _ rfl).1
  have f4 := (HM.out.o 4 _ rfl).2
  have HM1 := hide (Mkg.set HM.out 4 (.slice pv.ad c.nv pv.cap) (by simp [clL]))
  have HF1 := hide (later_set HF.out HN.out 4 (.slice pv.ad c.nv pv.cap))
  have HL1 : Hid (w2.heap.size ≤ (w2.setCell ⟨w.heap.size + 1 + 1, 4, none⟩ (.slice pv.ad c.nv pv.cap)).heap.size ∧ 0 < w2.heap.size + 1) := hide ⟨Nat.le_of_eq (by first | rfl | simp [World.setCell, size_putL]), Nat.succ_pos _⟩
  go_wp2_with fail
  refine (toBytes_kpO m.g c.ng c.fg _ (HI.out.g.of_all HM1.out.ext) HS.out.g).mono ?_
  rintro e w3 ⟨pg, rfl, hS2, hEW⟩
  clear a5 o4 f4
  replace HM : Hid (Mkg w w3 (clL c m) [.slice none 0 0, .int .i64 0, .int .i64 0, .int .i64 0, .slice none 0 0, .slice none 0 0] [.slice pi.ad c.ni pi.cap, .int .i64 c.fr, .int .i64 c.to, .int .i64 c.alg, .slice pv.ad c.nv pv.cap, .slice none 0 0]) := hide (Mkg.later HM1.out hEW)
  replace HF := hide (later_and (later_ext HF1.out hEW) (Nat.le_trans HG.out HL1.out.1) hS2)
  replace HG : Hid (V.heap.size ≤ w3.heap.size) := hide (Nat.le_trans HG.out (Nat.le_trans HL1.out.1 (Below.size hEW)))
  clear hS2 hEW HM1 HF1 HL1
  have o5 := (HM.out.o 5 _ rfl).1
  have f5 := (HM.out.o 5 _ rfl).2
  have HM1 := hide (Mkg.set HM.out 5 (.slice pg.ad c.ng pg.cap) (by simp [clL]))
  have HF1 := hide (later_set HF.out HN.out 5 (.slice pg.ad c.ng pg.cap))
  obtain ⟨V2, hV2⟩ : ∃ V2, (w3.setCell ⟨w.heap.size + 1 + 1, 5, none⟩ (.slice pg.ad c.ng pg.cap)) = V2 := ⟨_, rfl⟩
  have hM1 : Mkg w V2 (clL c m) [.slice none 0 0, .int .i64 0, .int .i64 0, .int .i64 0, .slice none 0 0, .slice none 0 0] (clL c ⟨pi, pv, pg⟩) := hV2 ▸ HM1.out
  have hF1 := HF1.out
  rw [hV2] at hF1
  have hldE := run_ld (P := Tryz.prog) 30 (clL c ⟨pi, pv, pg⟩) V2 (by kernel_rfl) (by kernel_rfl) (w.heap.size + 1 + 1) 0 (Blk.ld hM1.o 0 _ (fun j v h => by rw [Nat.zero_add]; exact h))
  have hstE := run_st (P := Tryz.prog) 30 (clL c ⟨pi, pv, pg⟩) V2 (by kernel_rfl) (by simp [clL, Value.oneCell']) (w.heap.size + 1) 0 (Blk.st hM1.d 0 _ (by simp [clL]))
  have HB3 := hide (Blk.putAll1 hM1.d (vs := clL c ⟨pi, pv, pg⟩) rfl)
  have HX3 := hide (below_putL (Nat.le_succ _) (clL c ⟨pi, pv, pg⟩) 0 _ hM1.ext)
  have HF3 := hide (later_put hF1 (Nat.lt_of_succ_lt HN.out) 0 (clL c ⟨pi, pv, pg⟩))
  clear hM1 hF1 HM1 HF1 HM HF
  go_wp2_with (first | (refine wpList_ld (by first | rfl | simp [Region.wanted, yielded]) 30 _ rfl _ rfl _ hldE ?_) | (refine wpList_st (by first | rfl | simp [Region.wanted, yielded]) 30 _ _ rfl _ rfl _ rfl _ hstE ?_))
  refine bodyPost_ret (v := .agg (clL c ⟨pi, pv, pg⟩).toArray) (results_at Tryz.results7 rfl (run_ld (P := Tryz.prog) 30 (clL c ⟨pi, pv, pg⟩) _ (by kernel_rfl) (by kernel_rfl) (w.heap.size + 1) 0 (Blk.ld HB3.out 0 _ (fun j v h => by rw [Nat.zero_add]; exact h)))) rfl ?_
  have hf := HF3.out _ (Kp.refl _ _)
  have n1 := HN.out
  have n2 : ∀ (W : World) (a : Addr) (v : Value), (W.setCell a v).heap.size = W.heap.size := fun W a v => by simp [World.setCell]
  obtain ⟨⟨⟨-, ⟨s1, y1⟩, l1, u1⟩, ⟨s2, y2⟩, l2, u2⟩, ⟨s3, y3⟩, l3, u3⟩ := hf
  rw [← hV2] at *
  simp only [n2, size_putL] at *
  exact ⟨⟨pi, pv, pg⟩, rfl, ⟨⟨s1, s2, s3⟩, y1, y2, y3, Nat.le_trans (by omega) l1, Nat.lt_of_lt_of_le u1 l2, Nat.lt_of_lt_of_le u2 l3, u3⟩, HX3.out⟩

set_option maxHeartbeats 3200000 in
theorem markCrl_any (c : Cl) (m : ClPl) (S T : Nat) (w : World) (h : ClOw S T w c m) (hT : T ≤ w.heap.size) (hS : ClSm c 1048576) :
    Calls Tryz.prog 11 #[.agg (clL c m).toArray, .int .i64 1] w fun e w' => (∃ z : Int, e = .returned (.int .i64 z) ∧ 0 ≤ z) ∧ Mkw S T w w' := by
  obtain ⟨V, hV⟩ : ∃ V, w.alloc (.cells (clL c m).toArray 30) = V := ⟨_, rfl⟩
  obtain ⟨B0, hE, -⟩ := box1 w (clL c m) 30 (w1 := V) (by rw [← hV]; exact Ext.refl _)
  have hlt := Blk.lt B0 (by simp [clL])
  have hsz := Below.size hE
  have HH := hide h
  have HM1 := hide (markStringS_any m.i.ad m.i.b m.i.off c.ni m.i.cap 1 m.i.b (m.i.b + 1) V (h.i.of_all hE) (Nat.le_refl _) (Nat.lt_succ_self _) hS.i (by omega) (by omega))
  have HM2 : Hid (∀ W, Mkw m.i.b (m.i.b + 1) V W → Calls Tryz.prog 31 #[.slice m.v.ad c.nv m.v.cap, .int .i64 (1 + (c.ni : Int))] W fun e w' => e = .returned (.int .i64 (1 + (c.ni : Int) + c.nv)) ∧ Touch m.v.b W w') := fun W hW => (markIntS_any m.v.ad m.v.b m.v.off c.nv m.v.cap c.fv (1 + (c.ni : Int)) W (Own.of_blk (h.v.of_all hE) (fun h0 => hW.same _ (by have := (h.v.of_all hE).lt h0; omega) (.inr (by have := h.b1; omega)))) hS.v (by omega) (by have := hS.i; omega)).mono fun e w' ⟨h1, _, h3⟩ => ⟨h1, h3⟩
  have HM3 : Hid (∀ W W2, Mkw m.i.b (m.i.b + 1) V W → Touch m.v.b W W2 → Calls Tryz.prog 12 #[.slice m.g.ad c.ng m.g.cap, .int .i64 (1 + (c.ni : Int) + c.nv)] W2 fun e w' => e = .returned (.int .i64 (1 + (c.ni : Int) + c.nv + c.ng)) ∧ Touch m.g.b W2 w') := fun W W2 hW hW2 => (markByteS_any m.g.ad m.g.b m.g.off c.ng m.g.cap c.fg (1 + (c.ni : Int) + c.nv) W2 (BOwn.of_blk (h.g.of_all hE) (fun h0 => ((hW2.grown.block _ (Nat.lt_of_lt_of_le ((h.g.of_all hE).lt h0) hW.size) (by have := h.b2; simp; omega)).trans (hW.same _ ((h.g.of_all hE).lt h0) (.inr (by have := h.b1; have := h.b2; omega)))))) hS.g (by omega) (by have := hS.i; have := hS.v; omega)).mono fun e w' ⟨h1, _, h3⟩ => ⟨h1, h3⟩
  have HW1 : Hid (∀ W, Mkw m.i.b (m.i.b + 1) V W → Mkw S T w W) := fun W hW => (Mkw.of_ext hE).trans ⟨hW.os, hW.tape, hW.output, hW.size, fun q k1 k2 => hW.same q k1 (by have := h.b0; have := h.b1; have := h.b2; have := h.b3; omega)⟩
  have HBk := hide B0
  have HlV := hide hlt
  have HwB : Hid (m.i.b + 1 ≤ w.heap.size ∧ m.v.b < w.heap.size ∧ m.g.b < w.heap.size) := hide (by have := h.b1; have := h.b2; have := h.b3; omega)
  have HT1 : Hid (S ≤ m.v.b ∧ m.v.b < T ∧ S ≤ m.g.b ∧ m.g.b < T) := hide (by have := h.b0; have := h.b1; have := h.b2; have := h.b3; omega)
  have W1 : Hid (0 ≤ 1 + (c.ni : Int) + c.nv + c.ng) := hide (by omega)
  clear h hS hE B0 hlt hsz hT
  have c0 := (HBk.out 0 _ rfl).1
  go_enter Tryz.func11, Tryz.ntmps11
  go_wp2_with fail
  refine HM1.out.mono ?_
  rintro e w1 ⟨rfl, hm1⟩
  have Hm1 := hide hm1
  replace HBk := hide (HBk.out.of_heap (hm1.same _ HlV.out (.inr HwB.out.1)))
  clear hm1 c0 HM1
  have c4 := (HBk.out 4 _ rfl).1
  go_wp2_with fail
  refine (HM2.out _ Hm1.out).mono ?_
  rintro e w2 ⟨rfl, ht2⟩
  have Ht2 := hide ht2
  replace HBk := hide (HBk.out.of_heap (ht2.grown.block _ (Nat.lt_of_lt_of_le HlV.out Hm1.out.size) (by have := HwB.out.2.1; simp; omega)))
  clear ht2 c4 HM2
  have c5 := (HBk.out 5 _ rfl).1
  go_wp2_with fail
  refine (HM3.out _ _ Hm1.out Ht2.out).mono ?_
  rintro e w3 ⟨rfl, ht3⟩
  have Ht3 := hide ht3
  clear ht3 c5 HM3
  go_wp2
  go_ret
  exact ⟨⟨_, rfl, W1.out⟩, (HW1.out _ Hm1.out).trans ((Mkw.of_touch Ht2.out HT1.out.1 HT1.out.2.1).trans (Mkw.of_touch Ht3.out HT1.out.2.2.1 HT1.out.2.2.2))⟩
end

end Go.Proofs.YtgdjaapjdmancaaGreatDoor
