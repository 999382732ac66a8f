/- Lists of what is void in memory; the laws' own helpers over them (written by mkcrl.py). -/
import Derived.Test.YtgdjaapjdmancaaByK
namespace Go.Proofs.Ytgdjaapjdmancaa
set_option linter.unusedVariables false
set_option linter.unusedSimpArgs false
set_option maxRecDepth 100000
open Go.RowKit

/-- A list of what is void. -/
structure Cl where
  ni : Nat
  fi : Nat → ByteArray
  fr : Int
  to : Int
  alg : Int
  nv : Nat
  fv : Nat → Int
  ng : Nat
  fg : Nat → Int
/-- Where its lists lie. -/
structure ClPl where
  i : Plc
  v : Plc
  g : Plc
def clL (c : Cl) (m : ClPl) : List Value := [.slice m.i.ad c.ni m.i.cap, .int .i64 c.fr, .int .i64 c.to, .int .i64 c.alg, .slice m.v.ad c.nv m.v.cap, .slice m.g.ad c.ng m.g.cap]
structure ClIn (w : World) (c : Cl) (m : ClPl) : Prop where
  i : SSeg w m.i.ad m.i.b m.i.off c.ni c.fi
  v : Seg w m.v.ad m.v.b m.v.off c.nv c.fv
  g : BSeg w m.g.ad m.g.b m.g.off c.ng c.fg
theorem ClIn.ext {w w' : World} {c : Cl} {m : ClPl} (h : ClIn w c m) (e : Ext w w') : ClIn w' c m := ⟨h.i.of_all e, h.v.of_all e, h.g.of_all e⟩
/-- How great it is. -/
structure ClSm (c : Cl) (B : Nat) : Prop where
  i : c.ni ≤ B
  is : ∀ j, j < c.ni → (c.fi j).size ≤ B
  v : c.nv ≤ B
  g : c.ng ≤ B

set_option maxHeartbeats 6400000 in
set_option maxRecDepth 100000 in
theorem szCrl_any (c : Cl) (m : ClPl) (l : Int) (w : World) (hI : ClIn w c m) (hS : ClSm c 9223372036854775807) (l0 : 0 ≤ l) (l1 : l ≤ 1048576) :
    Calls Try.prog 4 #[.agg (clL c m).toArray, .int .i64 l] w fun e w' => (∃ z : Int, e = .returned (.int .i64 z) ∧ -1 ≤ z ∧ z ≤ l ∧ (0 ≤ z → ClSm c 1048576)) ∧ Ext w w' := by
  obtain ⟨V, hV⟩ : ∃ V, w.alloc (.cells (clL c m).toArray 26) = V := ⟨_, rfl⟩
  obtain ⟨B0, hE, -⟩ := box1 w (clL c m) 26 (w1 := V) (by rw [← hV]; exact Ext.refl _)
  have HB := hide B0
  have HE := hide hE
  have HI := hide (hI.ext hE)
  have HS := hide hS
  clear B0 hE hI hS
  have c0 := (HB.out 0 _ rfl).1
  have c1 := (HB.out 4 _ rfl).1
  have c2 := (HB.out 5 _ rfl).1
  go_enter Try.func4, Try.ntmps4
  go_wp2_with fail
  refine (szStringS_any m.i.ad m.i.b m.i.off c.ni m.i.cap c.fi l V ⟨HI.out.i, HS.out.i, HS.out.is⟩ (by omega) (by omega)).mono ?_
  rintro e W ⟨⟨z0, rfl, z00, z01, hz0⟩, hw⟩
  obtain rfl := hw.symm
  clear hw
  have Hz0 := hide hz0
  clear hz0
  by_cases h0 : z0 < 0
  · go_wp2
    go_ret
    exact ⟨⟨-1, rfl, by omega, by omega, fun h => by omega⟩, HE.out⟩
  go_wp2_with fail
  refine (szInts_any m.v.ad c.nv m.v.cap z0 V (by omega) (by omega) HS.out.v).mono ?_
  rintro e W ⟨⟨z1, rfl, z10, z11, hz1⟩, hw⟩
  obtain rfl := hw.symm
  clear hw
  have Hz1 := hide hz1
  clear hz1
  by_cases h1 : z1 < 0
  · go_wp2
    go_ret
    exact ⟨⟨-1, rfl, by omega, by omega, fun h => by omega⟩, HE.out⟩
  go_wp2_with fail
  refine (szBytes_any m.g.ad c.ng m.g.cap z1 V (by omega) (by omega) HS.out.g).mono ?_
  rintro e W ⟨⟨z2, rfl, z20, z21, hz2⟩, hw⟩
  obtain rfl := hw.symm
  clear hw
  have Hz2 := hide hz2
  clear hz2
  by_cases h2 : z2 < 0
  · go_wp2
    go_ret
    exact ⟨⟨-1, rfl, by omega, by omega, fun h => by omega⟩, HE.out⟩
  go_wp2
  go_ret
  exact ⟨⟨z2, rfl, by omega, by omega, fun _ => by have e0 := Hz0.out (by omega); have e1 := Hz1.out (by omega); have e2 := Hz2.out (by omega); exact ⟨by omega, fun i hi => by have := e0.2 i hi; omega, by omega, by omega⟩⟩, HE.out⟩

/-- A copied list. -/
def GivesCl (w : World) (c : Cl) (e : Ending) (w' : World) : Prop := ∃ m : ClPl, e = .returned (.agg (clL c m).toArray) ∧ (∀ w'', Kp w.heap.size w' w'' → ClIn w'' c m) ∧ Ext w w'

set_option maxHeartbeats 12800000 in
set_option maxRecDepth 100000 in
theorem toCrl_any (c : Cl) (m : ClPl) (w : World) (hI : ClIn w c m) (hS : ClSm c 1048576) :
    Calls Try.prog 6 #[.agg (clL c m).toArray] w fun e w' => GivesCl w c e w' := by
  obtain ⟨V, hV⟩ : ∃ V, ((w.alloc (.cells (clL c m).toArray 26)).alloc (.cells #[.slice none 0 0, .int .i64 0, .int .i64 0, .int .i64 0, .slice none 0 0, .slice none 0 0] 29)).alloc (.cells #[.slice none 0 0, .int .i64 0, .int .i64 0, .int .i64 0, .slice none 0 0, .slice none 0 0] 29) = V := ⟨_, rfl⟩
  have HM := hide (mkg_start w (clL c m) [.slice none 0 0, .int .i64 0, .int .i64 0, .int .i64 0, .slice none 0 0, .slice none 0 0] [.slice none 0 0, .int .i64 0, .int .i64 0, .int .i64 0, .slice none 0 0, .slice none 0 0] 26 29 29 hV)
  have HN : Hid (w.heap.size + 1 + 1 < V.heap.size) := hide HM.out.lt
  have HI := hide hI
  have HS := hide hS
  clear hI hS
  have HF : Hid (∀ w'', Kp V.heap.size V w'' → True) := hide (fun _ _ => trivial)
  have HG : Hid (V.heap.size ≤ V.heap.size) := hide (Nat.le_refl _)
  have a0 := (HM.out.a 0 _ rfl).1
  have HM1 := hide HM.out
  have HF1 := hide HF.out
  go_enter Try.func6, Try.ntmps6
  go_wp2_with fail
  refine (toStrs_kp m.i c.ni c.fi _ (HI.out.i.of_all HM1.out.ext) HS.out.i).mono ?_
  rintro e w1 ⟨pi, rfl, hS0, hEW⟩
  clear a0
  replace HM : Hid (Mkg w w1 (clL c m) [.slice none 0 0, .int .i64 0, .int .i64 0, .int .i64 0, .slice none 0 0, .slice none 0 0] [.slice none 0 0, .int .i64 0, .int .i64 0, .int .i64 0, .slice none 0 0, .slice none 0 0]) := hide (Mkg.later HM1.out hEW)
  replace HF := hide (later_and (later_ext HF1.out hEW) HG.out hS0)
  replace HG : Hid (V.heap.size ≤ w1.heap.size) := hide (Nat.le_trans HG.out (Below.size hEW))
  clear hS0 hEW HM1 HF1
  have a1 := (HM.out.a 1 _ rfl).1
  have a2 := (HM.out.a 2 _ rfl).1
  have a3 := (HM.out.a 3 _ rfl).1
  have a4 := (HM.out.a 4 _ rfl).1
  have o0 := (HM.out.o 0 _ rfl).1
  have f0 := (HM.out.o 0 _ rfl).2
  have o1 := (HM.out.o 1 _ rfl).1
  have f1 := (HM.out.o 1 _ rfl).2
  have o2 := (HM.out.o 2 _ rfl).1
  have f2 := (HM.out.o 2 _ rfl).2
  have o3 := (HM.out.o 3 _ rfl).1
  have f3 := (HM.out.o 3 _ rfl).2
  have HM1 := hide (Mkg.set (Mkg.set (Mkg.set (Mkg.set HM.out 0 (.slice pi.ad c.ni pi.cap) (by simp [clL])) 1 (.int .i64 c.fr) (by simp [clL])) 2 (.int .i64 c.to) (by simp [clL])) 3 (.int .i64 c.alg) (by simp [clL]))
  have HF1 := hide (later_set (later_set (later_set (later_set HF.out HN.out 0 (.slice pi.ad c.ni pi.cap)) HN.out 1 (.int .i64 c.fr)) HN.out 2 (.int .i64 c.to)) HN.out 3 (.int .i64 c.alg))
  have HL1 : Hid (w1.heap.size ≤ ((((w1.setCell ⟨w.heap.size + 1 + 1, 0, none⟩ (.slice pi.ad c.ni pi.cap)).setCell ⟨w.heap.size + 1 + 1, 1, none⟩ (.int .i64 c.fr)).setCell ⟨w.heap.size + 1 + 1, 2, none⟩ (.int .i64 c.to)).setCell ⟨w.heap.size + 1 + 1, 3, none⟩ (.int .i64 c.alg)).heap.size ∧ 0 < w1.heap.size + 1) := hide ⟨Nat.le_of_eq (by first | rfl | simp [World.setCell, size_putL]), Nat.succ_pos _⟩
  go_wp2_with fail
  refine (toInts_kp m.v c.nv c.fv _ (HI.out.v.of_all HM1.out.ext) HS.out.v).mono ?_
  rintro e w2 ⟨pv, rfl, hS1, hEW⟩
  clear a1 a2 a3 a4 o0 f0 o1 f1 o2 f2 o3 f3
  replace HM : Hid (Mkg w w2 (clL c m) [.slice none 0 0, .int .i64 0, .int .i64 0, .int .i64 0, .slice none 0 0, .slice none 0 0] [.slice pi.ad c.ni pi.cap, .int .i64 c.fr, .int .i64 c.to, .int .i64 c.alg, .slice none 0 0, .slice none 0 0]) := hide (Mkg.later HM1.out hEW)
  replace HF := hide (later_and (later_ext HF1.out hEW) (Nat.le_trans HG.out HL1.out.1) hS1)
  replace HG : Hid (V.heap.size ≤ w2.heap.size) := hide (Nat.le_trans HG.out (Nat.le_trans HL1.out.1 (Below.size hEW)))
  clear hS1 hEW HM1 HF1 HL1
  have a5 := (HM.out.a 5 _ rfl).1
  have o4 := (HM.out.o 4 _ rfl).1
  have f4 := (HM.out.o 4 _ rfl).2
  have HM1 := hide (Mkg.set HM.out 4 (.slice pv.ad c.nv pv.cap) (by simp [clL]))
  have HF1 := hide (later_set HF.out HN.out 4 (.slice pv.ad c.nv pv.cap))
  have HL1 : Hid (w2.heap.size ≤ (w2.setCell ⟨w.heap.size + 1 + 1, 4, none⟩ (.slice pv.ad c.nv pv.cap)).heap.size ∧ 0 < w2.heap.size + 1) := hide ⟨Nat.le_of_eq (by first | rfl | simp [World.setCell, size_putL]), Nat.succ_pos _⟩
  go_wp2_with fail
  refine (toBytes_kp m.g c.ng c.fg _ (HI.out.g.of_all HM1.out.ext) HS.out.g).mono ?_
  rintro e w3 ⟨pg, rfl, hS2, hEW⟩
  clear a5 o4 f4
  replace HM : Hid (Mkg w w3 (clL c m) [.slice none 0 0, .int .i64 0, .int .i64 0, .int .i64 0, .slice none 0 0, .slice none 0 0] [.slice pi.ad c.ni pi.cap, .int .i64 c.fr, .int .i64 c.to, .int .i64 c.alg, .slice pv.ad c.nv pv.cap, .slice none 0 0]) := hide (Mkg.later HM1.out hEW)
  replace HF := hide (later_and (later_ext HF1.out hEW) (Nat.le_trans HG.out HL1.out.1) hS2)
  replace HG : Hid (V.heap.size ≤ w3.heap.size) := hide (Nat.le_trans HG.out (Nat.le_trans HL1.out.1 (Below.size hEW)))
  clear hS2 hEW HM1 HF1 HL1
  have o5 := (HM.out.o 5 _ rfl).1
  have f5 := (HM.out.o 5 _ rfl).2
  have HM1 := hide (Mkg.set HM.out 5 (.slice pg.ad c.ng pg.cap) (by simp [clL]))
  have HF1 := hide (later_set HF.out HN.out 5 (.slice pg.ad c.ng pg.cap))
  obtain ⟨V2, hV2⟩ : ∃ V2, (w3.setCell ⟨w.heap.size + 1 + 1, 5, none⟩ (.slice pg.ad c.ng pg.cap)) = V2 := ⟨_, rfl⟩
  have hM1 : Mkg w V2 (clL c m) [.slice none 0 0, .int .i64 0, .int .i64 0, .int .i64 0, .slice none 0 0, .slice none 0 0] (clL c ⟨pi, pv, pg⟩) := hV2 ▸ HM1.out
  have hF1 := HF1.out
  rw [hV2] at hF1
  have hldE := run_ld (P := Try.prog) 29 (clL c ⟨pi, pv, pg⟩) V2 (by kernel_rfl) (by kernel_rfl) (w.heap.size + 1 + 1) 0 (Blk.ld hM1.o 0 _ (fun j v h => by rw [Nat.zero_add]; exact h))
  have hstE := run_st (P := Try.prog) 29 (clL c ⟨pi, pv, pg⟩) V2 (by kernel_rfl) (by simp [clL, Value.oneCell']) (w.heap.size + 1) 0 (Blk.st hM1.d 0 _ (by simp [clL]))
  have HB3 := hide (Blk.putAll1 hM1.d (vs := clL c ⟨pi, pv, pg⟩) rfl)
  have HX3 := hide (below_putL (Nat.le_succ _) (clL c ⟨pi, pv, pg⟩) 0 _ hM1.ext)
  have HF3 := hide (later_put hF1 (Nat.lt_of_succ_lt HN.out) 0 (clL c ⟨pi, pv, pg⟩))
  clear hM1 hF1 HM1 HF1 HM HF
  go_wp2_with (first | (refine wpList_ld (by first | rfl | simp [Region.wanted, yielded]) 29 _ rfl _ rfl _ hldE ?_) | (refine wpList_st (by first | rfl | simp [Region.wanted, yielded]) 29 _ _ rfl _ rfl _ rfl _ hstE ?_))
  refine bodyPost_ret (v := .agg (clL c ⟨pi, pv, pg⟩).toArray) (results_at Try.results6 rfl (run_ld (P := Try.prog) 29 (clL c ⟨pi, pv, pg⟩) _ (by kernel_rfl) (by kernel_rfl) (w.heap.size + 1) 0 (Blk.ld HB3.out 0 _ (fun j v h => by rw [Nat.zero_add]; exact h)))) rfl ?_
  exact ⟨⟨pi, pv, pg⟩, rfl, fun w'' k => by have h := HF3.out w'' (k.mono (Nat.le_of_lt (Nat.lt_of_le_of_lt (Nat.le_succ_of_le (Nat.le_succ _)) HN.out))); exact ⟨h.1.1.2, h.1.2, h.2⟩, HX3.out⟩

set_option maxHeartbeats 12800000 in
set_option maxRecDepth 100000 in
theorem eqCrl_same (c : Cl) (m m2 : ClPl) (w : World) (hI : ClIn w c m) (hJ : ClIn w c m2) (hS : ClSm c 1048576) :
    Calls Try.prog 8 #[.agg (clL c m).toArray, .agg (clL c m2).toArray] w fun e w' => e = .returned (.bool true) ∧ Ext w w' := by
  obtain ⟨V, hV⟩ : ∃ V, (w.alloc (.cells (clL c m).toArray 29)).alloc (.cells (clL c m2).toArray 29) = V := ⟨_, rfl⟩
  obtain ⟨B0, B1, hE, -⟩ := box2 w (clL c m) (clL c m2) 29 29 (w1 := V) (by rw [← hV]; exact Ext.refl _)
  have HA := hide B0
  have HB := hide B1
  have HE := hide hE
  have HI := hide (hI.ext hE)
  have HJ := hide (hJ.ext hE)
  have HS := hide hS
  clear B0 B1 hE hI hJ hS
  have a1 := (HA.out 1 _ rfl).1
  have b1 := (HB.out 1 _ rfl).1
  have n1 : (c.fr != c.fr) = false := by simp
  have a2 := (HA.out 2 _ rfl).1
  have b2 := (HB.out 2 _ rfl).1
  have n2 : (c.to != c.to) = false := by simp
  have a3 := (HA.out 3 _ rfl).1
  have b3 := (HB.out 3 _ rfl).1
  have n3 : (c.alg != c.alg) = false := by simp
  go_enter Try.func8, Try.ntmps8
  have a0 := (HA.out 0 _ rfl).1
  have b0 := (HB.out 0 _ rfl).1
  go_wp2_with fail
  refine (eqStringS_same m.i.ad m.i.b m.i.off c.ni m.i.cap c.fi m2.i.ad m2.i.b m2.i.off m2.i.cap V HI.out.i HJ.out.i HS.out.i).mono ?_
  rintro e w0 ⟨rfl, hEW⟩
  replace HA := hide (Blk.ext HA.out hEW (Blk.lt HA.out (by simp [clL])))
  replace HB := hide (Blk.ext HB.out hEW (Blk.lt HB.out (by simp [clL])))
  replace HI := hide (HI.out.ext hEW)
  replace HJ := hide (HJ.out.ext hEW)
  replace HE := hide (Ext.trans HE.out hEW)
  clear hEW a0 b0
  replace a1 := (HA.out 1 _ rfl).1
  replace b1 := (HB.out 1 _ rfl).1
  replace a2 := (HA.out 2 _ rfl).1
  replace b2 := (HB.out 2 _ rfl).1
  replace a3 := (HA.out 3 _ rfl).1
  replace b3 := (HB.out 3 _ rfl).1
  have a4 := (HA.out 4 _ rfl).1
  have b4 := (HB.out 4 _ rfl).1
  go_wp2_with fail
  refine (eqInts_same m.v m2.v c.nv c.fv w0 HI.out.v HJ.out.v HS.out.v).mono ?_
  rintro e w4 ⟨rfl, hEW⟩
  replace HA := hide (Blk.ext HA.out hEW (Blk.lt HA.out (by simp [clL])))
  replace HB := hide (Blk.ext HB.out hEW (Blk.lt HB.out (by simp [clL])))
  replace HI := hide (HI.out.ext hEW)
  replace HJ := hide (HJ.out.ext hEW)
  replace HE := hide (Ext.trans HE.out hEW)
  clear hEW a4 b4
  clear a1 b1 n1
  clear a2 b2 n2
  clear a3 b3 n3
  have a5 := (HA.out 5 _ rfl).1
  have b5 := (HB.out 5 _ rfl).1
  go_wp2_with fail
  refine (eqBytes_same m.g m2.g c.ng c.fg w4 HI.out.g HJ.out.g HS.out.g).mono ?_
  rintro e w5 ⟨rfl, hEW⟩
  replace HA := hide (Blk.ext HA.out hEW (Blk.lt HA.out (by simp [clL])))
  replace HB := hide (Blk.ext HB.out hEW (Blk.lt HB.out (by simp [clL])))
  replace HI := hide (HI.out.ext hEW)
  replace HJ := hide (HJ.out.ext hEW)
  replace HE := hide (Ext.trans HE.out hEW)
  clear hEW a5 b5
  go_wp2
  go_ret
  exact ⟨rfl, HE.out⟩

end Go.Proofs.Ytgdjaapjdmancaa
