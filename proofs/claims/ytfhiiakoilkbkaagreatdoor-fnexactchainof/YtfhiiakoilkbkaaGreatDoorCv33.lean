/- Certificates in memory; the laws' own helpers over them (written by mkcrt.py). -/
import Derived.Test.YtfhiiakoilkbkaaGreatDoorCv30
import Derived.Test.YtfhiiakoilkbkaaGreatDoorCv32
namespace Go.Proofs.YtfhiiakoilkbkaaGreatDoor
set_option linter.unusedVariables false
set_option linter.unusedSimpArgs false
set_option maxRecDepth 100000
open Go.RowKit
def kyL (k : Ky) (p : Plc) : List Value := [.int .i64 k.kind, .slice p.ad k.n p.cap, .int .i64 k.e, .int .i64 k.cP, .int .i64 k.cA, .int .i64 k.cB, .int .i64 k.cN, .int .i64 k.cX, .int .i64 k.cY, .int .i64 k.q.x, .int .i64 k.q.y, .bool k.q.far, .int .i64 k.dP, .int .i64 k.dD, .int .i64 k.dL, .int .i64 k.dX, .int .i64 k.dY, .int .i64 k.a.x, .int .i64 k.a.y]
structure Ct where
 serial : Int
 ni : Nat
 fi : Nat → ByteArray
 ns : Nat
 fs : Nat → ByteArray
 fr : Int
 to : Int
 k : Ky
 alg : Int
 x : Ex
 ng : Nat
 fg : Nat → Int
structure CtPl where
 i : Plc
 s : Plc
 k : Plc
 x : ExPl
 g : Plc
def ctL (c : Ct) (m : CtPl) : List Value := [.int .i64 c.serial, .slice m.i.ad c.ni m.i.cap, .slice m.s.ad c.ns m.s.cap, .int .i64 c.fr, .int .i64 c.to] ++ (kyL c.k m.k ++ ([.int .i64 c.alg] ++ (exL c.x m.x ++ [.slice m.g.ad c.ng m.g.cap])))
structure CtIn (w : World) (c : Ct) (m : CtPl) : Prop where
 i : SSeg w m.i.ad m.i.b m.i.off c.ni c.fi
 s : SSeg w m.s.ad m.s.b m.s.off c.ns c.fs
 k : Seg w m.k.ad m.k.b m.k.off c.k.n c.k.f
 x : ExIn w c.x m.x
 g : BSeg w m.g.ad m.g.b m.g.off c.ng c.fg
theorem CtIn.ext {w w' : World} {c : Ct} {m : CtPl} (h : CtIn w c m) (e : Ext w w') : CtIn w' c m := ⟨h.i.of_all e, h.s.of_all e, h.k.of_all e, h.x.ext e, h.g.of_all e⟩
structure CtSm (c : Ct) (B : Nat) : Prop where
 i : c.ni ≤ B
 is : ∀ j, j < c.ni → (c.fi j).size ≤ B
 s : c.ns ≤ B
 ss : ∀ j, j < c.ns → (c.fs j).size ≤ B
 k : c.k.n ≤ B
 x : ExSm c.x B
 g : c.ng ≤ B
theorem sub_key (c : Ct) (m : CtPl) (j : Nat) (v : Value) (h : (kyL c.k m.k)[j]? = some v) : (ctL c m)[5 + j]? = some v := by
 have hj := (List.getElem?_eq_some_iff.1 h).1
 unfold ctL
 rw [List.getElem?_append_right (by simp), List.getElem?_append_left (by simpa using hj)]
 simpa using h
theorem sub_ex (c : Ct) (m : CtPl) (j : Nat) (v : Value) (h : (exL c.x m.x)[j]? = some v) : (ctL c m)[25 + j]? = some v := by
 have hj := (List.getElem?_eq_some_iff.1 h).1
 unfold ctL
 have hk : (kyL c.k m.k).length = 19 := rfl
 rw [List.getElem?_append_right (by simp; omega), List.getElem?_append_right (by simp [hk]; omega), List.getElem?_append_right (by simp [hk]; omega), List.getElem?_append_left (by simp [hk]; omega)]
 simp only [hk, List.length_cons, List.length_nil]
 rw [show 25 + j - (0 + 1 + 1 + 1 + 1 + 1) - 19 - (0 + 1) = j by omega]
 exact h
theorem toKey_kp (k : Ky) (p : Plc) (W : World) (hs : Seg W p.ad p.b p.off k.n k.f) (hn : k.n ≤ 1048576) :
  Calls Tryz.prog 27 #[.agg (kyL k p).toArray] W fun e w' => ∃ q : Plc, e = .returned (.agg (kyL k q).toArray) ∧ (∀ w'', Kp W.heap.size w' w'' → Seg w'' q.ad q.b q.off k.n k.f) ∧ Ext W w' :=
 (toKey_any k p.ad p.b p.off p.cap W hs hn).mono fun e w' ⟨R, h1, h2, h3, h4⟩ => ⟨⟨some ⟨R, 0, none⟩, R, 0, k.n⟩, h1, fun w'' q => h3.kp h2 q, h4⟩
theorem toExts_kp (x : Ex) (m : ExPl) (W : World) (hI : ExIn W x m) (hS : ExSm x 1048576) :
  Calls Tryz.prog 28 #[.agg (exL x m).toArray] W fun e w' => ∃ q : ExPl, e = .returned (.agg (exL x q).toArray) ∧ (∀ w'', Kp W.heap.size w' w'' → ExIn w'' x q) ∧ Ext W w' := toExts_any x m W hI hS
theorem eqKeyL_same (k : Ky) (p p2 : Plc) (W : World) (hs : Seg W p.ad p.b p.off k.n k.f) (hs2 : Seg W p2.ad p2.b p2.off k.n k.f) (hn : k.n ≤ 1048576) :
  Calls Tryz.prog 37 #[.agg (kyL k p).toArray, .agg (kyL k p2).toArray] W fun e w' => e = .returned (.bool true) ∧ Ext W w' := eqKey_same k p.ad p.b p.off p.cap p2.ad p2.b p2.off p2.cap W hs hs2 hn
theorem szKeyL_any (k : Ky) (p : Plc) (l : Int) (w : World) (l0 : 0 ≤ l) (l1 : l ≤ 1048576) (hn : k.n ≤ 9223372036854775807) :
  Calls Tryz.prog 19 #[.agg (kyL k p).toArray, .int .i64 l] w fun e w' => (∃ z : Int, e = .returned (.int .i64 z) ∧ -1 ≤ z ∧ z ≤ l ∧ (0 ≤ z → z + (k.n : Int) ≤ l)) ∧ Ext w w' := szKey_any k p.ad p.cap l w l0 l1 hn
def wC (c : Ct) : Nat := c.ni + c.ns + c.k.n + wX c.x + c.ng
set_option maxHeartbeats 6400000 in
set_option maxRecDepth 100000 in
theorem szCert_sum (c : Ct) (m : CtPl) (l : Int) (w : World) (hI : CtIn w c m) (hS : CtSm c 9223372036854775807) (l0 : 0 ≤ l) (l1 : l ≤ 1048576) :
  Calls Tryz.prog 4 #[.agg (ctL c m).toArray, .int .i64 l] w fun e w' => (∃ z : Int, e = .returned (.int .i64 z) ∧ -1 ≤ z ∧ z ≤ l ∧ (0 ≤ z → z + (wC c : Nat) ≤ l ∧ CtSm c 1048576)) ∧ Ext w w' := by
 obtain ⟨V, hV⟩ : ∃ V, w.alloc (.cells (ctL c m).toArray 39) = V := ⟨_, rfl⟩
 obtain ⟨B0, hE, -⟩ := box1 w (ctL c m) 39 (w1 := V) (by rw [← hV]; exact Ext.refl _)
 have HB := hide B0
 have HE := hide hE
 have HI := hide (hI.ext hE)
 have HS := hide hS
 clear B0 hE hI hS
 have c0 := (HB.out 1 _ rfl).1
 have c1 := (HB.out 2 _ rfl).1
 have c4 := (HB.out 33 _ rfl).1
 go_enter Tryz.func4, Tryz.ntmps4
 go_wp2_with fail
 refine (szStringS_any m.i.ad m.i.b m.i.off c.ni m.i.cap c.fi l V ⟨HI.out.i, HS.out.i, HS.out.is⟩ (by omega) (by omega)).mono ?_
 rintro e W ⟨⟨z0, rfl, z00, z01, hz0⟩, hw⟩
 obtain rfl := hw.symm
 clear hw
 have Hz0 := hide hz0
 clear hz0
 by_cases h0 : z0 < 0
 ·go_wp2
  go_ret
  exact ⟨⟨-1, rfl, by omega, by omega, fun h => by omega⟩, HE.out⟩
 go_wp2_with fail
 refine (szStringS_any m.s.ad m.s.b m.s.off c.ns m.s.cap c.fs z0 V ⟨HI.out.s, HS.out.s, HS.out.ss⟩ (by omega) (by omega)).mono ?_
 rintro e W ⟨⟨z1, rfl, z10, z11, hz1⟩, hw⟩
 obtain rfl := hw.symm
 clear hw
 have Hz1 := hide hz1
 clear hz1
 by_cases h1 : z1 < 0
 ·go_wp2
  go_ret
  exact ⟨⟨-1, rfl, by omega, by omega, fun h => by omega⟩, HE.out⟩
 have hld2 := run_ld (P := Tryz.prog) 33 (kyL c.k m.k) V (by kernel_rfl) (by kernel_rfl) w.heap.size 5 (Blk.ld HB.out 5 _ (fun j v h => sub_key c m j v h))
 go_wp2_with (refine wpList_ld (by first | rfl | simp [Region.wanted, yielded]) 33 _ rfl _ rfl _ hld2 ?_)
 refine (szKeyL_any c.k m.k z1 V (by omega) (by omega) HS.out.k).mono ?_
 rintro e W2 ⟨⟨z2, rfl, z20, z21, hz2⟩, hEW⟩
 replace HB := hide (Blk.ext HB.out hEW (Blk.lt HB.out (by simp [ctL, kyL, exL])))
 replace HI := hide (HI.out.ext hEW)
 replace HE := hide (Ext.trans HE.out hEW)
 clear hEW hld2
 clear c0
 clear c1
 replace c4 := (HB.out 33 _ rfl).1
 have Hz2 := hide hz2
 clear hz2
 by_cases h2 : z2 < 0
 ·go_wp2
  go_ret
  exact ⟨⟨-1, rfl, by omega, by omega, fun h => by omega⟩, HE.out⟩
 have hld3 := run_ld (P := Tryz.prog) 36 (exL c.x m.x) W2 (by kernel_rfl) (by kernel_rfl) w.heap.size 25 (Blk.ld HB.out 25 _ (fun j v h => sub_ex c m j v h))
 go_wp2_with (refine wpList_ld (by first | rfl | simp [Region.wanted, yielded]) 36 _ rfl _ rfl _ hld3 ?_)
 refine (szExts_sum c.x m.x z2 W2 HI.out.x HS.out.x (by omega) (by omega)).mono ?_
 rintro e W3 ⟨⟨z3, rfl, z30, z31, hz3⟩, hEW⟩
 replace HB := hide (Blk.ext HB.out hEW (Blk.lt HB.out (by simp [ctL, kyL, exL])))
 replace HI := hide (HI.out.ext hEW)
 replace HE := hide (Ext.trans HE.out hEW)
 clear hEW hld3
 replace c4 := (HB.out 33 _ rfl).1
 have Hz3 := hide hz3
 clear hz3
 by_cases h3 : z3 < 0
 ·go_wp2
  go_ret
  exact ⟨⟨-1, rfl, by omega, by omega, fun h => by omega⟩, HE.out⟩
 go_wp2_with fail
 refine (szBytes_any m.g.ad c.ng m.g.cap z3 W3 (by omega) (by omega) HS.out.g).mono ?_
 rintro e W ⟨⟨z4, rfl, z40, z41, hz4⟩, hw⟩
 obtain rfl := hw.symm
 clear hw
 have Hz4 := hide hz4
 clear hz4
 by_cases h4 : z4 < 0
 ·go_wp2
  go_ret
  exact ⟨⟨-1, rfl, by omega, by omega, fun h => by omega⟩, HE.out⟩
 go_wp2
 go_ret
 exact ⟨⟨z4, rfl, by omega, by omega, fun _ => by have e0 := Hz0.out (by omega); have e1 := Hz1.out (by omega); have e2 := Hz2.out (by omega); have e3 := Hz3.out (by omega); have e4 := Hz4.out (by omega); exact ⟨by unfold wC; omega, by omega, fun i hi => by have := e0.2 i hi; omega, by omega, fun i hi => by have := e1.2 i hi; omega, by omega, e3.2, by omega⟩⟩, HE.out⟩
def GivesCt (w : World) (c : Ct) (e : Ending) (w' : World) : Prop := ∃ m : CtPl, e = .returned (.agg (ctL c m).toArray) ∧ (∀ w'', Kp w.heap.size w' w'' → CtIn w'' c m) ∧ Ext w w'
set_option maxHeartbeats 12800000 in
set_option maxRecDepth 100000 in
theorem toCert_any (c : Ct) (m : CtPl) (w : World) (hI : CtIn w c m) (hS : CtSm c 1048576) :
  Calls Tryz.prog 7 #[.agg (ctL c m).toArray] w fun e w' => GivesCt w c e w' := by
 obtain ⟨V, hV⟩ : ∃ V, ((w.alloc (.cells (ctL c m).toArray 39)).alloc (.cells #[.int .i64 0, .slice none 0 0, .slice none 0 0, .int .i64 0, .int .i64 0, .int .i64 0, .slice none 0 0, .int .i64 0, .int .i64 0, .int .i64 0, .int .i64 0, .int .i64 0, .int .i64 0, .int .i64 0, .int .i64 0, .int .i64 0, .bool false, .int .i64 0, .int .i64 0, .int .i64 0, .int .i64 0, .int .i64 0, .int .i64 0, .int .i64 0, .int .i64 0, .bool false, .int .i64 0, .int .i64 0, .slice none 0 0, .slice none 0 0, .slice none 0 0, .slice none 0 0, .slice none 0 0, .slice none 0 0] 54)).alloc (.cells #[.int .i64 0, .slice none 0 0, .slice none 0 0, .int .i64 0, .int .i64 0, .int .i64 0, .slice none 0 0, .int .i64 0, .int .i64 0, .int .i64 0, .int .i64 0, .int .i64 0, .int .i64 0, .int .i64 0, .int .i64 0, .int .i64 0, .bool false, .int .i64 0, .int .i64 0, .int .i64 0, .int .i64 0, .int .i64 0, .int .i64 0, .int .i64 0, .int .i64 0, .bool false, .int .i64 0, .int .i64 0, .slice none 0 0, .slice none 0 0, .slice none 0 0, .slice none 0 0, .slice none 0 0, .slice none 0 0] 54) = V := ⟨_, rfl⟩
 have HM := hide (mkg_start w (ctL c m) [.int .i64 0, .slice none 0 0, .slice none 0 0, .int .i64 0, .int .i64 0, .int .i64 0, .slice none 0 0, .int .i64 0, .int .i64 0, .int .i64 0, .int .i64 0, .int .i64 0, .int .i64 0, .int .i64 0, .int .i64 0, .int .i64 0, .bool false, .int .i64 0, .int .i64 0, .int .i64 0, .int .i64 0, .int .i64 0, .int .i64 0, .int .i64 0, .int .i64 0, .bool false, .int .i64 0, .int .i64 0, .slice none 0 0, .slice none 0 0, .slice none 0 0, .slice none 0 0, .slice none 0 0, .slice none 0 0] [.int .i64 0, .slice none 0 0, .slice none 0 0, .int .i64 0, .int .i64 0, .int .i64 0, .slice none 0 0, .int .i64 0, .int .i64 0, .int .i64 0, .int .i64 0, .int .i64 0, .int .i64 0, .int .i64 0, .int .i64 0, .int .i64 0, .bool false, .int .i64 0, .int .i64 0, .int .i64 0, .int .i64 0, .int .i64 0, .int .i64 0, .int .i64 0, .int .i64 0, .bool false, .int .i64 0, .int .i64 0, .slice none 0 0, .slice none 0 0, .slice none 0 0, .slice none 0 0, .slice none 0 0, .slice none 0 0] 39 54 54 hV)
 have HN : Hid (w.heap.size + 1 + 1 < V.heap.size) := hide HM.out.lt
 have HI := hide hI
 have HS := hide hS
 clear hI hS
 have HF : Hid (∀ w'', Kp V.heap.size V w'' → True) := hide (fun _ _ => trivial)
 have HG : Hid (V.heap.size ≤ V.heap.size) := hide (Nat.le_refl _)
 have a0 := (HM.out.a 0 _ rfl).1
 have a1 := (HM.out.a 1 _ rfl).1
 have o0 := (HM.out.o 0 _ rfl).1
 have f0 := (HM.out.o 0 _ rfl).2
 have HM1 := hide (Mkg.set HM.out 0 (.int .i64 c.serial) (by simp [ctL, kyL, exL]))
 have HF1 := hide (later_set HF.out HN.out 0 (.int .i64 c.serial))
 have HL1 : Hid (V.heap.size ≤ (V.setCell ⟨w.heap.size + 1 + 1, 0, none⟩ (.int .i64 c.serial)).heap.size ∧ 0 < V.heap.size + 1) := hide ⟨Nat.le_of_eq (by first | rfl | simp [World.setCell, size_putL]), Nat.succ_pos _⟩
 go_enter Tryz.func7, Tryz.ntmps7
 go_wp2_with fail
 refine (toStrs_kp m.i c.ni c.fi _ (HI.out.i.of_all HM1.out.ext) HS.out.i).mono ?_
 rintro e w1 ⟨pi, rfl, hS0, hEW⟩
 clear a0 a1 o0 f0
 replace HM : Hid (Mkg w w1 (ctL c m) [.int .i64 0, .slice none 0 0, .slice none 0 0, .int .i64 0, .int .i64 0, .int .i64 0, .slice none 0 0, .int .i64 0, .int .i64 0, .int .i64 0, .int .i64 0, .int .i64 0, .int .i64 0, .int .i64 0, .int .i64 0, .int .i64 0, .bool false, .int .i64 0, .int .i64 0, .int .i64 0, .int .i64 0, .int .i64 0, .int .i64 0, .int .i64 0, .int .i64 0, .bool false, .int .i64 0, .int .i64 0, .slice none 0 0, .slice none 0 0, .slice none 0 0, .slice none 0 0, .slice none 0 0, .slice none 0 0] [.int .i64 c.serial, .slice none 0 0, .slice none 0 0, .int .i64 0, .int .i64 0, .int .i64 0, .slice none 0 0, .int .i64 0, .int .i64 0, .int .i64 0, .int .i64 0, .int .i64 0, .int .i64 0, .int .i64 0, .int .i64 0, .int .i64 0, .bool false, .int .i64 0, .int .i64 0, .int .i64 0, .int .i64 0, .int .i64 0, .int .i64 0, .int .i64 0, .int .i64 0, .bool false, .int .i64 0, .int .i64 0, .slice none 0 0, .slice none 0 0, .slice none 0 0, .slice none 0 0, .slice none 0 0, .slice none 0 0]) := hide (Mkg.later HM1.out hEW)
 replace HF := hide (later_and (later_ext HF1.out hEW) (Nat.le_trans HG.out HL1.out.1) hS0)
 replace HG : Hid (V.heap.size ≤ w1.heap.size) := hide (Nat.le_trans HG.out (Nat.le_trans HL1.out.1 (Below.size hEW)))
 clear hS0 hEW HM1 HF1 HL1
 have a2 := (HM.out.a 2 _ rfl).1
 have o1 := (HM.out.o 1 _ rfl).1
 have f1 := (HM.out.o 1 _ rfl).2
 have HM1 := hide (Mkg.set HM.out 1 (.slice pi.ad c.ni pi.cap) (by simp [ctL, kyL, exL]))
 have HF1 := hide (later_set HF.out HN.out 1 (.slice pi.ad c.ni pi.cap))
 have HL1 : Hid (w1.heap.size ≤ (w1.setCell ⟨w.heap.size + 1 + 1, 1, none⟩ (.slice pi.ad c.ni pi.cap)).heap.size ∧ 0 < w1.heap.size + 1) := hide ⟨Nat.le_of_eq (by first | rfl | simp [World.setCell, size_putL]), Nat.succ_pos _⟩
 go_wp2_with fail
 refine (toStrs_kp m.s c.ns c.fs _ (HI.out.s.of_all HM1.out.ext) HS.out.s).mono ?_
 rintro e w2 ⟨ps, rfl, hS1, hEW⟩
 clear a2 o1 f1
 replace HM : Hid (Mkg w w2 (ctL c m) [.int .i64 0, .slice none 0 0, .slice none 0 0, .int .i64 0, .int .i64 0, .int .i64 0, .slice none 0 0, .int .i64 0, .int .i64 0, .int .i64 0, .int .i64 0, .int .i64 0, .int .i64 0, .int .i64 0, .int .i64 0, .int .i64 0, .bool false, .int .i64 0, .int .i64 0, .int .i64 0, .int .i64 0, .int .i64 0, .int .i64 0, .int .i64 0, .int .i64 0, .bool false, .int .i64 0, .int .i64 0, .slice none 0 0, .slice none 0 0, .slice none 0 0, .slice none 0 0, .slice none 0 0, .slice none 0 0] [.int .i64 c.serial, .slice pi.ad c.ni pi.cap, .slice none 0 0, .int .i64 0, .int .i64 0, .int .i64 0, .slice none 0 0, .int .i64 0, .int .i64 0, .int .i64 0, .int .i64 0, .int .i64 0, .int .i64 0, .int .i64 0, .int .i64 0, .int .i64 0, .bool false, .int .i64 0, .int .i64 0, .int .i64 0, .int .i64 0, .int .i64 0, .int .i64 0, .int .i64 0, .int .i64 0, .bool false, .int .i64 0, .int .i64 0, .slice none 0 0, .slice none 0 0, .slice none 0 0, .slice none 0 0, .slice none 0 0, .slice none 0 0]) := hide (Mkg.later HM1.out hEW)
 replace HF := hide (later_and (later_ext HF1.out hEW) (Nat.le_trans HG.out HL1.out.1) hS1)
 replace HG : Hid (V.heap.size ≤ w2.heap.size) := hide (Nat.le_trans HG.out (Nat.le_trans HL1.out.1 (Below.size hEW)))
 clear hS1 hEW HM1 HF1 HL1
 have a3 := (HM.out.a 3 _ rfl).1
 have a4 := (HM.out.a 4 _ rfl).1
 have o2 := (HM.out.o 2 _ rfl).1
 have f2 := (HM.out.o 2 _ rfl).2
 have o3 := (HM.out.o 3 _ rfl).1
 have f3 := (HM.out.o 3 _ rfl).2
 have o4 := (HM.out.o 4 _ rfl).1
 have f4 := (HM.out.o 4 _ rfl).2
 have HM1 := hide (Mkg.set (Mkg.set (Mkg.set HM.out 2 (.slice ps.ad c.ns ps.cap) (by simp [ctL, kyL, exL])) 3 (.int .i64 c.fr) (by simp [ctL, kyL, exL])) 4 (.int .i64 c.to) (by simp [ctL, kyL, exL]))
 have HF1 := hide (later_set (later_set (later_set HF.out HN.out 2 (.slice ps.ad c.ns ps.cap)) HN.out 3 (.int .i64 c.fr)) HN.out 4 (.int .i64 c.to))
 have HL1 : Hid (w2.heap.size ≤ (((w2.setCell ⟨w.heap.size + 1 + 1, 2, none⟩ (.slice ps.ad c.ns ps.cap)).setCell ⟨w.heap.size + 1 + 1, 3, none⟩ (.int .i64 c.fr)).setCell ⟨w.heap.size + 1 + 1, 4, none⟩ (.int .i64 c.to)).heap.size ∧ 0 < w2.heap.size + 1) := hide ⟨Nat.le_of_eq (by first | rfl | simp [World.setCell, size_putL]), Nat.succ_pos _⟩
 have hld := run_ld (P := Tryz.prog) 33 (kyL c.k m.k) (((w2.setCell ⟨w.heap.size + 1 + 1, 2, none⟩ (.slice ps.ad c.ns ps.cap)).setCell ⟨w.heap.size + 1 + 1, 3, none⟩ (.int .i64 c.fr)).setCell ⟨w.heap.size + 1 + 1, 4, none⟩ (.int .i64 c.to)) (by kernel_rfl) (by kernel_rfl) w.heap.size 5 (Blk.ld HM1.out.a 5 _ (fun j v h => sub_key c m j v h))
 go_wp2_with (first | (refine wpList_ld (by first | rfl | simp [Region.wanted, yielded]) 33 _ rfl _ rfl _ hld ?_))
 refine (toKey_kp c.k m.k _ (HI.out.k.of_all HM1.out.ext) HS.out.k).mono ?_
 rintro e w3 ⟨pk, rfl, hS2, hEW⟩
 clear a3 a4 o2 f2 o3 f3 o4 f4 hld
 replace HM : Hid (Mkg w w3 (ctL c m) [.int .i64 0, .slice none 0 0, .slice none 0 0, .int .i64 0, .int .i64 0, .int .i64 0, .slice none 0 0, .int .i64 0, .int .i64 0, .int .i64 0, .int .i64 0, .int .i64 0, .int .i64 0, .int .i64 0, .int .i64 0, .int .i64 0, .bool false, .int .i64 0, .int .i64 0, .int .i64 0, .int .i64 0, .int .i64 0, .int .i64 0, .int .i64 0, .int .i64 0, .bool false, .int .i64 0, .int .i64 0, .slice none 0 0, .slice none 0 0, .slice none 0 0, .slice none 0 0, .slice none 0 0, .slice none 0 0] [.int .i64 c.serial, .slice pi.ad c.ni pi.cap, .slice ps.ad c.ns ps.cap, .int .i64 c.fr, .int .i64 c.to, .int .i64 0, .slice none 0 0, .int .i64 0, .int .i64 0, .int .i64 0, .int .i64 0, .int .i64 0, .int .i64 0, .int .i64 0, .int .i64 0, .int .i64 0, .bool false, .int .i64 0, .int .i64 0, .int .i64 0, .int .i64 0, .int .i64 0, .int .i64 0, .int .i64 0, .int .i64 0, .bool false, .int .i64 0, .int .i64 0, .slice none 0 0, .slice none 0 0, .slice none 0 0, .slice none 0 0, .slice none 0 0, .slice none 0 0]) := hide (Mkg.later HM1.out hEW)
 replace HF := hide (later_and (later_ext HF1.out hEW) (Nat.le_trans HG.out HL1.out.1) hS2)
 replace HG : Hid (V.heap.size ≤ w3.heap.size) := hide (Nat.le_trans HG.out (Nat.le_trans HL1.out.1 (Below.size hEW)))
 clear hS2 hEW HM1 HF1 HL1
 have hst := run_st (P := Tryz.prog) 51 (kyL c.k pk) w3 (by kernel_rfl) (by simp [kyL, Value.oneCell']) (w.heap.size + 1 + 1) 5 (Blk.st HM.out.o 5 _ (by simp [ctL, kyL, exL]))
 have HM2 := hide (Mkg.put HM.out 5 (kyL c.k pk) (by simp [ctL, kyL, exL]))
 have HF2 := hide (later_put HF.out HN.out 5 (kyL c.k pk))
 have HG2 : Hid (V.heap.size ≤ (putL (w.heap.size + 1 + 1) 5 (kyL c.k pk) w3).heap.size) := hide (by rw [size_putL]; exact HG.out)
 obtain ⟨k3, hk3⟩ : ∃ z, putL (w.heap.size + 1 + 1) 5 (kyL c.k pk) w3 = z := ⟨_, rfl⟩
 rw [hk3] at hst HM2 HF2 HG2
 clear hk3
 replace HM : Hid (Mkg w k3 (ctL c m) [.int .i64 0, .slice none 0 0, .slice none 0 0, .int .i64 0, .int .i64 0, .int .i64 0, .slice none 0 0, .int .i64 0, .int .i64 0, .int .i64 0, .int .i64 0, .int .i64 0, .int .i64 0, .int .i64 0, .int .i64 0, .int .i64 0, .bool false, .int .i64 0, .int .i64 0, .int .i64 0, .int .i64 0, .int .i64 0, .int .i64 0, .int .i64 0, .int .i64 0, .bool false, .int .i64 0, .int .i64 0, .slice none 0 0, .slice none 0 0, .slice none 0 0, .slice none 0 0, .slice none 0 0, .slice none 0 0] ([.int .i64 c.serial, .slice pi.ad c.ni pi.cap, .slice ps.ad c.ns ps.cap, .int .i64 c.fr, .int .i64 c.to] ++ ((kyL c.k pk) ++ ([.int .i64 0, .bool false, .int .i64 0, .int .i64 0, .slice none 0 0, .slice none 0 0, .slice none 0 0, .slice none 0 0, .slice none 0 0, .slice none 0 0])))) := HM2
 replace HF := HF2
 replace HG := HG2
 clear HM2 HF2 HG2
 have a24 := (HM.out.a 24 _ rfl).1
 have o24 := (HM.out.o 24 _ rfl).1
 have f24 := (HM.out.o 24 _ rfl).2
 have HM1 := hide (Mkg.set HM.out 24 (.int .i64 c.alg) (by simp [ctL, kyL, exL]))
 have HF1 := hide (later_set HF.out HN.out 24 (.int .i64 c.alg))
 have HL1 : Hid (k3.heap.size ≤ (k3.setCell ⟨w.heap.size + 1 + 1, 24, none⟩ (.int .i64 c.alg)).heap.size ∧ 0 < k3.heap.size + 1) := hide ⟨Nat.le_of_eq (by first | rfl | simp [World.setCell, size_putL]), Nat.succ_pos _⟩
 have hld := run_ld (P := Tryz.prog) 36 (exL c.x m.x) (k3.setCell ⟨w.heap.size + 1 + 1, 24, none⟩ (.int .i64 c.alg)) (by kernel_rfl) (by kernel_rfl) w.heap.size 25 (Blk.ld HM1.out.a 25 _ (fun j v h => sub_ex c m j v h))
 go_wp2_with (first | (refine wpList_st (by first | rfl | simp [Region.wanted, yielded]) 51 _ _ rfl _ rfl _ rfl _ hst ?_) | (refine wpList_ld (by first | rfl | simp [Region.wanted, yielded]) 36 _ rfl _ rfl _ hld ?_))
 refine (toExts_kp c.x m.x _ (HI.out.x.ext HM1.out.ext) HS.out.x).mono ?_
 rintro e w4 ⟨px, rfl, hS3, hEW⟩
 clear a24 o24 f24 hst hld
 replace HM : Hid (Mkg w w4 (ctL c m) [.int .i64 0, .slice none 0 0, .slice none 0 0, .int .i64 0, .int .i64 0, .int .i64 0, .slice none 0 0, .int .i64 0, .int .i64 0, .int .i64 0, .int .i64 0, .int .i64 0, .int .i64 0, .int .i64 0, .int .i64 0, .int .i64 0, .bool false, .int .i64 0, .int .i64 0, .int .i64 0, .int .i64 0, .int .i64 0, .int .i64 0, .int .i64 0, .int .i64 0, .bool false, .int .i64 0, .int .i64 0, .slice none 0 0, .slice none 0 0, .slice none 0 0, .slice none 0 0, .slice none 0 0, .slice none 0 0] ([.int .i64 c.serial, .slice pi.ad c.ni pi.cap, .slice ps.ad c.ns ps.cap, .int .i64 c.fr, .int .i64 c.to] ++ ((kyL c.k pk) ++ ([.int .i64 c.alg, .bool false, .int .i64 0, .int .i64 0, .slice none 0 0, .slice none 0 0, .slice none 0 0, .slice none 0 0, .slice none 0 0, .slice none 0 0])))) := hide (Mkg.later HM1.out hEW)
 replace HF := hide (later_and (later_ext HF1.out hEW) (Nat.le_trans HG.out HL1.out.1) hS3)
 replace HG : Hid (V.heap.size ≤ w4.heap.size) := hide (Nat.le_trans HG.out (Nat.le_trans HL1.out.1 (Below.size hEW)))
 clear hS3 hEW HM1 HF1 HL1
 have hst := run_st (P := Tryz.prog) 52 (exL c.x px) w4 (by kernel_rfl) (by simp [exL, Value.oneCell']) (w.heap.size + 1 + 1) 25 (Blk.st HM.out.o 25 _ (by simp [ctL, kyL, exL]))
 have HM2 := hide (Mkg.put HM.out 25 (exL c.x px) (by simp [ctL, kyL, exL]))
 have HF2 := hide (later_put HF.out HN.out 25 (exL c.x px))
 have HG2 : Hid (V.heap.size ≤ (putL (w.heap.size + 1 + 1) 25 (exL c.x px) w4).heap.size) := hide (by rw [size_putL]; exact HG.out)
 obtain ⟨k4, hk4⟩ : ∃ z, putL (w.heap.size + 1 + 1) 25 (exL c.x px) w4 = z := ⟨_, rfl⟩
 rw [hk4] at hst HM2 HF2 HG2
 clear hk4
 replace HM : Hid (Mkg w k4 (ctL c m) [.int .i64 0, .slice none 0 0, .slice none 0 0, .int .i64 0, .int .i64 0, .int .i64 0, .slice none 0 0, .int .i64 0, .int .i64 0, .int .i64 0, .int .i64 0, .int .i64 0, .int .i64 0, .int .i64 0, .int .i64 0, .int .i64 0, .bool false, .int .i64 0, .int .i64 0, .int .i64 0, .int .i64 0, .int .i64 0, .int .i64 0, .int .i64 0, .int .i64 0, .bool false, .int .i64 0, .int .i64 0, .slice none 0 0, .slice none 0 0, .slice none 0 0, .slice none 0 0, .slice none 0 0, .slice none 0 0] ([.int .i64 c.serial, .slice pi.ad c.ni pi.cap, .slice ps.ad c.ns ps.cap, .int .i64 c.fr, .int .i64 c.to] ++ ((kyL c.k pk) ++ ([.int .i64 c.alg] ++ ((exL c.x px) ++ ([.slice none 0 0])))))) := HM2
 replace HF := HF2
 replace HG := HG2
 clear HM2 HF2 HG2
 have a33 := (HM.out.a 33 _ rfl).1
 have HM1 := hide HM.out
 have HF1 := hide HF.out
 go_wp2_with (first | (refine wpList_st (by first | rfl | simp [Region.wanted, yielded]) 52 _ _ rfl _ rfl _ rfl _ hst ?_))
 refine (toBytes_kp m.g c.ng c.fg _ (HI.out.g.of_all HM1.out.ext) HS.out.g).mono ?_
 rintro e w5 ⟨pg, rfl, hS4, hEW⟩
 clear a33 hst
 replace HM : Hid (Mkg w w5 (ctL c m) [.int .i64 0, .slice none 0 0, .slice none 0 0, .int .i64 0, .int .i64 0, .int .i64 0, .slice none 0 0, .int .i64 0, .int .i64 0, .int .i64 0, .int .i64 0, .int .i64 0, .int .i64 0, .int .i64 0, .int .i64 0, .int .i64 0, .bool false, .int .i64 0, .int .i64 0, .int .i64 0, .int .i64 0, .int .i64 0, .int .i64 0, .int .i64 0, .int .i64 0, .bool false, .int .i64 0, .int .i64 0, .slice none 0 0, .slice none 0 0, .slice none 0 0, .slice none 0 0, .slice none 0 0, .slice none 0 0] ([.int .i64 c.serial, .slice pi.ad c.ni pi.cap, .slice ps.ad c.ns ps.cap, .int .i64 c.fr, .int .i64 c.to] ++ ((kyL c.k pk) ++ ([.int .i64 c.alg] ++ ((exL c.x px) ++ ([.slice none 0 0])))))) := hide (Mkg.later HM1.out hEW)
 replace HF := hide (later_and (later_ext HF1.out hEW) HG.out hS4)
 replace HG : Hid (V.heap.size ≤ w5.heap.size) := hide (Nat.le_trans HG.out (Below.size hEW))
 clear hS4 hEW HM1 HF1
 have o33 := (HM.out.o 33 _ rfl).1
 have f33 := (HM.out.o 33 _ rfl).2
 have HM1 := hide (Mkg.set HM.out 33 (.slice pg.ad c.ng pg.cap) (by simp [ctL, kyL, exL]))
 have HF1 := hide (later_set HF.out HN.out 33 (.slice pg.ad c.ng pg.cap))
 obtain ⟨V2, hV2⟩ : ∃ V2, (w5.setCell ⟨w.heap.size + 1 + 1, 33, none⟩ (.slice pg.ad c.ng pg.cap)) = V2 := ⟨_, rfl⟩
 have hM1 : Mkg w V2 (ctL c m) [.int .i64 0, .slice none 0 0, .slice none 0 0, .int .i64 0, .int .i64 0, .int .i64 0, .slice none 0 0, .int .i64 0, .int .i64 0, .int .i64 0, .int .i64 0, .int .i64 0, .int .i64 0, .int .i64 0, .int .i64 0, .int .i64 0, .bool false, .int .i64 0, .int .i64 0, .int .i64 0, .int .i64 0, .int .i64 0, .int .i64 0, .int .i64 0, .int .i64 0, .bool false, .int .i64 0, .int .i64 0, .slice none 0 0, .slice none 0 0, .slice none 0 0, .slice none 0 0, .slice none 0 0, .slice none 0 0] (ctL c ⟨pi, ps, pk, px, pg⟩) := hV2 ▸ HM1.out
 have hF1 := HF1.out
 rw [hV2] at hF1
 have hldE := run_ld (P := Tryz.prog) 54 (ctL c ⟨pi, ps, pk, px, pg⟩) V2 (by kernel_rfl) (by kernel_rfl) (w.heap.size + 1 + 1) 0 (Blk.ld hM1.o 0 _ (fun j v h => by rw [Nat.zero_add]; exact h))
 have hstE := run_st (P := Tryz.prog) 54 (ctL c ⟨pi, ps, pk, px, pg⟩) V2 (by kernel_rfl) (by simp [ctL, kyL, exL, Value.oneCell']) (w.heap.size + 1) 0 (Blk.st hM1.d 0 _ (by simp [ctL, kyL, exL]))
 have HB3 := hide (Blk.putAll1 hM1.d (vs := ctL c ⟨pi, ps, pk, px, pg⟩) rfl)
 have HX3 := hide (below_putL (Nat.le_succ _) (ctL c ⟨pi, ps, pk, px, pg⟩) 0 _ hM1.ext)
 have HF3 := hide (later_put hF1 (Nat.lt_of_succ_lt HN.out) 0 (ctL c ⟨pi, ps, pk, px, pg⟩))
 clear hM1 hF1 HM1 HF1 HM HF
 go_wp2_with (first | (refine wpList_ld (by first | rfl | simp [Region.wanted, yielded]) 54 _ rfl _ rfl _ hldE ?_) | (refine wpList_st (by first | rfl | simp [Region.wanted, yielded]) 54 _ _ rfl _ rfl _ rfl _ hstE ?_))
 refine bodyPost_ret (v := .agg (ctL c ⟨pi, ps, pk, px, pg⟩).toArray) (results_at Tryz.results7 rfl (run_ld (P := Tryz.prog) 54 (ctL c ⟨pi, ps, pk, px, pg⟩) _ (by kernel_rfl) (by kernel_rfl) (w.heap.size + 1) 0 (Blk.ld HB3.out 0 _ (fun j v h => by rw [Nat.zero_add]; exact h)))) rfl ?_
 exact ⟨⟨pi, ps, pk, px, pg⟩, rfl, fun w'' k => by have h := HF3.out w'' (k.mono (Nat.le_of_lt (Nat.lt_of_le_of_lt (Nat.le_succ_of_le (Nat.le_succ _)) HN.out))); exact ⟨h.1.1.1.1.2, h.1.1.1.2, h.1.1.2, h.1.2, h.2⟩, HX3.out⟩
set_option maxHeartbeats 12800000 in
set_option maxRecDepth 100000 in
theorem eqCert_same (c : Ct) (m m2 : CtPl) (w : World) (hI : CtIn w c m) (hJ : CtIn w c m2) (hS : CtSm c 1048576) :
  Calls Tryz.prog 12 #[.agg (ctL c m).toArray, .agg (ctL c m2).toArray] w fun e w' => e = .returned (.bool true) ∧ Ext w w' := by
 obtain ⟨V, hV⟩ : ∃ V, (w.alloc (.cells (ctL c m).toArray 54)).alloc (.cells (ctL c m2).toArray 54) = V := ⟨_, rfl⟩
 obtain ⟨B0, B1, hE, -⟩ := box2 w (ctL c m) (ctL c m2) 54 54 (w1 := V) (by rw [← hV]; exact Ext.refl _)
 have HA := hide B0
 have HB := hide B1
 have HE := hide hE
 have HI := hide (hI.ext hE)
 have HJ := hide (hJ.ext hE)
 have HS := hide hS
 clear B0 B1 hE hI hJ hS
 have a0 := (HA.out 0 _ rfl).1
 have b0 := (HB.out 0 _ rfl).1
 have n0 : (c.serial != c.serial) = false := by simp
 have a3 := (HA.out 3 _ rfl).1
 have b3 := (HB.out 3 _ rfl).1
 have n3 : (c.fr != c.fr) = false := by simp
 have a4 := (HA.out 4 _ rfl).1
 have b4 := (HB.out 4 _ rfl).1
 have n4 : (c.to != c.to) = false := by simp
 have a24 := (HA.out 24 _ rfl).1
 have b24 := (HB.out 24 _ rfl).1
 have n24 : (c.alg != c.alg) = false := by simp
 go_enter Tryz.func12, Tryz.ntmps12
 have a1 := (HA.out 1 _ rfl).1
 have b1 := (HB.out 1 _ rfl).1
 go_wp2_with fail
 refine (eqStringS_same m.i.ad m.i.b m.i.off c.ni m.i.cap c.fi m2.i.ad m2.i.b m2.i.off m2.i.cap V HI.out.i HJ.out.i HS.out.i).mono ?_
 rintro e w1 ⟨rfl, hEW⟩
 replace HA := hide (Blk.ext HA.out hEW (Blk.lt HA.out (by simp [ctL, kyL, exL])))
 replace HB := hide (Blk.ext HB.out hEW (Blk.lt HB.out (by simp [ctL, kyL, exL])))
 replace HI := hide (HI.out.ext hEW)
 replace HJ := hide (HJ.out.ext hEW)
 replace HE := hide (Ext.trans HE.out hEW)
 clear hEW a1 b1
 clear a0 b0 n0
 replace a3 := (HA.out 3 _ rfl).1
 replace b3 := (HB.out 3 _ rfl).1
 replace a4 := (HA.out 4 _ rfl).1
 replace b4 := (HB.out 4 _ rfl).1
 replace a24 := (HA.out 24 _ rfl).1
 replace b24 := (HB.out 24 _ rfl).1
 have a2 := (HA.out 2 _ rfl).1
 have b2 := (HB.out 2 _ rfl).1
 go_wp2_with fail
 refine (eqStringS_same m.s.ad m.s.b m.s.off c.ns m.s.cap c.fs m2.s.ad m2.s.b m2.s.off m2.s.cap w1 HI.out.s HJ.out.s HS.out.s).mono ?_
 rintro e w2 ⟨rfl, hEW⟩
 replace HA := hide (Blk.ext HA.out hEW (Blk.lt HA.out (by simp [ctL, kyL, exL])))
 replace HB := hide (Blk.ext HB.out hEW (Blk.lt HB.out (by simp [ctL, kyL, exL])))
 replace HI := hide (HI.out.ext hEW)
 replace HJ := hide (HJ.out.ext hEW)
 replace HE := hide (Ext.trans HE.out hEW)
 clear hEW a2 b2
 replace a3 := (HA.out 3 _ rfl).1
 replace b3 := (HB.out 3 _ rfl).1
 replace a4 := (HA.out 4 _ rfl).1
 replace b4 := (HB.out 4 _ rfl).1
 replace a24 := (HA.out 24 _ rfl).1
 replace b24 := (HB.out 24 _ rfl).1
 have hlA := run_ld (P := Tryz.prog) 51 (kyL c.k m.k) w2 (by kernel_rfl) (by kernel_rfl) w.heap.size 5 (Blk.ld HA.out 5 _ (fun j v h => sub_key c m j v h))
 have hlB := run_ld (P := Tryz.prog) 51 (kyL c.k m2.k) w2 (by kernel_rfl) (by kernel_rfl) (w.heap.size + 1) 5 (Blk.ld HB.out 5 _ (fun j v h => sub_key c m2 j v h))
 go_wp2_with (first | (refine wpList_ld (by first | rfl | simp [Region.wanted, yielded]) 51 _ rfl ⟨w.heap.size, 5, none⟩ rfl _ hlA ?_) | (refine wpList_ld (by first | rfl | simp [Region.wanted, yielded]) 51 _ rfl ⟨w.heap.size + 1, 5, none⟩ rfl _ hlB ?_))
 refine (eqKeyL_same c.k m.k m2.k w2 HI.out.k HJ.out.k HS.out.k).mono ?_
 rintro e w5 ⟨rfl, hEW⟩
 replace HA := hide (Blk.ext HA.out hEW (Blk.lt HA.out (by simp [ctL, kyL, exL])))
 replace HB := hide (Blk.ext HB.out hEW (Blk.lt HB.out (by simp [ctL, kyL, exL])))
 replace HI := hide (HI.out.ext hEW)
 replace HJ := hide (HJ.out.ext hEW)
 replace HE := hide (Ext.trans HE.out hEW)
 clear hEW hlA hlB
 clear a3 b3 n3
 clear a4 b4 n4
 replace a24 := (HA.out 24 _ rfl).1
 replace b24 := (HB.out 24 _ rfl).1
 have hlA := run_ld (P := Tryz.prog) 52 (exL c.x m.x) w5 (by kernel_rfl) (by kernel_rfl) w.heap.size 25 (Blk.ld HA.out 25 _ (fun j v h => sub_ex c m j v h))
 have hlB := run_ld (P := Tryz.prog) 52 (exL c.x m2.x) w5 (by kernel_rfl) (by kernel_rfl) (w.heap.size + 1) 25 (Blk.ld HB.out 25 _ (fun j v h => sub_ex c m2 j v h))
 go_wp2_with (first | (refine wpList_ld (by first | rfl | simp [Region.wanted, yielded]) 52 _ rfl ⟨w.heap.size, 25, none⟩ rfl _ hlA ?_) | (refine wpList_ld (by first | rfl | simp [Region.wanted, yielded]) 52 _ rfl ⟨w.heap.size + 1, 25, none⟩ rfl _ hlB ?_))
 refine (eqExts_same c.x m.x m2.x w5 HI.out.x HJ.out.x HS.out.x).mono ?_
 rintro e w7 ⟨rfl, hEW⟩
 replace HA := hide (Blk.ext HA.out hEW (Blk.lt HA.out (by simp [ctL, kyL, exL])))
 replace HB := hide (Blk.ext HB.out hEW (Blk.lt HB.out (by simp [ctL, kyL, exL])))
 replace HI := hide (HI.out.ext hEW)
 replace HJ := hide (HJ.out.ext hEW)
 replace HE := hide (Ext.trans HE.out hEW)
 clear hEW hlA hlB
 clear a24 b24 n24
 have a33 := (HA.out 33 _ rfl).1
 have b33 := (HB.out 33 _ rfl).1
 go_wp2_with fail
 refine (eqBytes_same m.g m2.g c.ng c.fg w7 HI.out.g HJ.out.g HS.out.g).mono ?_
 rintro e w8 ⟨rfl, hEW⟩
 replace HA := hide (Blk.ext HA.out hEW (Blk.lt HA.out (by simp [ctL, kyL, exL])))
 replace HB := hide (Blk.ext HB.out hEW (Blk.lt HB.out (by simp [ctL, kyL, exL])))
 replace HI := hide (HI.out.ext hEW)
 replace HJ := hide (HJ.out.ext hEW)
 replace HE := hide (Ext.trans HE.out hEW)
 clear hEW a33 b33
 go_wp2
 go_ret
 exact ⟨rfl, HE.out⟩
end Go.Proofs.YtfhiiakoilkbkaaGreatDoor
