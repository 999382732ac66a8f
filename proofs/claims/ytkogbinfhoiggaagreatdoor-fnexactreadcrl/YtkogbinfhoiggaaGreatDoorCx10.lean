/- Walks: a head that is read, of the program (written by mkrdh.py). -/
import Derived.Test.YtkogbinfhoiggaaGreatDoorCx08
import Derived.Test.YtkogbinfhoiggaaGreatDoorCx09
namespace Go.Proofs.YtkogbinfhoiggaaGreatDoor
set_option linter.unusedVariables false
set_option linter.unusedSimpArgs false
open Go.RowKit
theorem ne_nil_flt (c p : Int) (w : World) : (binOp .neq 73 (.iface 77 (.agg #[.int .i64 c, .int .i64 p])) .nilIface).run Tryz.prog w = .ok (.bool true) w := by kernel_rfl
theorem results_ct {P : Program} {fn : Func} {a b : Nat} {T : TypeId} (hf : fn.results = #[.cell a T, .tmp b]) {tmps : Array Value} {q : Addr} {v u : Value} {W : World} (ht : tmps.getD a undef = .pointer (some q)) (hu : tmps.getD b undef = u) (hl : (loadVar T q).run P W = .ok v W) : (results fn tmps).run P W = .ok (.tuple #[v, u]) W := by
 unfold results
 rw [hf]
 rw [Array.getD_eq_getD_getElem?] at ht hu
 simp [ht, hu, asAddr, hl, Sem.run_bind, Sem.run_pure, Result.andThen_ok]
theorem rh_bad {f : Nat → Int} {a e d : Nat} {c p : Int} (h : hdC f a e d = (c, p)) (hc : c ≠ 0) : rhV f a e d = .tuple #[.agg noH.toArray, fltV c p] := by
 unfold rhV; rw [h, if_neg hc]
theorem rh_ok {f : Nat → Int} {a e d : Nat} (h : (hdC f a e d).1 = 0) : rhV f a e d = .tuple #[.agg (hdV (hdOf f a e d)).toArray, .nilIface] := by
 unfold rhV; rw [if_pos h]
theorem lnR_small {f : Nat → Int} {a e : Nat} (hb : ∀ i, i < e → 0 ≤ f i ∧ f i < 256) : (lnR f a e).1 ≤ 70000 ∧ (lnR f a e).2.1 ≤ a + 4 := by
 unfold lnR
 by_cases c1 : e ≤ a + 1
 ·rw [if_pos c1]; simp
 rw [if_neg c1]
 have b1 := hb (a + 1) (by omega)
 by_cases c2 : f (a + 1) < 128
 ·rw [if_pos c2]; constructor
  ·show (f (a + 1)).toNat ≤ 70000; omega
  ·show a + 2 ≤ a + 4; omega
 rw [if_neg c2]
 by_cases c3 : f (a + 1) = 128 ∨ 130 < f (a + 1)
 ·rw [if_pos c3]; simp
 rw [if_neg c3]
 by_cases c4 : (e : Int) ≤ a + 1 + (f (a + 1) - 128)
 ·rw [if_pos c4]; simp
 rw [if_neg c4]
 have b2 := hb (a + 2) (by omega)
 by_cases c5 : f (a + 1) = 129
 ·rw [if_pos c5]
  split
  ·simp
  ·constructor
   ·show (f (a + 2)).toNat ≤ 70000; omega
   ·show a + 3 ≤ a + 4; omega
 ·rw [if_neg c5]
  have b3 := hb (a + 3) (by omega)
  split
  ·simp
  ·constructor
   ·show (256 * f (a + 2) + f (a + 3)).toNat ≤ 70000; omega
   ·exact Nat.le_refl _
set_option maxHeartbeats 3200000 in
set_option maxRecDepth 100000 in
theorem readHead_any (ad : Option Addr) (b off e cap : Nat) (f : Nat → Int) (a d : Nat) (w : World) (hs : BSeg w ad b off e f) (hb : ∀ i, i < e → 0 ≤ f i ∧ f i < 256) (hc : e ≤ cap) (hcap : cap ≤ 9223372036854775807) (hn : e ≤ 4000) (ha : a ≤ 4000) (hd : d ≤ 100) :
  Calls Tryz.prog 111 #[.slice ad e cap, .int .i64 (a : Int), .int .i64 (d : Int)] w fun en w' => en = .returned (rhV f a e d) ∧ Ext w w' := by
 have sto : ∀ (W : World) (L : List Value), L.length = 4 → (∀ v ∈ L, v.oneCell' = true) → Blk W w.heap.size noH → (Instr.storeAt 116 (.pointer (some ⟨w.heap.size, 0, none⟩)) (.agg L.toArray)).run Tryz.prog W = .ok () (putL w.heap.size 0 L W) := fun W L hl h1 hB => run_st (P := Tryz.prog) 116 L W (by rw [hl]; kernel_rfl) h1 w.heap.size 0 (Blk.st hB 0 _ (by rw [hl]; simp [noH]))
 have lod : ∀ (W : World) (L : List Value), L.length = 4 → Blk W w.heap.size noH → (loadVar 116 ⟨w.heap.size, 0, none⟩).run Tryz.prog (putL w.heap.size 0 L W) = .ok (.agg L.toArray) (putL w.heap.size 0 L W) := fun W L hl hB => run_ld (P := Tryz.prog) 116 L _ (by rw [hl]; kernel_rfl) (by kernel_rfl) w.heap.size 0 (Blk.ld (Blk.putAll1 hB (by rw [hl]; rfl)) 0 _ (fun j v h => by rw [Nat.zero_add]; exact h))
 obtain ⟨V, hV⟩ : ∃ V, w.alloc (.cells #[.int .i64 0, .int .i64 0, .int .i64 0, .int .i64 0] 116) = V := ⟨_, rfl⟩
 obtain ⟨B0, hE, -⟩ := box1 w noH 116 (w1 := V) (by rw [← hV]; exact Ext.refl _)
 have hputE : ∀ (W : World) (L : List Value), Ext w W → Ext w (putL w.heap.size 0 L W) := fun W L h => below_putL (Nat.le_refl _) L 0 _ h
 have HP := hide hputE
 have Hsto := hide sto
 have Hlod := hide lod
 have HBk := hide B0
 have HE := hide hE
 have hs1 := hs.of_all hE
 clear sto lod hputE B0 hE hs
 have fin : Hid True := trivial
 by_cases c1 : e ≤ a
 ·have hh : hdC f a e d = (2, (a : Int)) := by unfold hdC; rw [if_pos c1]
  rw [rh_bad hh (by omega)]
  have g1 : (e : Int) ≤ (a : Int) := by omega
  have hst := Hsto.out V noH rfl (by simp [noH, Value.oneCell']) HBk.out
  have hld := Hlod.out V noH rfl HBk.out
  have HX := hide (HP.out V noH HE.out)
  go_enter Tryz.func111, Tryz.ntmps111
  go_wp2_with (refine wpList_st (by first | rfl | simp [Region.wanted, yielded]) 116 _ _ rfl _ rfl _ rfl _ hst ?_)
  refine bodyPost_ret (v := .tuple #[.agg noH.toArray, fltV 2 a]) (results_ct Tryz.results111 rfl rfl hld) rfl ?_
  exact ⟨rfl, HX.out⟩
 obtain rfl := hs1.at' (by omega)
 have k1 := hs1.cell a (by omega)
 have b1 := hb a (by omega)
 have g1 : ¬ (e : Int) ≤ (a : Int) := by omega
 have g2 : (a : Int) < (e : Int) := by omega
 have HTg : Hid (∀ W, Calls Tryz.prog 134 #[.int .i64 (f a)] W fun en w' => en = .returned (.bool (decide (f a % 32 ≠ 31))) ∧ w' = W) := fun W => tagOk_any (f a) W b1.1 (by omega)
 by_cases c2 : f a % 32 = 31
 ·have hh : hdC f a e d = (3, (a : Int)) := by unfold hdC; rw [if_neg c1, if_pos c2]
  rw [rh_bad hh (by omega)]
  have e0 : decide (f a % 32 ≠ 31) = false := by simp [c2]
  rw [e0] at HTg
  clear hb hs1 e0 c2 hh
  generalize f a = x at *
  have hst := Hsto.out V noH rfl (by simp [noH, Value.oneCell']) HBk.out
  have hld := Hlod.out V noH rfl HBk.out
  have HX := hide (HP.out V noH HE.out)
  go_enter Tryz.func111, Tryz.ntmps111
  go_wp2_with fail
  refine (HTg.out _).mono ?_
  rintro en w1 ⟨rfl, hw⟩
  obtain rfl := hw.symm
  clear hw
  go_wp2_with (refine wpList_st (by first | rfl | simp [Region.wanted, yielded]) 116 _ _ rfl _ rfl _ rfl _ hst ?_)
  refine bodyPost_ret (v := .tuple #[.agg noH.toArray, fltV 3 a]) (results_ct Tryz.results111 rfl rfl hld) rfl ?_
  exact ⟨rfl, HX.out⟩
 have e0 : decide (f a % 32 ≠ 31) = true := by simp [c2]
 rw [e0] at HTg
 clear e0
 by_cases c3 : 12 < d
 ·have hh : hdC f a e d = (6, (a : Int)) := by unfold hdC; rw [if_neg c1, if_neg c2, if_pos c3]
  rw [rh_bad hh (by omega)]
  have g3 : (12 : Int) < (d : Int) := by omega
  clear hb hs1 c2 hh
  generalize f a = x at *
  have hst := Hsto.out V noH rfl (by simp [noH, Value.oneCell']) HBk.out
  have hld := Hlod.out V noH rfl HBk.out
  have HX := hide (HP.out V noH HE.out)
  go_enter Tryz.func111, Tryz.ntmps111
  go_wp2_with fail
  refine (HTg.out _).mono ?_
  rintro en w1 ⟨rfl, hw⟩
  obtain rfl := hw.symm
  clear hw
  go_wp2_with (refine wpList_st (by first | rfl | simp [Region.wanted, yielded]) 116 _ _ rfl _ rfl _ rfl _ hst ?_)
  refine bodyPost_ret (v := .tuple #[.agg noH.toArray, fltV 6 a]) (results_ct Tryz.results111 rfl rfl hld) rfl ?_
  exact ⟨rfl, HX.out⟩
 have g3 : ¬ (12 : Int) < (d : Int) := by omega
 have HLn := hide (readLength_any (some ⟨b, off, none⟩) b off e cap f a V hs1 hb hc hcap hn ha)
 have HwV : Hid (w.heap.size < V.heap.size) := hide (Blk.lt HBk.out (by simp [noH]))
 have hnf := ne_nil_flt
 by_cases c4 : (lnR f a e).2.2 = 2
 ·have hh : hdC f a e d = (2, (a : Int)) := by unfold hdC; rw [if_neg c1, if_neg c2, if_neg c3, if_pos c4]
  rw [rh_bad hh (by omega)]
  have hl : rlV f a e = .tuple #[.int .i64 0, .int .i64 0, .iface 77 (.agg #[.int .i64 2, .int .i64 (a : Int)])] := by unfold rlV; rw [if_neg (by omega), if_pos c4]; rfl
  rw [hl] at HLn
  clear hb hs1 c2 hh c4 hl
  generalize f a = x at *
  go_enter Tryz.func111, Tryz.ntmps111
  go_wp2_with fail
  refine (HTg.out _).mono ?_
  rintro en w1 ⟨rfl, hw⟩
  obtain rfl := hw.symm
  clear hw
  go_wp2_with fail
  refine HLn.out.mono ?_
  rintro en w2 ⟨rfl, hE2⟩
  replace HBk := hide (Blk.ext HBk.out hE2 HwV.out)
  replace HE := hide (HE.out.trans hE2)
  clear hE2 HLn
  have hst := Hsto.out w2 noH rfl (by simp [noH, Value.oneCell']) HBk.out
  have hld := Hlod.out w2 noH rfl HBk.out
  have HX := hide (HP.out w2 noH HE.out)
  go_wp2_with (refine wpList_st (by first | rfl | simp [Region.wanted, yielded]) 116 _ _ rfl _ rfl _ rfl _ hst ?_)
  refine bodyPost_ret (v := .tuple #[.agg noH.toArray, fltV 2 a]) (results_ct Tryz.results111 rfl rfl hld) rfl ?_
  exact ⟨rfl, HX.out⟩
 by_cases c5 : (lnR f a e).2.2 = 4
 ·have hh : hdC f a e d = (4, (a : Int) + 1) := by unfold hdC; rw [if_neg c1, if_neg c2, if_neg c3, if_neg c4, if_pos c5]
  rw [rh_bad hh (by omega)]
  have hl : rlV f a e = .tuple #[.int .i64 0, .int .i64 0, .iface 77 (.agg #[.int .i64 4, .int .i64 ((a : Int) + 1)])] := by unfold rlV; rw [if_neg (by omega), if_neg c4]; rfl
  rw [hl] at HLn
  clear hb hs1 c2 hh c4 c5 hl
  generalize f a = x at *
  go_enter Tryz.func111, Tryz.ntmps111
  go_wp2_with fail
  refine (HTg.out _).mono ?_
  rintro en w1 ⟨rfl, hw⟩
  obtain rfl := hw.symm
  clear hw
  go_wp2_with fail
  refine HLn.out.mono ?_
  rintro en w2 ⟨rfl, hE2⟩
  replace HBk := hide (Blk.ext HBk.out hE2 HwV.out)
  replace HE := hide (HE.out.trans hE2)
  clear hE2 HLn
  have hst := Hsto.out w2 noH rfl (by simp [noH, Value.oneCell']) HBk.out
  have hld := Hlod.out w2 noH rfl HBk.out
  have HX := hide (HP.out w2 noH HE.out)
  go_wp2_with (refine wpList_st (by first | rfl | simp [Region.wanted, yielded]) 116 _ _ rfl _ rfl _ rfl _ hst ?_)
  refine bodyPost_ret (v := .tuple #[.agg noH.toArray, fltV 4 ((a : Int) + 1)]) (results_ct Tryz.results111 rfl rfl hld) rfl ?_
  exact ⟨rfl, HX.out⟩
 have hw0 := lnR_well c4 c5
 have hl : rlV f a e = .tuple #[.int .i64 ((lnR f a e).1 : Int), .int .i64 ((lnR f a e).2.1 : Int), .nilIface] := by unfold rlV; rw [if_pos hw0.1]
 rw [hl] at HLn
 have hlb := lnR_small (f := f) (a := a) (e := e) hb
 by_cases c6 : e < (lnR f a e).2.1 + (lnR f a e).1
 ·have hh : hdC f a e d = (2, (a : Int)) := by unfold hdC; rw [if_neg c1, if_neg c2, if_neg c3, if_neg c4, if_neg c5, if_pos c6]
  rw [rh_bad hh (by omega)]
  clear hb hs1 c2 hh c4 c5 hl hw0
  generalize f a = x at *
  generalize (lnR f a e).1 = ln at *
  generalize (lnR f a e).2.1 = st at *
  have w3 : wrap64 ((e : Int) - (st : Int)) = (e : Int) - (st : Int) := by unfold wrap64; omega
  have g5 : (e : Int) - (st : Int) < (ln : Int) := by omega
  go_enter Tryz.func111, Tryz.ntmps111
  go_wp2_with fail
  refine (HTg.out _).mono ?_
  rintro en w1 ⟨rfl, hw⟩
  obtain rfl := hw.symm
  clear hw
  go_wp2_with fail
  refine HLn.out.mono ?_
  rintro en w2 ⟨rfl, hE2⟩
  replace HBk := hide (Blk.ext HBk.out hE2 HwV.out)
  replace HE := hide (HE.out.trans hE2)
  clear hE2 HLn
  have hst := Hsto.out w2 noH rfl (by simp [noH, Value.oneCell']) HBk.out
  have hld := Hlod.out w2 noH rfl HBk.out
  have HX := hide (HP.out w2 noH HE.out)
  go_wp2_with (refine wpList_st (by first | rfl | simp [Region.wanted, yielded]) 116 _ _ rfl _ rfl _ rfl _ hst ?_)
  refine bodyPost_ret (v := .tuple #[.agg noH.toArray, fltV 2 a]) (results_ct Tryz.results111 rfl rfl hld) rfl ?_
  exact ⟨rfl, HX.out⟩
 have hh : (hdC f a e d).1 = 0 := by unfold hdC; rw [if_neg c1, if_neg c2, if_neg c3, if_neg c4, if_neg c5, if_neg c6]
 rw [rh_ok hh]
 have HV : Hid (hdV (hdOf f a e d) = [.int .i64 (f a), .int .i64 ((lnR f a e).2.1 : Int), .int .i64 ((lnR f a e).2.1 + (lnR f a e).1 : Int), .int .i64 (d : Int)]) := rfl
 generalize hdV (hdOf f a e d) = HVv at *
 clear hb hs1 c2 hh c4 c5 hl hw0
 generalize f a = x at *
 generalize (lnR f a e).1 = ln at *
 generalize (lnR f a e).2.1 = st at *
 have w3 : wrap64 ((e : Int) - (st : Int)) = (e : Int) - (st : Int) := by unfold wrap64; omega
 have g5 : ¬ (e : Int) - (st : Int) < (ln : Int) := by omega
 have w4 : wrap64 ((st : Int) + (ln : Int)) = (st : Int) + (ln : Int) := by unfold wrap64; omega
 go_enter Tryz.func111, Tryz.ntmps111
 go_wp2_with fail
 refine (HTg.out _).mono ?_
 rintro en w1 ⟨rfl, hw⟩
 obtain rfl := hw.symm
 clear hw
 go_wp2_with fail
 refine HLn.out.mono ?_
 rintro en w2 ⟨rfl, hE2⟩
 replace HBk := hide (Blk.ext HBk.out hE2 HwV.out)
 replace HE := hide (HE.out.trans hE2)
 clear hE2 HLn
 have hst := Hsto.out w2 [.int .i64 x, .int .i64 (st : Int), .int .i64 ((st : Int) + (ln : Int)), .int .i64 (d : Int)] rfl (by simp [Value.oneCell']) HBk.out
 have hld := Hlod.out w2 [.int .i64 x, .int .i64 (st : Int), .int .i64 ((st : Int) + (ln : Int)), .int .i64 (d : Int)] rfl HBk.out
 have HX := hide (HP.out w2 [.int .i64 x, .int .i64 (st : Int), .int .i64 ((st : Int) + (ln : Int)), .int .i64 (d : Int)] HE.out)
 go_wp2_with (refine wpList_st (by first | rfl | simp [Region.wanted, yielded]) 116 _ _ rfl _ rfl _ rfl _ hst ?_)
 refine bodyPost_ret (v := .tuple #[.agg [.int .i64 x, .int .i64 (st : Int), .int .i64 ((st : Int) + (ln : Int)), .int .i64 (d : Int)].toArray, .nilIface]) (results_ct Tryz.results111 rfl rfl hld) rfl ?_
 exact ⟨by rw [HV.out], HX.out⟩
end Go.Proofs.YtkogbinfhoiggaaGreatDoor
