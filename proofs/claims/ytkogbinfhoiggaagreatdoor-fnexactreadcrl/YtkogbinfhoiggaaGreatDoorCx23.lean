/- Walks: one level of the model's reader (written by mkrdp.py). -/
import Derived.Test.YtkogbinfhoiggaaGreatDoorCx19
namespace Go.Proofs.YtkogbinfhoiggaaGreatDoor
set_option linter.unusedVariables false
set_option linter.unusedSimpArgs false
open Go.RowKit
set_option maxHeartbeats 6400000 in
set_option maxRecDepth 100000 in
theorem l7Read_bad (ba : Option Addr) (bb boff bn bc : Nat) (f : Nat → Int) (la : Option Addr) (ln lc : Nat) (L : List It) (B k a e d : Nat) (w : World) (hs : BSeg w ba bb boff bn f) (hb : ∀ i, i < bn → 0 ≤ f i ∧ f i < 256) (he : e ≤ bn) (hn : bn ≤ 4000) (ha : a ≤ 4000) (hd : d ≤ 100) (hbad : (hdC f a e d).1 ≠ 0) :
  Calls Tryz.prog 36 #[.agg (rrL (.slice ba bn bc) (.slice la ln lc) 0 0).toArray, .int .i64 (a : Int), .int .i64 (e : Int), .int .i64 (d : Int)] w (GivesRr B w (.slice ba bn bc) (.slice la ln lc) (rdT f (k + 1) a e d) L) := by
 obtain ⟨V, hV⟩ : ∃ V, (w.alloc (.cells (rrL (.slice ba bn bc) (.slice la ln lc) 0 0).toArray 60)).alloc (.cells #[.slice none 0 0, .slice none 0 0, .int .i64 0, .int .i64 0] 60) = V := ⟨_, rfl⟩
 obtain ⟨B0, B1, hE, -⟩ := box2 w (rrL (.slice ba bn bc) (.slice la ln lc) 0 0) rrZ 60 60 (w1 := V) (by rw [← hV]; exact Ext.refl _)
 have c0 := (B0 0 _ rfl).1
 have hld := rr_ld (.slice ba bn bc) (.slice la ln lc) 0 0 w.heap.size V B0
 have HB1 := hide B1
 have HE := hide hE
 have HlV : Hid (w.heap.size + 1 < V.heap.size) := hide (Blk.lt B1 (by simp [rrZ]))
 have hs1 := hs.of_all hE
 have HFl : Hid (∀ (c p : Int) W, Calls Tryz.prog 61 #[.agg (rrL (.slice ba bn bc) (.slice la ln lc) 0 0).toArray, .int .i64 c, .int .i64 p] W fun e w' => e = .returned (.agg (rrL (.slice ba bn bc) (.slice la ln lc) c p).toArray) ∧ Ext W w') := fun c p W => l7Fail_any ba bn bc la ln lc 0 0 c p W
 clear B0 B1 hE hs
 have w0 : wrap64 ((a : Int) + 1) = (a : Int) + 1 := by unfold wrap64; omega
 by_cases c1 : e ≤ a
 ·have hh : hdC f a e d = (2, (a : Int)) := by unfold hdC; rw [if_pos c1]
  have g1 : (e : Int) ≤ (a : Int) := by omega
  clear hs1 hb hbad
  have HR := hide (rdT_bad (k := k) hh (by omega))
  generalize rdT f (k + 1) a e d = RR at *
  clear hh
  go_enter Tryz.func36, Tryz.ntmps36
  go_wp2_with (refine wpList_ld (by first | rfl | simp [Region.wanted, yielded]) 60 _ rfl _ rfl _ hld ?_)
  refine (HFl.out 2 (a : Int) _).mono ?_
  rintro en w1 ⟨rfl, hE1⟩
  have hB2 := Blk.ext HB1.out hE1 HlV.out
  have hst := rr_st ba bn bc la ln lc 2 (a : Int) (w.heap.size + 1) rrZ rfl w1 hB2
  have hl2 := rr_ld (.slice ba bn bc) (.slice la ln lc) 2 (a : Int) (w.heap.size + 1) _ (Blk.putAll1 hB2 (vs := rrL (.slice ba bn bc) (.slice la ln lc) 2 (a : Int)) rfl)
  have HX := hide (below_putL (Nat.le_succ _) (rrL (.slice ba bn bc) (.slice la ln lc) 2 (a : Int)) 0 _ (HE.out.trans hE1))
  clear hB2 hE1 hld
  go_wp2_with (refine wpList_st (by first | rfl | simp [Region.wanted, yielded]) 60 _ _ rfl _ rfl _ rfl _ hst ?_)
  refine bodyPost_ret (v := .tuple #[.agg (rrL (.slice ba bn bc) (.slice la ln lc) 2 (a : Int)).toArray, .int .i64 (a : Int)]) (results_ct Tryz.results36 rfl rfl hl2) rfl ?_
  exact GivesRr.bad HR.out.1 HR.out.2 (by omega) HX.out
 obtain rfl := hs1.at' (by omega)
 have k1 := hs1.cell a (by omega)
 have b1 := hb a (by omega)
 have g1 : ¬ (e : Int) ≤ (a : Int) := by omega
 have g2 : (a : Int) < (bn : Int) := by omega
 have m1 : Int.tmod (f a) 32 = f a % 32 := by rw [Int.tmod_eq_emod_of_nonneg b1.1]
 by_cases c2 : f a % 32 = 31
 ·have hh : hdC f a e d = (3, (a : Int)) := by unfold hdC; rw [if_neg c1, if_pos c2]
  rw [c2] at m1
  clear hs1 hb hbad
  have HR := hide (rdT_bad (k := k) hh (by omega))
  generalize rdT f (k + 1) a e d = RR at *
  clear hh
  generalize f a = x at *
  go_enter Tryz.func36, Tryz.ntmps36
  go_wp2_with (refine wpList_ld (by first | rfl | simp [Region.wanted, yielded]) 60 _ rfl _ rfl _ hld ?_)
  refine (HFl.out 3 (a : Int) _).mono ?_
  rintro en w1 ⟨rfl, hE1⟩
  have hB2 := Blk.ext HB1.out hE1 HlV.out
  have hst := rr_st (some ⟨bb, boff, none⟩) bn bc la ln lc 3 (a : Int) (w.heap.size + 1) rrZ rfl w1 hB2
  have hl2 := rr_ld (.slice (some ⟨bb, boff, none⟩) bn bc) (.slice la ln lc) 3 (a : Int) (w.heap.size + 1) _ (Blk.putAll1 hB2 (vs := rrL (.slice (some ⟨bb, boff, none⟩) bn bc) (.slice la ln lc) 3 (a : Int)) rfl)
  have HX := hide (below_putL (Nat.le_succ _) (rrL (.slice (some ⟨bb, boff, none⟩) bn bc) (.slice la ln lc) 3 (a : Int)) 0 _ (HE.out.trans hE1))
  clear hB2 hE1 hld
  go_wp2_with (refine wpList_st (by first | rfl | simp [Region.wanted, yielded]) 60 _ _ rfl _ rfl _ rfl _ hst ?_)
  refine bodyPost_ret (v := .tuple #[.agg (rrL (.slice (some ⟨bb, boff, none⟩) bn bc) (.slice la ln lc) 3 (a : Int)).toArray, .int .i64 (a : Int)]) (results_ct Tryz.results36 rfl rfl hl2) rfl ?_
  exact GivesRr.bad HR.out.1 HR.out.2 (by omega) HX.out
 have g4 : (f a % 32 == 31) = false := by simp [c2]
 by_cases c3 : 12 < d
 ·have hh : hdC f a e d = (6, (a : Int)) := by unfold hdC; rw [if_neg c1, if_neg c2, if_pos c3]
  have g3 : (12 : Int) < (d : Int) := by omega
  clear hs1 hb hbad
  have HR := hide (rdT_bad (k := k) hh (by omega))
  generalize rdT f (k + 1) a e d = RR at *
  clear hh c2
  generalize f a = x at *
  generalize x % 32 = y at *
  go_enter Tryz.func36, Tryz.ntmps36
  go_wp2_with (refine wpList_ld (by first | rfl | simp [Region.wanted, yielded]) 60 _ rfl _ rfl _ hld ?_)
  refine (HFl.out 6 (a : Int) _).mono ?_
  rintro en w1 ⟨rfl, hE1⟩
  have hB2 := Blk.ext HB1.out hE1 HlV.out
  have hst := rr_st (some ⟨bb, boff, none⟩) bn bc la ln lc 6 (a : Int) (w.heap.size + 1) rrZ rfl w1 hB2
  have hl2 := rr_ld (.slice (some ⟨bb, boff, none⟩) bn bc) (.slice la ln lc) 6 (a : Int) (w.heap.size + 1) _ (Blk.putAll1 hB2 (vs := rrL (.slice (some ⟨bb, boff, none⟩) bn bc) (.slice la ln lc) 6 (a : Int)) rfl)
  have HX := hide (below_putL (Nat.le_succ _) (rrL (.slice (some ⟨bb, boff, none⟩) bn bc) (.slice la ln lc) 6 (a : Int)) 0 _ (HE.out.trans hE1))
  clear hB2 hE1 hld
  go_wp2_with (refine wpList_st (by first | rfl | simp [Region.wanted, yielded]) 60 _ _ rfl _ rfl _ rfl _ hst ?_)
  refine bodyPost_ret (v := .tuple #[.agg (rrL (.slice (some ⟨bb, boff, none⟩) bn bc) (.slice la ln lc) 6 (a : Int)).toArray, .int .i64 (a : Int)]) (results_ct Tryz.results36 rfl rfl hl2) rfl ?_
  exact GivesRr.bad HR.out.1 HR.out.2 (by omega) HX.out
 have g3 : ¬ (12 : Int) < (d : Int) := by omega
 have HSz : Hid (∀ W, BSeg W (some ⟨bb, boff, none⟩) bb boff bn f → Calls Tryz.prog 62 #[.slice (some ⟨bb, boff, none⟩) bn bc, .int .i64 ((a : Int) + 1), .int .i64 (e : Int)] W fun en w' => en = .returned (lzV f a e) ∧ w' = W) := fun W h => l7Size_any _ bb boff bn bc f a e W h hb he hn ha
 by_cases c4 : (lnR f a e).2.2 = 2
 ·have hh : hdC f a e d = (2, (a : Int)) := by unfold hdC; rw [if_neg c1, if_neg c2, if_neg c3, if_pos c4]
  have hz : lzV f a e = .tuple #[.int .i64 ((lnR f a e).1 : Int), .int .i64 (lzS f a e : Int), .int .i64 2] := by unfold lzV; rw [c4]
  rw [hz] at HSz
  clear hb hbad hz c4
  have HR := hide (rdT_bad (k := k) hh (by omega))
  generalize rdT f (k + 1) a e d = RR at *
  clear hh c2
  generalize (lnR f a e).1 = l1 at *
  generalize lzS f a e = l2 at *
  generalize hx : f a = x at *
  clear hx
  generalize x % 32 = y at *
  go_enter Tryz.func36, Tryz.ntmps36
  go_wp2_with fail
  refine (HSz.out _ hs1).mono ?_
  rintro en w9 ⟨rfl, hw9⟩
  obtain rfl := hw9.symm
  clear hw9
  go_wp2_with (refine wpList_ld (by first | rfl | simp [Region.wanted, yielded]) 60 _ rfl _ rfl _ hld ?_)
  refine (HFl.out 2 (a : Int) _).mono ?_
  rintro en w1 ⟨rfl, hE1⟩
  have hB2 := Blk.ext HB1.out hE1 HlV.out
  have hst := rr_st (some ⟨bb, boff, none⟩) bn bc la ln lc 2 (a : Int) (w.heap.size + 1) rrZ rfl w1 hB2
  have hl2 := rr_ld (.slice (some ⟨bb, boff, none⟩) bn bc) (.slice la ln lc) 2 (a : Int) (w.heap.size + 1) _ (Blk.putAll1 hB2 (vs := rrL (.slice (some ⟨bb, boff, none⟩) bn bc) (.slice la ln lc) 2 (a : Int)) rfl)
  have HX := hide (below_putL (Nat.le_succ _) (rrL (.slice (some ⟨bb, boff, none⟩) bn bc) (.slice la ln lc) 2 (a : Int)) 0 _ (HE.out.trans hE1))
  clear hB2 hE1 hld
  go_wp2_with (refine wpList_st (by first | rfl | simp [Region.wanted, yielded]) 60 _ _ rfl _ rfl _ rfl _ hst ?_)
  refine bodyPost_ret (v := .tuple #[.agg (rrL (.slice (some ⟨bb, boff, none⟩) bn bc) (.slice la ln lc) 2 (a : Int)).toArray, .int .i64 (a : Int)]) (results_ct Tryz.results36 rfl rfl hl2) rfl ?_
  exact GivesRr.bad HR.out.1 HR.out.2 (by omega) HX.out
 by_cases c5 : (lnR f a e).2.2 = 4
 ·have hh : hdC f a e d = (4, (a : Int) + 1) := by unfold hdC; rw [if_neg c1, if_neg c2, if_neg c3, if_neg c4, if_pos c5]
  have hz : lzV f a e = .tuple #[.int .i64 ((lnR f a e).1 : Int), .int .i64 (lzS f a e : Int), .int .i64 4] := by unfold lzV; rw [c5]
  rw [hz] at HSz
  clear hb hbad hz c4 c5
  have HR := hide (rdT_bad (k := k) hh (by omega))
  generalize rdT f (k + 1) a e d = RR at *
  clear hh c2
  generalize (lnR f a e).1 = l1 at *
  generalize lzS f a e = l2 at *
  generalize hx : f a = x at *
  clear hx
  generalize x % 32 = y at *
  go_enter Tryz.func36, Tryz.ntmps36
  go_wp2_with fail
  refine (HSz.out _ hs1).mono ?_
  rintro en w9 ⟨rfl, hw9⟩
  obtain rfl := hw9.symm
  clear hw9
  go_wp2_with (refine wpList_ld (by first | rfl | simp [Region.wanted, yielded]) 60 _ rfl _ rfl _ hld ?_)
  refine (HFl.out 4 ((a : Int) + 1) _).mono ?_
  rintro en w1 ⟨rfl, hE1⟩
  have hB2 := Blk.ext HB1.out hE1 HlV.out
  have hst := rr_st (some ⟨bb, boff, none⟩) bn bc la ln lc 4 ((a : Int) + 1) (w.heap.size + 1) rrZ rfl w1 hB2
  have hl2 := rr_ld (.slice (some ⟨bb, boff, none⟩) bn bc) (.slice la ln lc) 4 ((a : Int) + 1) (w.heap.size + 1) _ (Blk.putAll1 hB2 (vs := rrL (.slice (some ⟨bb, boff, none⟩) bn bc) (.slice la ln lc) 4 ((a : Int) + 1)) rfl)
  have HX := hide (below_putL (Nat.le_succ _) (rrL (.slice (some ⟨bb, boff, none⟩) bn bc) (.slice la ln lc) 4 ((a : Int) + 1)) 0 _ (HE.out.trans hE1))
  clear hB2 hE1 hld
  go_wp2_with (refine wpList_st (by first | rfl | simp [Region.wanted, yielded]) 60 _ _ rfl _ rfl _ rfl _ hst ?_)
  refine bodyPost_ret (v := .tuple #[.agg (rrL (.slice (some ⟨bb, boff, none⟩) bn bc) (.slice la ln lc) 4 ((a : Int) + 1)).toArray, .int .i64 (a : Int)]) (results_ct Tryz.results36 rfl rfl hl2) rfl ?_
  exact GivesRr.bad HR.out.1 HR.out.2 (by omega) HX.out
 by_cases c6 : e < (lnR f a e).2.1 + (lnR f a e).1
 ·have hh : hdC f a e d = (2, (a : Int)) := by unfold hdC; rw [if_neg c1, if_neg c2, if_neg c3, if_neg c4, if_neg c5, if_pos c6]
  have hw0 := lnR_well c4 c5
  have hsm := lnR_small (f := f) (a := a) (e := e) (fun i hi => hb i (by omega))
  have hz : lzV f a e = .tuple #[.int .i64 ((lnR f a e).1 : Int), .int .i64 ((lnR f a e).2.1 : Int), .int .i64 0] := by unfold lzV lzS; rw [hw0.1, if_pos rfl]
  rw [hz] at HSz
  clear hb hbad hz c4 c5
  have HR := hide (rdT_bad (k := k) hh (by omega))
  generalize rdT f (k + 1) a e d = RR at *
  clear hh c2 hw0
  generalize (lnR f a e).1 = l1 at *
  generalize (lnR f a e).2.1 = l2 at *
  generalize hx : f a = x at *
  clear hx
  generalize x % 32 = y at *
  have M1 := hide m1
  clear m1
  have w5 : wrap64 ((l2 : Int) + (l1 : Int)) = (l2 : Int) + (l1 : Int) := by unfold wrap64; omega
  have g6 : (e : Int) < (l2 : Int) + (l1 : Int) := by omega
  have m1 := M1.out
  clear M1
  go_enter Tryz.func36, Tryz.ntmps36
  go_wp2_with fail
  refine (HSz.out _ hs1).mono ?_
  rintro en w9 ⟨rfl, hw9⟩
  obtain rfl := hw9.symm
  clear hw9
  go_wp2_with (refine wpList_ld (by first | rfl | simp [Region.wanted, yielded]) 60 _ rfl _ rfl _ hld ?_)
  refine (HFl.out 2 (a : Int) _).mono ?_
  rintro en w1 ⟨rfl, hE1⟩
  have hB2 := Blk.ext HB1.out hE1 HlV.out
  have hst := rr_st (some ⟨bb, boff, none⟩) bn bc la ln lc 2 (a : Int) (w.heap.size + 1) rrZ rfl w1 hB2
  have hl2 := rr_ld (.slice (some ⟨bb, boff, none⟩) bn bc) (.slice la ln lc) 2 (a : Int) (w.heap.size + 1) _ (Blk.putAll1 hB2 (vs := rrL (.slice (some ⟨bb, boff, none⟩) bn bc) (.slice la ln lc) 2 (a : Int)) rfl)
  have HX := hide (below_putL (Nat.le_succ _) (rrL (.slice (some ⟨bb, boff, none⟩) bn bc) (.slice la ln lc) 2 (a : Int)) 0 _ (HE.out.trans hE1))
  clear hB2 hE1 hld
  go_wp2_with (refine wpList_st (by first | rfl | simp [Region.wanted, yielded]) 60 _ _ rfl _ rfl _ rfl _ hst ?_)
  refine bodyPost_ret (v := .tuple #[.agg (rrL (.slice (some ⟨bb, boff, none⟩) bn bc) (.slice la ln lc) 2 (a : Int)).toArray, .int .i64 (a : Int)]) (results_ct Tryz.results36 rfl rfl hl2) rfl ?_
  exact GivesRr.bad HR.out.1 HR.out.2 (by omega) HX.out
 exact absurd (by unfold hdC; rw [if_neg c1, if_neg c2, if_neg c3, if_neg c4, if_neg c5, if_neg c6]) hbad
end Go.Proofs.YtkogbinfhoiggaaGreatDoor
