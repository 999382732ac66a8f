/- Walks: the model's reader at every depth, ReadDer of the model. Walks: ReadDer of the program. Walks: the model's items: l10Item, l10Int, l10Made, l10Ints. Plain facts: the bytes of a natural, with a byte 0 ahead just where it is asked for; a byte ahead of others. Walks: the model's keys as items: l10Ints, l10Nat. Lists of items that tell the same, as a law holds them against each other. The walk of the law FnExactReadDer. -/
import Derived.Test.YtkogbinfhoiggaaGreatDoorCx22
import Derived.Test.YtkogbinfhoiggaaGreatDoorCx23
import Derived.Test.YtkogbinfhoiggaaGreatDoorCx16
import Derived.Test.YtkogbinfhoiggaaGreatDoorCx18
import Derived.WalkLawsBesides
import Derived.OwnWalk
import Derived.Lib.BitFns
import Derived.Lib.Tables
namespace Go.Proofs.YtkogbinfhoiggaaGreatDoor
set_option linter.unusedVariables false
set_option linter.unusedSimpArgs false
section
open Go.RowKit
theorem l7Read_any (bb boff bn bc : Nat) (f : Nat → Int) (B : Nat) (hb : ∀ i, i < bn → 0 ≤ f i ∧ f i < 256) (hn : bn ≤ 4000) (hbc : bn ≤ bc) (hbc2 : bc ≤ 9223372036854775807) (hbB : 0 < bn → bb < B) :
  ∀ (k d : Nat), d + (k + 1) = 14 → ∀ (a e : Nat) (la : Option Addr) (ln lc : Nat) (L : List It) (w : World), BSeg w (some ⟨bb, boff, none⟩) bb boff bn f → e ≤ bn → a ≤ 4000 → LAcc B w (.slice la ln lc) L → B ≤ w.heap.size → L.length ≤ a →
   Calls Tryz.prog 36 #[.agg (rrL (.slice (some ⟨bb, boff, none⟩) bn bc) (.slice la ln lc) 0 0).toArray, .int .i64 (a : Int), .int .i64 (e : Int), .int .i64 (d : Int)] w (GivesRr B w (.slice (some ⟨bb, boff, none⟩) bn bc) (.slice la ln lc) (rdT f (k + 1) a e d) L) := by
 intro k
 induction k with
 | zero =>
  intro d hd a e la ln lc L w hs he ha hA hB hL
  exact l7Read_bad _ bb boff bn bc f la ln lc L B 0 a e d w hs hb he hn ha (by omega) (fun h => by have := (hdC_ok h).2.2.1; omega)
 | succ k ih =>
  intro d hd a e la ln lc L w hs he ha hA hB hL
  by_cases hok : (hdC f a e d).1 = 0
  ·have h0 := hdC_ok hok
   cases hm : mdT (f a)
   ·exact l7Read_leaf bb boff bn bc f la ln lc L B (k + 1) a e d w hs hb he hn hbc hbc2 hA hB hbB (by omega) hok hm
   ·exact l7Read_node bb boff bn bc f la ln lc L B (k + 1) a e d w hs hb he hn hbc hbc2 hA hB hbB hL hok hm (fun x ga gn gc LL W k1 k2 k3 k4 k5 => ih (d + 1) (by omega) x (hdE f a e) ga gn gc LL W k1 (by omega) (by omega) k2 k3 k4)
  ·exact l7Read_bad _ bb boff bn bc f la ln lc L B (k + 1) a e d w hs hb he hn ha (by omega) hok
def rdA (f : Nat → Int) (bn : Nat) : List Ic × Int × Int :=
 if 4000 < bn then ([], 1, 0) else if (rdT f 14 0 bn 0).code ≠ 0 then ([], (rdT f 14 0 bn 0).code, (rdT f 14 0 bn 0).pl)
 else if 300 < (rdT f 14 0 bn 0).its.length then ([], 7, 0) else if (rdT f 14 0 bn 0).nx < bn then ([], 5, ((rdT f 14 0 bn 0).nx : Int)) else ((rdT f 14 0 bn 0).its, 0, 0)
def GivesRd (w : World) (A : List Ic × Int × Int) (e : Ending) (w' : World) : Prop :=
 ∃ v M, e = .returned (.tuple #[v, .int .i64 A.2.1, .int .i64 A.2.2]) ∧ LAcc w.heap.size w' v M ∧ (M.map ct = A.1 ∧ CpL M) ∧ Ext w w'
theorem LAcc.none' (w : World) (B : Nat) : LAcc B w (.slice none 0 0) [] := ⟨⟨by simp [rowL], .inl ⟨rfl, rfl⟩⟩, Bods.nil _ _, fun t ht => by cases ht⟩
theorem ext_of_grown {a b : World} (h : a.grownBy b none) : Ext a b := ⟨h.os, h.tape, h.output, h.size, fun k hk => h.block k hk (by simp)⟩
theorem l7Read_top (ba : Option Addr) (bb boff bn bc : Nat) (f : Nat → Int) (w W : World) (hw : Ext w W) (hs : BSeg w ba bb boff bn f) (hb : ∀ i, i < bn → 0 ≤ f i ∧ f i < 256) (hn : bn ≤ 4000) (hbc : bn ≤ bc) (hbc2 : bc ≤ 9223372036854775807) :
  Calls Tryz.prog 36 #[.agg (rrL (.slice ba bn bc) (.slice none 0 0) 0 0).toArray, .int .i64 0, .int .i64 (bn : Int), .int .i64 0] W (GivesRr w.heap.size W (.slice ba bn bc) (.slice none 0 0) (rdT f 14 0 bn 0) []) := by
 by_cases h0 : 0 < bn
 ·obtain rfl := hs.at' h0
  exact l7Read_any bb boff bn bc f w.heap.size hb hn hbc hbc2 (fun h => hs.lt h) 13 0 rfl 0 bn none 0 0 [] W (hs.of_all hw) (Nat.le_refl _) (by omega) (LAcc.none' _ _) (Below.size hw) (Nat.le_refl _)
 ·exact l7Read_bad ba bb boff bn bc f none 0 0 [] w.heap.size 13 0 bn 0 W (hs.of_all hw) hb (Nat.le_refl _) hn (by omega) (by omega) (fun h => by have := (hdC_ok h).1; omega)
set_option maxHeartbeats 6400000 in
set_option maxRecDepth 100000 in
theorem specReadDer_any (ba : Option Addr) (bb boff bn bc : Nat) (f : Nat → Int) (w : World) (hs : BSeg w ba bb boff bn f) (hb : ∀ i, i < bn → 0 ≤ f i ∧ f i < 256) (hn : bn ≤ 1048576) (hbc : bn ≤ bc) (hbc2 : bc ≤ 9223372036854775807) :
  Calls Tryz.prog 12 #[.slice ba bn bc] w (GivesRd w (rdA f bn)) := by
 have HN := hide (LAcc.nil w w.heap.size (Nat.le_refl _))
 have HE0 := hide (Ext.alloc w (.cells #[] 40))
 by_cases h4 : 4000 < bn
 ·have h4' : (4000 : Int) < (bn : Int) := by omega
  have HR : Hid (rdA f bn = ([], 1, 0)) := by show _ = _; unfold rdA; rw [if_pos h4]
  generalize rdA f bn = A at *
  clear hbc hbc2
  go_enter Tryz.func12, Tryz.ntmps12
  go_wp2
  go_ret3
  exact ⟨_, [], by rw [HR.out]; rfl, HN.out, ⟨by rw [HR.out]; rfl, fun t ht => by cases ht⟩, HE0.out⟩
 ·have h4' : ¬ (4000 : Int) < (bn : Int) := by omega
  have HTop := hide (l7Read_top ba bb boff bn bc f w _ HE0.out hs hb (by omega) hbc hbc2)
  have HR : Hid (rdA f bn = if (rdT f 14 0 bn 0).code ≠ 0 then ([], (rdT f 14 0 bn 0).code, (rdT f 14 0 bn 0).pl) else if 300 < (rdT f 14 0 bn 0).its.length then ([], 7, 0) else if (rdT f 14 0 bn 0).nx < bn then ([], 5, ((rdT f 14 0 bn 0).nx : Int)) else ((rdT f 14 0 bn 0).its, 0, 0)) := by show _ = _; unfold rdA; rw [if_neg h4]
  generalize rdA f bn = A at *
  generalize rdT f 14 0 bn 0 = R at *
  clear hbc hbc2 hs hb
  go_enter Tryz.func12, Tryz.ntmps12
  go_wp2_with fail
  generalize w.alloc (.cells #[] 40) = w1 at *
  refine HTop.out.mono ?_
  rintro en w2 ⟨la, ln, lc, z, rfl, hres, hgr⟩
  have Hres := hide hres
  have HE := hide (Ext.trans HE0.out (ext_of_grown hgr))
  have HN2 := hide (HN.out.ext (ext_of_grown hgr))
  clear hres hgr HTop HN HE0
  obtain ⟨V, hV⟩ : ∃ V, w2.alloc (.cells #[.slice none 0 0, .slice none 0 0, .int .i64 0, .int .i64 0] 60) = V := ⟨_, rfl⟩
  have hB : Blk V w2.heap.size rrZ := by rw [← hV]; exact Blk.alloc w2 rrZ 60
  have hEV : Ext w2 V := by rw [← hV]; exact Ext.alloc _ _
  by_cases hc : R.code = 0
  ·obtain ⟨hz, -, M, hA, hct, hnw⟩ := Hres.out hc
   have HCp : Hid (CpL M) := hide (fun t ht h0 => (hnw t ht h0).2)
   rw [List.nil_append] at hA
   have hln := hA.len_n
   have hl2 : M.length = R.its.length := by rw [← hct, List.length_map]
   subst hz
   rw [hc, if_pos rfl]
   have hst := rr_st ba bn bc la ln lc 0 0 w2.heap.size rrZ rfl V hB
   have hB2 := Blk.putAll1 hB (vs := rrL (.slice ba bn bc) (.slice la ln lc) 0 0) rfl
   have HEx := hide (below_putL (Nat.le_refl _) (rrL (.slice ba bn bc) (.slice la ln lc) 0 0) 0 _ hEV)
   have c2 := (hB2 2 _ rfl).1
   have c1 := (hB2 1 _ rfl).1
   have HA := hide hA
   have Hct := hide hct
   have Hln := hide (hln.trans hl2)
   have Hc := hide hc
   clear hA hct hnw hln hl2 hc hB hB2 hEV Hres
   by_cases h3 : 300 < ln
   ·have h3' : (300 : Int) < (ln : Int) := by omega
    have HA2 : Hid (A = ([], 7, 0)) := by show _ = _; rw [HR.out, if_neg (fun h => h Hc.out), if_pos (by rw [← Hln.out]; exact h3)]
    go_wp2_with (refine wpList_st (by first | rfl | simp [Region.wanted, yielded]) 60 _ _ rfl _ rfl _ rfl _ hst ?_)
    go_ret3
    exact ⟨_, [], by rw [HA2.out]; rfl, HN2.out.ext HEx.out, ⟨by rw [HA2.out]; rfl, fun t ht => by cases ht⟩, Ext.trans HE.out HEx.out⟩
   ·have h3' : ¬ (300 : Int) < (ln : Int) := by omega
    by_cases h5 : R.nx < bn
    ·have h5' : (R.nx : Int) < (bn : Int) := by omega
     have HA2 : Hid (A = ([], 5, (R.nx : Int))) := by show _ = _; rw [HR.out, if_neg (fun h => h Hc.out), if_neg (by rw [← Hln.out]; exact h3), if_pos h5]
     go_wp2_with (refine wpList_st (by first | rfl | simp [Region.wanted, yielded]) 60 _ _ rfl _ rfl _ rfl _ hst ?_)
     go_ret3
     exact ⟨_, [], by rw [HA2.out]; rfl, HN2.out.ext HEx.out, ⟨by rw [HA2.out]; rfl, fun t ht => by cases ht⟩, Ext.trans HE.out HEx.out⟩
    ·have h5' : ¬ (R.nx : Int) < (bn : Int) := by omega
     have HA2 : Hid (A = (R.its, 0, 0)) := by show _ = _; rw [HR.out, if_neg (fun h => h Hc.out), if_neg (by rw [← Hln.out]; exact h3), if_neg h5]
     go_wp2_with (refine wpList_st (by first | rfl | simp [Region.wanted, yielded]) 60 _ _ rfl _ rfl _ rfl _ hst ?_)
     go_ret3
     exact ⟨_, M, by rw [HA2.out]; rfl, HA.out.ext HEx.out, ⟨by rw [HA2.out]; exact Hct.out, HCp.out⟩, Ext.trans HE.out HEx.out⟩
  ·rw [if_neg hc]
   have HA2 : Hid (A = ([], R.code, R.pl)) := by show _ = _; rw [HR.out, if_pos hc]
   have cn : (R.code != 0) = true := by simpa using hc
   generalize R.code = cc at *
   generalize R.pl = pp at *
   have hst := rr_st ba bn bc la ln lc cc pp w2.heap.size rrZ rfl V hB
   have hB2 := Blk.putAll1 hB (vs := rrL (.slice ba bn bc) (.slice la ln lc) cc pp) rfl
   have HEx := hide (below_putL (Nat.le_refl _) (rrL (.slice ba bn bc) (.slice la ln lc) cc pp) 0 _ hEV)
   have c2 := (hB2 2 _ rfl).1
   have c3 := (hB2 3 _ rfl).1
   clear hB hB2 hEV Hres hc HR
   go_wp2_with (refine wpList_st (by first | rfl | simp [Region.wanted, yielded]) 60 _ _ rfl _ rfl _ rfl _ hst ?_)
   go_quiet (fail)
   go_wp2
   go_ret3
   exact ⟨_, [], by rw [HA2.out]; rfl, (HN2.out.ext HEx.out).ext ⟨rfl, rfl, rfl, Nat.le_refl _, fun _ _ => rfl⟩, ⟨by rw [HA2.out]; rfl, fun t ht => by cases ht⟩, Ext.trans (Ext.trans HE.out HEx.out) ⟨rfl, rfl, rfl, Nat.le_refl _, fun _ _ => rfl⟩⟩
end
section
open Go.RowKit Go.Shelf
theorem readTree_long (ad : Option Addr) (bn cap : Nat) (w : World) (hbn : 4000 < bn) : Calls Tryz.prog 47 #[.slice ad bn cap] w fun e w' => ∃ v, e = .returned (.tuple #[v, fltV 1 0]) ∧ Ext w w' := by
 have h4 : (4000 : Int) < (bn : Int) := by omega
 refine (callsIn_wide (n := 9)).1 ?_
 refine callsIn_of_wp_marks Tryz.func47 rfl trivial ?_
 simp only [Tryz.ntmps47, List.size_toArray, List.length_cons, List.length_nil, Nat.reduceAdd, Nat.reduceSub, Array.replicate_succ, Array.replicate_zero, List.push_toArray, List.append_toArray, List.nil_append, List.cons_append]
 obtain ⟨V1, hV1⟩ : ∃ V, ((w.alloc (.cells #[.slice ad bn cap] 22)).alloc (.cells #[.slice none 0 0] 35)).alloc (.cells #[.nilIface] 73) = V := ⟨_, rfl⟩
 obtain ⟨A0, A1, A2, e1, -⟩ := box3 w [.slice ad bn cap] [.slice none 0 0] [.nilIface] 22 35 73 (w1 := V1) (by rw [← hV1]; exact Ext.refl _)
 have c0 := (A0 0 _ rfl).1
 have c1 := (A1 0 _ rfl).1
 have c2 := (A2 0 _ rfl).1
 have f1 := (A1 0 _ rfl).2
 have f2 := (A2 0 _ rfl).2
 have HE := hide e1
 clear A0 A1 A2 e1
 gi_wp2
 have hne : w.heap.size + 1 ≠ w.heap.size + 1 + 1 := by omega
 refine ⟨_, results_2c Tryz.results47 rfl rfl (ld_items _ _ _ ((World.cell?_of_block (a := ⟨w.heap.size + 1, 0, none⟩) (Below.heap_setCell _ _ _ _ (show w.heap.size + 1 ≠ w.heap.size + 1 + 1 from hne))).trans (World.cell?_setCell_same _ _ _ c1))) (ld_error _ _ _ (World.cell?_setCell_same _ _ _ ((World.cell?_of_block (a := ⟨w.heap.size + 1 + 1, 0, none⟩) (Below.heap_setCell _ _ _ _ (show w.heap.size + 1 + 1 ≠ w.heap.size + 1 from hne.symm))).trans c2))), ?_⟩
 exact ⟨_, rfl, Below.setCell (p := ⟨w.heap.size + 1 + 1, 0, none⟩) (Below.setCell (p := ⟨w.heap.size + 1, 0, none⟩) HE.out (Nat.le_succ _) _) (Nat.le_trans (Nat.le_succ _) (Nat.le_succ _)) _⟩
def GivesRu (f : Nat → Int) (bn : Nat) (w : World) (e : Ending) (w' : World) : Prop :=
 ∃ v u, e = .returned (.tuple #[v, u]) ∧ Ext w w' ∧ (((rdA f bn).2.1 ≠ 0 ∧ (rdA f bn).1 = [] ∧ u = fltV (rdA f bn).2.1 (rdA f bn).2.2) ∨ (u = .nilIface ∧ (rdA f bn).2 = (0, 0) ∧ ∃ L, LAcc w.heap.size w' v L ∧ (L.map ct = (rdA f bn).1 ∧ CpL L)))
theorem readTree_all (ad : Option Addr) (b off bn cap : Nat) (f : Nat → Int) (w : World) (hcap : bn ≤ cap) (hcap2 : cap ≤ 9223372036854775807) (hf : ∀ i, i < bn → 0 ≤ f i ∧ f i < 256) (hs : BSeg w ad b off bn f) :
  Calls Tryz.prog 47 #[.slice ad bn cap] w (GivesRu f bn w) := by
 by_cases h4 : 4000 < bn
 ·refine (readTree_long ad bn cap w h4).mono ?_
  rintro e w' ⟨v, rfl, hE⟩
  have hA : rdA f bn = ([], 1, 0) := by unfold rdA; rw [if_pos h4]
  exact ⟨v, _, rfl, hE, .inl (by rw [hA]; exact ⟨by show (1 : Int) ≠ 0; decide, rfl, rfl⟩)⟩
 ·by_cases hc : (rdT f 14 0 bn 0).code = 0
  ·obtain ⟨hR, h1, h2⟩ := run_right f bn hc
   refine (readTree_any ad b off bn cap f _ 0 0 w (by omega) hcap hcap2 hf hs hR).mono ?_
   rintro e w' ⟨v, u, rfl, hE, hcs⟩
   rw [h1, h2] at hcs
   have hA : rdA f bn = if 300 < (rdT f 14 0 bn 0).its.length then ([], 7, 0) else if (rdT f 14 0 bn 0).nx < bn then ([], 5, ((rdT f 14 0 bn 0).nx : Int)) else ((rdT f 14 0 bn 0).its, 0, 0) := by unfold rdA; rw [if_neg h4, if_neg (fun h => h hc)]
   refine ⟨v, u, rfl, hE, ?_⟩
   rcases hcs with ⟨c0, -⟩ | ⟨-, c1, rfl⟩ | ⟨-, c1, c2, rfl⟩ | ⟨-, c1, c2, rfl, L, hL, hm⟩
   ·exact absurd rfl c0
   ·rw [if_pos c1] at hA
    exact .inl (by rw [hA]; exact ⟨by show (7 : Int) ≠ 0; decide, rfl, rfl⟩)
   ·rw [if_neg c1, if_pos c2] at hA
    exact .inl (by rw [hA]; exact ⟨by show (5 : Int) ≠ 0; decide, rfl, rfl⟩)
   ·rw [if_neg c1, if_neg c2] at hA
    exact .inr (by rw [hA]; exact ⟨rfl, rfl, L, hL, hm⟩)
  ·obtain ⟨H, hR⟩ := run_wrong f bn hc
   refine (readTree_any ad b off bn cap f H _ _ w (by omega) hcap hcap2 hf hs hR).mono ?_
   rintro e w' ⟨v, u, rfl, hE, hcs⟩
   have hA : rdA f bn = ([], (rdT f 14 0 bn 0).code, (rdT f 14 0 bn 0).pl) := by unfold rdA; rw [if_neg h4, if_pos hc]
   refine ⟨v, u, rfl, hE, ?_⟩
   rcases hcs with ⟨c0, rfl⟩ | ⟨c0, -⟩ | ⟨c0, -⟩ | ⟨c0, -⟩
   ·exact .inl (by rw [hA]; exact ⟨hc, rfl, rfl⟩)
   all_goals exact absurd c0 hc
set_option maxHeartbeats 6400000 in
set_option maxRecDepth 100000 in
theorem implReadDer_any (ba : Option Addr) (bb boff bn bc : Nat) (f : Nat → Int) (w : World) (hs : BSeg w ba bb boff bn f) (hb : ∀ i, i < bn → 0 ≤ f i ∧ f i < 256) (hbc : bn ≤ bc) (hbc2 : bc ≤ 9223372036854775807) (hg : Hdl w) :
  Calls Tryz.prog 22 #[.slice ba bn bc] w (GivesRd w (rdA f bn)) := by
 have HT := hide (readTree_all ba bb boff bn bc f w hbc hbc2 hb hs)
 obtain ⟨A, hA⟩ : ∃ A, rdA f bn = A := ⟨_, rfl⟩
 rw [hA]
 have HA := hide hA
 have Hg := hide hg
 clear hA hs hb hg hbc hbc2
 go_enter Tryz.func22, Tryz.ntmps22
 go_wp2_with fail
 refine HT.out.mono ?_
 rintro e w1 ⟨v, u, rfl, hE1, hcs⟩
 rw [HA.out] at hcs
 have HE1 := hide hE1
 have B0 := Blk.alloc w1 [.int .i64 0, .int .i64 0] 77
 have hgT := (Below.cell (HE1.out.trans (Ext.alloc w1 (.cells #[.int .i64 0, .int .i64 0] 77))) (p := ⟨0, 0, none⟩) (World.block_lt_of_cell? _ _ Hg.out)).trans Hg.out
 rcases hcs with ⟨hc0, hc1, rfl⟩ | ⟨rfl, hc1, L, hL, hm⟩
 ·obtain ⟨cc, hcc⟩ : ∃ cc, A.2.1 = cc := ⟨_, rfl⟩
  obtain ⟨pp, hpp⟩ : ∃ pp, A.2.2 = pp := ⟨_, rfl⟩
  have HAs := hide (as_fault cc pp w1.heap.size [.int .i64 0, .int .i64 0] rfl _ hgT B0)
  rw [hcc, hpp]
  have Hcc := hide hcc
  have Hpp := hide hpp
  have Hc1 := hide hc1
  clear hcc hpp hc0 hc1 hE1 HT
  simp only [fltV]
  go_wp2_with fail
  refine HAs.out.mono ?_
  rintro e w2 ⟨rfl, w2', hE2, rfl⟩
  have B2 := Blk.putAll1 (B0.ext hE2 (by simp)) (vs := ftL cc pp) rfl
  have c0 := (B2 0 (.int .i64 cc) rfl).1
  have c1 := (B2 1 (.int .i64 pp) rfl).1
  have HEx := hide (below_putL (Nat.le_refl _) (ftL cc pp) 0 _ (Ext.trans (Ext.alloc w1 (.cells #[.int .i64 0, .int .i64 0] 77)) hE2))
  clear B0 B2 hE2 HAs hgT
  obtain ⟨W, hW⟩ : ∃ W, putL w1.heap.size 0 (ftL cc pp) w2' = W := ⟨_, rfl⟩
  rw [hW] at c0 c1 HEx ⊢
  have f0 := fun q => cell_reC (X := fun _ => False) c0 (fun h => h) q
  have f1 := fun q => cell_reC (X := fun _ => False) c1 (fun h => h) q
  clear hW
  go_wp2_with fail
  refine anyK_begin (fun _ => False) 8 rfl (by kernel_rfl) ?_
  refine anyK_take 1 4 4 rfl (by decide) (by kernel_rfl) (fun _ _ d _ _ h => by cases d <;> exact h) ?_
  repeat (refine headC_step (fun K hK => ?_); go_simp; refine hK _ ?_; clear hK K)
  refine headC_nil ?_
  clear f0 f1
  refine anyK_one 0 (by kernel_rfl) ?_
  refine stepK_run rfl ?_
  intro w3 h3 K2 hK2
  go_simp
  refine hK2 _ _ (.of_ext (Ext.trans h3 (Ext.alloc _ _))) ?_
  clear hK2 K2
  refine anyK_take 5 3 0 rfl (by decide) (by kernel_rfl) (fun _ _ d _ _ h => by cases d <;> exact h) ?_
  repeat (refine headC_step (fun K hK => ?_); go_simp; refine hK _ ?_; clear hK K)
  refine headC_nil ?_
  refine anyK_done (by kernel_rfl) ?_ 0
  intro w5 h5
  have hN := (LAcc.nil w3 w.heap.size (by have q1 := Below.size HE1.out; have q2 := Below.size HEx.out; have q3 := Below.size h3; omega)).ext h5
  have HN := hide hN
  have H5 := hide (Ext.trans HE1.out (Ext.trans HEx.out (Ext.trans h3 (Ext.trans (Ext.alloc w3 (.cells #[] 40)) h5))))
  clear hN h3 h5
  go_wp2
  go_ret3
  exact ⟨_, [], by rw [Hcc.out, Hpp.out]; rfl, HN.out, ⟨Hc1.out.symm, fun t ht => by cases ht⟩, H5.out⟩
 ·have HAs := hide (fun t w => as_none t w)
  have HL := hide hL
  have Hm := hide hm
  have Hc1 := hide hc1
  clear hL hm hc1 hE1 HT B0 hgT
  go_wp2_with fail
  refine (HAs.out _ _).mono ?_
  rintro e w2 ⟨rfl, rfl⟩
  go_wp2
  go_ret3
  exact ⟨_, L, by rw [Hc1.out]; rfl, HL.out.ext (Ext.alloc _ _), Hm.out, Ext.trans HE1.out (Ext.alloc _ _)⟩
end
section
open Go.RowKit
def ibL (n : Int) : List Int := (List.range (ilen n + 1)).map (fun i => ib n (ilen n - i))
def intC (n : Int) : Ic := ⟨2, 0, ibL n⟩
theorem l10Item_any (tag : Int) (a : Option Addr) (g off n cap : Nat) (f : Nat → Int) (B : Nat) (w : World) (h : BOwn w a g off n f) (hg : B ≤ g) (hB : B ≤ w.heap.size) :
  Calls Tryz.prog 45 #[.int .i64 tag, .slice a n cap] w fun e w' => GivesIs B w [⟨tag, 0, (List.range n).map f⟩] e w' := by
 have H := hide (LAcc.it w _ B (Bods.one (cap := cap) tag h hg) hB)
 clear h
 go_enter Tryz.func45, Tryz.ntmps45
 go_wp2
 go_ret
 exact ⟨_, _, rfl, H.out, by rw [List.map_cons, ct_one]; rfl, Ext.alloc _ _⟩
theorem l10Int_any (n : Int) (w : World) (h0 : -9223372036854775808 ≤ n) (h1 : n ≤ 9223372036854775807) :
  Calls Tryz.prog 72 #[.int .i64 n] w fun e w' => GivesIs w.heap.size w [intC n] e w' := by
 have HI := hide (specIntBytes_any n (ilen n) (ilen_is n h0 h1) w h0 h1)
 have HB : Hid (intC n = ⟨2, 0, (List.range (ilen n + 1)).map (fun i => ib n (ilen n - i))⟩) := rfl
 generalize intC n = C at *
 generalize ilen n + 1 = M at *
 generalize (fun i => ib n (ilen n - i)) = F at *
 go_enter Tryz.func72, Tryz.ntmps72
 go_wp2_with fail
 refine HI.out.mono ?_
 rintro e w1 ⟨a, g, cap, rfl, hg, hO, hE⟩
 have HE := hide hE
 have HO := hide hO
 clear hE hO HI
 go_wp2_with fail
 refine (l10Item_any 2 a g 0 M cap F w.heap.size w1 HO.out hg (Below.size HE.out)).mono ?_
 rintro e w2 ⟨v, L, rfl, hA, hc, hE2⟩
 have HA := hide hA
 have HC := hide hc
 have HE2 := hide hE2
 clear hA hc hE2
 go_wp2
 go_ret
 exact ⟨_, _, rfl, HA.out, by rw [HB.out]; exact HC.out, Ext.trans HE.out HE2.out⟩
theorem l10Made_any (tag kid : Int) (v2 : Value) (M : List It) (B : Nat) (w : World) (hM : LAcc B w v2 M) (hm : M.length ≤ 100000) (hB : B ≤ w.heap.size) :
  Calls Tryz.prog 43 #[.int .i64 tag, .int .i64 kid, v2] w fun e w' => GivesIs B w (⟨tag, kid, []⟩ :: M.map ct) e w' := by
 obtain ⟨a2, c2, hv2⟩ := ownsRow_slc hM.row
 have H := hide (LAcc.it w (bare tag kid) B ((Bods.nil _ _).bare tag kid) hB)
 have HM := hide hM
 have HB := hide (hM.bods.bare tag kid)
 have hsw : ∀ t ∈ M, 0 < t.len → t.blk < w.heap.size := fun t ht h0 => hM.bods.lt ht h0
 have Hsw := hide hsw
 clear hsw
 subst hv2
 clear hM
 go_enter Tryz.func43, Tryz.ntmps43
 go_wp2_with (at_builtin; refine stop_app rfl ?_)
 refine hide ?_
 refine wpList_appL rfl _ _ rfl B B _ _ _ [bare tag kid] M rfl H.out (Ext.refl _) rfl (ownsRow_ext HM.out.row (Ext.alloc _ _)) (HB.out.ext (Ext.alloc _ _)) (fun t ht h0 hh => ?_) (by simp; omega) (by simp; omega) ?_
 ·have := Hsw.out t ht h0
  have e2 : w.heap.size = t.blk := by simpa [Act.eval, Value.ownBlock] using hh
  omega
 intro v' w1 hA hE
 have HA := hide hA
 have HE : Hid (Ext w w1) := hide (Below.trans (Ext.alloc _ _) (hE w.heap.size (fun k hk => by
  have e2 : w.heap.size = k := by simpa [Act.eval, Value.ownBlock] using hk
  omega) (by simp)))
 clear hA hE
 go_wp2
 go_ret
 exact ⟨_, _, rfl, HA.out, rfl, HE.out⟩
end
section
def consF (x : Int) (f : Nat → Int) : Nat → Int := fun i => if i = 0 then x else f (i - 1)
theorem consF_map (x : Int) (f : Nat → Int) (m : Nat) : (List.range (m + 1)).map (consF x f) = x :: (List.range m).map f := by
 rw [List.range_succ_eq_map, List.map_cons, List.map_map]
 congr 1
theorem byts_cons (x : Int) (f : Nat → Int) (m : Nat) : byts (fun _ => x) 1 ++ byts f m = byts (consF x f) (m + 1) := by
 unfold byts
 show Value.int .u8 x :: (List.range m).map (fun i => Value.int .u8 (f i)) = _
 rw [List.range_succ_eq_map, List.map_cons, List.map_map]
 rfl
end
section
open Go.RowKit
theorem map_len {α β : Type} {f : α → β} {L : List α} {M : List β} (h : L.map f = M) : L.length = M.length := by rw [← h, List.length_map]
set_option maxHeartbeats 1600000 in
set_option maxRecDepth 100000 in
theorem l10Ints_any (a : Option Addr) (b off n cap : Nat) (f : Nat → Int) (w : World) (hs : Seg w a b off n f) (hn : n ≤ 1000) (hf : ∀ i, i < n → -9223372036854775808 ≤ f i ∧ f i ≤ 9223372036854775807) :
  Calls Tryz.prog 75 #[.slice a n cap] w fun e w' => GivesIs w.heap.size w ((List.range n).map (fun i => intC (f i))) e w' := by
 have HI : Hid (∀ i, i < n → ∀ W, Calls Tryz.prog 72 #[.int .i64 (f i)] W fun e w' => GivesIs W.heap.size W [intC (f i)] e w') := fun i hi W => l10Int_any (f i) W (hf i hi).1 (hf i hi).2
 have H0 := hide (LAcc.nil w w.heap.size (Nat.le_refl _))
 have Hs := hide hs
 clear hs hf
 go_enter Tryz.func75, Tryz.ntmps75
 go_wp2
 go_loopw [3, 4] (fun v k wr => ∃ (j : Nat) (L : List It), j ≤ n ∧ k = .int .i64 (j : Int) ∧ LAcc w.heap.size wr v L ∧ L.map ct = (List.range j).map (fun i => intC (f i)) ∧ Ext w wr) (fun _ k _ => n - (intOf k).toNat)
 case atStart => exact ⟨0, [], Nat.zero_le _, rfl, H0.out, rfl, Ext.alloc _ _⟩
 case round =>
  clear H0
  obtain ⟨j, L, hj, rfl, hA, hC, hE⟩ := hrel
  have hll : L.length = j := by have := map_len hC; simpa using this
  by_cases hlt : j < n
  ·have hjk : (j : Int) < (n : Int) := by omega
   obtain rfl := Hs.out.at' (by omega)
   have cj := (Hs.out.of_all hE).cell j hlt
   have HIj := hide (HI.out j hlt)
   have HN : Hid (((List.range j).map (fun i => intC (f i))) ++ [intC (f j)] = (List.range (j + 1)).map (fun i => intC (f i))) := by show _ = _; rw [List.range_succ, List.map_append]; rfl
   have Hll := hide hll
   have HA := hide hA
   have HC := hide hC
   have HE := hide hE
   clear hA hC hE hll HI
   generalize f j = d at *
   have W1 : Hid (wrap64 ((j : Int) + 1) = (j : Int) + 1) := by show _ = _; unfold wrap64; omega
   go_wp2_with (first | (go_at_call 72; refine (HIj.out _).mono ?_; rintro e w1 ⟨v1, M, rfl, hM, hMc, hE1⟩; have HM := hide hM; have HMc := hide hMc; have HE1 := hide hE1; clear hM hMc hE1) | (at_builtin; refine stop_app rfl ?_))
   refine hide ?_
   have hlt := HA.out.later HE1.out HM.out.bods (Below.size HE.out)
   refine wpList_appL rfl _ _ rfl w.heap.size wr.heap.size wr _ _ L M rfl HA.out HE1.out rfl HM.out.row hlt.1 hlt.2 (by have := Hll.out; have := map_len HMc.out; simp at this; omega) (Below.size HE.out) ?_
   intro v' w2 hA2 hB2
   have HA2 := hide hA2
   have HE2 : Hid (Ext w w2) := hide (Below.trans (Ext.trans HE.out HE1.out) (hB2 _ (fun k hk => (HA.out.row.lt k hk).1) (Nat.le_trans (Below.size HE.out) (Below.size HE1.out))))
   clear hA2 hB2 hlt cj
   go_wp2
   refine ⟨⟨j + 1, L ++ M, by omega, by (try rw [W1.out]); congr 1, HA2.out, by rw [List.map_append, HC.out, HMc.out]; exact HN.out, HE2.out⟩, ?_⟩
   try rw [W1.out]
   show n - ((j : Int) + 1).toNat < n - ((j : Int)).toNat
   omega
  ·obtain rfl : j = n := by omega
   have hjk : ¬ (j : Int) < (j : Int) := by omega
   have HA := hide hA
   have HC := hide hC
   have HE := hide hE
   clear hA hC hE hll HI
   go_wp2
   go_ret
   exact ⟨_, L, rfl, HA.out, HC.out, HE.out⟩
def SameC (L : List It) (C : List Ic) : Prop := L.map ct = C ∧ ∀ t ∈ L, Nf t
theorem SameC.len {L : List It} {C : List Ic} (h : SameC L C) : L.length = C.length := map_len h.1
theorem SameC.at' {L : List It} {C : List Ic} (h : SameC L C) {i : Nat} (hi : i < C.length) : L.getD i dI ∈ L ∧ ct (L.getD i dI) = C[i] := by
 have hl := h.len
 have e : L.getD i dI = L[i]'(by omega) := by rw [List.getD_eq_getElem?_getD, List.getElem?_eq_getElem (by omega)]; rfl
 refine ⟨by rw [e]; exact List.getElem_mem _, ?_⟩
 rw [e]
 have := congrArg (fun l => l[i]?) h.1
 simp only [List.getElem?_map] at this
 rw [List.getElem?_eq_getElem (by omega), List.getElem?_eq_getElem hi] at this
 simpa using this
theorem LAcc.iow {B : Nat} {W : World} {v : Value} {L : List It} (h : LAcc B W v L) (hs : ∀ t ∈ L, t.len ≤ 9223372036854775807) : ∃ a S cap, v = .slice a L.length cap ∧ IOw B W a S 0 L.length (fun i => L.getD i dI) := by
 have hg : ∀ i, i < L.length → L.getD i dI ∈ L := fun i hi => by
  rw [List.getD_eq_getElem?_getD, List.getElem?_eq_getElem hi]
  exact List.getElem_mem _
 have hp := List.pairwise_iff_getElem.1 h.bods.apart
 have hd : ∀ i (hi : i < L.length), L.getD i dI = L[i] := fun i hi => by rw [List.getD_eq_getElem?_getD, List.getElem?_eq_getElem hi]; rfl
 have hA : IAcc B W v L.length (fun i => L.getD i dI) := by
  refine ⟨by rw [itsW_rowL]; exact h.row, fun i hi => h.bods.own _ (hg i hi), fun i hi h0 => ⟨h.away _ (hg i hi) h0, h.bods.up _ (hg i hi) h0⟩, fun i j hi hj hij h0 h1 => ?_⟩
  simp only [hd i hi, hd j hj] at h0 h1 ⊢
  rcases Nat.lt_or_gt_of_ne hij with c | c
  ·exact hp i j hi hj c h0 h1
  ·exact fun e => hp j i hj hi c h1 h0 e.symm
 exact hA.iow (fun i hi => hs _ (hg i hi))
def SmC (C : List Ic) : Prop := C.length ≤ 100 ∧ ∀ c ∈ C, c.bd.length ≤ 1000
theorem ct_len (t : It) : (ct t).bd.length = t.len := by simp [ct]
theorem Blk.of_heap {w w' : World} {C : Nat} {vs : List Value} (h : Blk w C vs) (e : w'.heap[C]? = w.heap[C]?) : Blk w' C vs := fun i v hi =>
 ⟨(World.cell?_of_block (a := ⟨C, i, none⟩) e).trans (h i v hi).1, (World.frozen?_of_block (a := ⟨C, i, none⟩) e).trans (h i v hi).2⟩
theorem ibL_len (n : Int) (h0 : -9223372036854775808 ≤ n) (h1 : n ≤ 9223372036854775807) : (ibL n).length ≤ 8 := by
 have := (ilen_is n h0 h1).le
 unfold ibL
 rw [List.length_map, List.length_range]
 omega
def wt : List Ic → Nat
 | [] => 0
 | c :: L => 1 + c.bd.length + wt L
theorem wt_app : ∀ (A B : List Ic), wt (A ++ B) = wt A + wt B
 | [], B => by simp [wt]
 | a :: A, B => by rw [List.cons_append, wt, wt, wt_app A B]; omega
theorem wt_len : ∀ (A : List Ic), A.length ≤ wt A ∧ ∀ c ∈ A, c.bd.length ≤ wt A
 | [] => ⟨Nat.le_refl _, fun c hc => by cases hc⟩
 | a :: A => by
  have h := wt_len A
  rw [wt, List.length_cons]
  refine ⟨by omega, fun c hc => ?_⟩
  rcases List.mem_cons.1 hc with rfl | hc
  ·omega
  ·have := h.2 c hc; omega
theorem rdK_wt {t : Nat} {rd : Nat → Rdr} (h : ∀ a, (rd a).code = 0 → wt (rd a).its + a ≤ (rd a).nx) : ∀ m a, (rdK rd t m a).1.code = 0 → wt (rdK rd t m a).1.its + a ≤ (rdK rd t m a).1.nx
 | 0, a, _ => by simp [rdK, wt]
 | m + 1, a, hc => by
  rw [rdK] at hc ⊢
  by_cases hle : t ≤ a
  ·rw [if_pos hle]; simp [wt]
  ·rw [if_neg hle] at hc ⊢
   by_cases h1 : (rd a).code = 0
   ·rw [if_neg (fun k => k h1)] at hc ⊢
    by_cases h2 : (rdK rd t m (rd a).nx).1.code = 0
    ·rw [if_neg (fun k => k h2)]
     have e1 := h a h1
     have e2 := rdK_wt h m (rd a).nx h2
     show wt ((rd a).its ++ (rdK rd t m (rd a).nx).1.its) + a ≤ (rdK rd t m (rd a).nx).1.nx
     rw [wt_app]
     omega
    ·rw [if_pos h2] at hc; exact absurd hc h2
   ·rw [if_pos h1] at hc; exact absurd hc h1
theorem rdK_nx {t : Nat} {rd : Nat → Rdr} (h : ∀ a, (rd a).code = 0 → (rd a).nx ≤ t) : ∀ m x, x ≤ t → (rdK rd t m x).1.code = 0 → (rdK rd t m x).1.nx ≤ t
 | 0, x, hx, _ => hx
 | m + 1, x, hx, hc => by
  rw [rdK] at hc ⊢
  by_cases hle : t ≤ x
  ·rw [if_pos hle]; exact hx
  ·rw [if_neg hle] at hc ⊢
   by_cases h1 : (rd x).code = 0
   ·rw [if_neg (fun k => k h1)] at hc ⊢
    by_cases h2 : (rdK rd t m (rd x).nx).1.code = 0
    ·rw [if_neg (fun k => k h2)]
     exact rdK_nx h m _ (h x h1) h2
    ·rw [if_pos h2] at hc; exact absurd hc h2
   ·rw [if_pos h1] at hc; exact absurd hc h1
theorem rdT_wt (f : Nat → Int) : ∀ k a e d, (rdT f k a e d).code = 0 → wt (rdT f k a e d).its + a ≤ (rdT f k a e d).nx
 | 0, a, e, d, h => by simp [rdT] at h
 | k + 1, a, e, d, h => by
  rw [rdT] at h ⊢
  by_cases hd : (hdC f a e d).1 = 0
  ·rw [if_neg (fun h => h hd)] at h ⊢
   have h0 := hdC_ok hd
   by_cases hm : mdT (f a) = false
   ·rw [if_pos hm]
    show 1 + (itH f (hdOf f a e d)).bd.length + 0 + a ≤ hdE f a e
    unfold itH
    show 1 + (if mdT (f a) then [] else (List.range (hdE f a e - hdS f a e)).map (fun i => f (hdS f a e + i))).length + 0 + a ≤ hdE f a e
    rw [hm, if_neg (by simp), List.length_map, List.length_range]
    omega
   ·rw [if_neg hm] at h ⊢
    have K := rdK_wt (t := hdE f a e) (rd := fun x => rdT f k x (hdE f a e) (d + 1)) (fun x hx => rdT_wt f k x (hdE f a e) (d + 1) hx) (hdE f a e - hdS f a e) (hdS f a e)
    have N1 := rdK_nx (t := hdE f a e) (rd := fun x => rdT f k x (hdE f a e) (d + 1)) (fun x hx => (rdT_nx f k x (hdE f a e) (d + 1) hx).2) (hdE f a e - hdS f a e) (hdS f a e) h0.2.2.2.2.2.2
    generalize rdK (fun x => rdT f k x (hdE f a e) (d + 1)) (hdE f a e) (hdE f a e - hdS f a e) (hdS f a e) = Q at K N1 h ⊢
    by_cases hc : Q.1.code = 0
    ·rw [if_neg (fun h => h hc)]
     have e1 := K hc
     have e2 := N1 hc
     show 1 + 0 + wt Q.1.its + a ≤ hdE f a e
     omega
    ·rw [if_pos hc] at h; exact absurd h hc
  ·rw [if_pos hd] at h; exact absurd h hd
theorem rdA_wt (f : Nat → Int) (bn : Nat) : wt (rdA f bn).1 ≤ 4000 := by
 unfold rdA
 by_cases h1 : 4000 < bn
 ·rw [if_pos h1]; exact Nat.zero_le _
 rw [if_neg h1]
 by_cases h2 : (rdT f 14 0 bn 0).code = 0
 ·rw [if_neg (fun h => h h2)]
  have e1 := rdT_wt f 14 0 bn 0 h2
  have e2 := (rdT_nx f 14 0 bn 0 h2).2
  by_cases h3 : 300 < (rdT f 14 0 bn 0).its.length
  ·rw [if_pos h3]; exact Nat.zero_le _
  rw [if_neg h3]
  by_cases h4 : (rdT f 14 0 bn 0).nx < bn
  ·rw [if_pos h4]; exact Nat.zero_le _
  ·rw [if_neg h4]; show wt (rdT f 14 0 bn 0).its ≤ 4000; omega
 ·rw [if_pos h2]; exact Nat.zero_le _
theorem Hdl.of_ext {w w' : World} (h : Hdl w) (e : Ext w w') : Hdl w' := (Below.cell e (p := ⟨0, 0, none⟩) (World.block_lt_of_cell? _ _ h)).trans h
end
end Go.Proofs.YtkogbinfhoiggaaGreatDoor
