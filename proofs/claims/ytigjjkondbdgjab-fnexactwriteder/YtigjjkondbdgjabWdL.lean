/- The walk of the law FnExactWriteDer. -/
import Derived.Test.YtigjjkondbdgjabMkI
import Derived.Test.YtigjjkondbdgjabWwd2
import Derived.Test.YtigjjkondbdgjabDerM
import Derived.Test.YtigjjkondbdgjabBMarks
import Derived.Test.YtigjjkondbdgjabBLists
import Derived.Test.YtigjjkondbdgjabItO
import Derived.Test.YtigjjkondbdgjabTrL
namespace Go.Proofs.Ytigjjkondbdgjab
set_option linter.unusedVariables false
set_option linter.unusedSimpArgs false
open Go.RowKit

theorem wrB_cong {g g' : Nat → List Int} {f f' : Nat → Int} (hg : g = g') (hf : f = f') (s : Int) (k : Nat) : wrB g f s k = wrB g' f' s k := by rw [hg, hf]
theorem wrF_laid (x : Nat → It) (S n : Nat) : ∀ m i, wrF (laidI x S) n m i = wrF x n m i
  | 0, _ => rfl
  | m + 1, i => by
    have h : wrF (laidI x S) n m = wrF x n m := funext (wrF_laid x S n m)
    rw [wrF, wrF, h]
    rfl
theorem wdB_laid (x : Nat → It) (S n : Nat) : wdB (laidI x S) n = wdB x n := by
  unfold wdB
  rw [wrF_laid]
  rfl
theorem wdL_laid (x : Nat → It) (S n : Nat) : wdL (laidI x S) n = wdL x n := by
  unfold wdL
  rw [wrF_laid, wdB_laid]
theorem wdL_len (x : Nat → It) (n : Nat) : (wdL x n).length ≤ 4000 := by
  unfold wdL
  split
  · rename_i h
    unfold wdB at h
    simp only [Bool.and_eq_true, decide_eq_true_eq] at h
    exact h.2
  · simp

/-- WriteDer's answer, as the laws read it. -/
def GivesKb (w : World) (M : Nat) (F : Nat → Int) (ok : Bool) (e : Ending) (w' : World) : Prop := ∃ a g cap, e = .returned (.tuple #[.slice a M cap, .bool ok]) ∧ w.heap.size ≤ g ∧ BOwn w' a g 0 M F ∧ Ext w w'
theorem GivesWd.k {w w' : World} {L : List Int} {ok : Bool} {e : Ending} (h : GivesWd w L ok e w') : GivesKb w L.length (fun i => L.getD i 0) ok e w' := by
  obtain ⟨v, rfl, h1, h2⟩ := h
  rw [bl_byts] at h1
  obtain ⟨a, g, cap, rfl, hg, -, -, hO⟩ := owns_seg h1
  exact ⟨a, g, cap, rfl, hg, hO, h2⟩

theorem BSeg.markB {S T : Nat} {w w' : World} {a : Option Addr} {g o n : Nat} {f : Nat → Int} (h : BSeg w a g o n f) (k : MarkT S T w w') (hg : 0 < n → g < S ∨ T ≤ g) : BSeg w' a g o n f :=
  ⟨h.at', fun i hi => (World.cell?_of_block (a := ⟨g, o + i, none⟩) (k.same g (hg (by omega)))).trans (h.cell i hi)⟩
theorem BOwn.markB {S T : Nat} {w w' : World} {a : Option Addr} {g o n : Nat} {f : Nat → Int} (h : BOwn w a g o n f) (k : MarkT S T w w') (hg : 0 < n → g < S ∨ T ≤ g) : BOwn w' a g o n f :=
  ⟨h.toBSeg.markB k hg, fun i hi => (World.frozen?_of_block (a := ⟨g, o + i, none⟩) (k.same g (hg (by omega)))).trans (h.free i hi)⟩

theorem Cpy.none {S n : Nat} {x : Nat → It} {W : World} (hn : n = 0) (h : ∀ o, W.frozen? ⟨S, o, none⟩ = false) : Cpy S n 0 x W :=
  ⟨fun j _ h2 => by omega, fun j _ h2 => by omega, fun j _ h2 => by omega, h, fun j _ h2 => by omega⟩

set_option maxHeartbeats 3200000 in
set_option maxRecDepth 100000 in
theorem lawWriteDer_any (a : Option Addr) (b off n cap : Nat) (x : Nat → It) (w : World) (hI : ItsIn w a b off n x) :
    Calls Try.prog 4 #[.slice a n cap] w fun e w' => e = .returned (.bool true) ∧ Ext w w' := by
  have HZ := hide (szItemS_any a b off n cap x 1048576 w hI.seg (by omega) (by omega) hI.small)
  have HS := hide (@sz_small x n)
  have HSu := hide (@sz_sum x n)
  generalize (if (1048576 : Int) < n then (-1 : Int) else if szI x n (1048576 - n) < 0 then -1 else szI x n (1048576 - n)) = y at *
  by_cases hy : y < 0
  · go_enter Try.func4, Try.ntmps4
    go_wp2_with fail
    refine HZ.out.mono ?_
    rintro e w1 ⟨rfl, hE⟩
    go_wp2
    go_ret
    exact ⟨rfl, hE⟩
  · obtain ⟨hn, hl⟩ := HS.out hy
    obtain ⟨-, hsum⟩ := HSu.out hy
    have Hl := hide hl
    have HC : Hid (∀ w', Ext w w' → Calls Try.prog 8 #[.slice a n cap] w' fun e w'' => e = .returned (.slice (some ⟨w'.heap.size, 0, none⟩) n n) ∧ ISeg w'' (some ⟨w'.heap.size, 0, none⟩) w'.heap.size 0 n (laidI x w'.heap.size) ∧ Cpy w'.heap.size n 0 x w'' ∧ w''.heap.size = w'.heap.size + 1 + 4 * n ∧ Ext w' w'') := fun w' he => (toItemS_any a b off n cap x w' (hI.seg.of_all he) hn hl).mono (fun e w'' ⟨h1, h2⟩ => ⟨h1, h2.seg (fun i hi => by have := hl i hi; omega), h2.cpy, h2.size, h2.below⟩)
    have HSp : Hid (∀ (S : Nat) (w' : World), ISeg w' (some ⟨S, 0, none⟩) S 0 n (laidI x S) → Calls Try.prog 13 #[.slice (some ⟨S, 0, none⟩) n n] w' fun e w'' => GivesKb w' (wdL x n).length (fun i => (wdL x n).getD i 0) (wdB x n) e w'') := fun S w' h => by rw [← wdL_laid x S n, ← wdB_laid x S n]; exact (specWriteDer_any _ _ _ _ _ _ w' h hn (fun i hi => hl i hi)).mono (fun _ _ k => k.k)
    have HIm : Hid (∀ (S : Nat) (w' : World), ISeg w' (some ⟨S, 0, none⟩) S 0 n (laidI x S) → Calls Try.prog 14 #[.slice (some ⟨S, 0, none⟩) n n] w' fun e w'' => GivesKb w' (wdL x n).length (fun i => (wdL x n).getD i 0) (wdB x n) e w'') := fun S w' h => by rw [← wdL_laid x S n, ← wdB_laid x S n]; exact (implWriteDer_any _ _ _ _ _ _ w' h hn (fun i hi => hl i hi) (fun i hi => (hI.ok i hi).k1)).mono (fun _ _ k => k.k)
    have hM : (wdL x n).length ≤ 1048576 := by have := wdL_len x n; omega
    clear hI hl HS HSu
    generalize (fun i => (wdL x n).getD i 0) = F at *
    generalize (wdL x n).length = M at *
    generalize wdB x n = ok at *
    cases ok
    all_goals
      go_enter Try.func4, Try.ntmps4
      go_wp2_with fail
      refine HZ.out.mono ?_
      rintro e w1 ⟨rfl, hE1⟩
      have HE := hide hE1
      clear hE1 HZ
      go_wp2_with fail
      refine (HC.out _ HE.out).mono ?_
      rintro e w2 ⟨rfl, hs2, -, -, hE2⟩
      replace HE := hide (Ext.trans HE.out hE2)
      clear hE2
      go_wp2_with fail
      refine (HSp.out _ _ hs2).mono ?_
      rintro e w3 ⟨aw, gw, cw, rfl, hgw, ow, hE3⟩
      replace HE := hide (Ext.trans HE.out hE3)
      have sw := ow.toBSeg
      have ltw : 0 < M → gw < w3.heap.size := fun h => ow.lt h
      have hS3 : w.heap.size ≤ w3.heap.size := Below.size HE.out
      clear hE3 hs2 ow hgw
      go_wp2_with fail
      refine (HC.out _ HE.out).mono ?_
      rintro e w4 ⟨rfl, hs4, hc4, hz4, hE4⟩
      replace HE := hide (Ext.trans HE.out hE4)
      replace sw := sw.of_all hE4
      clear hE4
      go_wp2_with fail
      refine (HIm.out _ _ hs4).mono ?_
      rintro e w5 ⟨ag, gg, cg, rfl, hgg, og, hE5⟩
      replace HE := hide (Ext.trans HE.out hE5)
      replace sw := sw.of_all hE5
      have Hs5 := hide (hs4.of_all hE5)
      have Hc5 : Hid (Cpy w3.heap.size n 0 x w5) := by
        by_cases h0 : 0 < n
        · exact hc4.ext hE5 h0 h0
        · exact Cpy.none (by omega) (fun o => by rw [Below.frozen hE5 (p := ⟨w3.heap.size, o, none⟩) (by simp; omega)]; exact hc4.fz o)
      have lt5 : w3.heap.size < w5.heap.size := by have := Below.size hE5; omega
      clear hE5 hs4 hc4
      go_wp2_with fail
      refine (eqByteS_any ag gg 0 M cg F aw gw 0 M cw F _ og.toBSeg sw hM).mono ?_
      rintro e w6 ⟨rfl, q6, rfl⟩
      rw [alike_refl]
      have D6 : Ext w5 (w5.drewN q6) := ext_drewN _ _
      replace HE := hide (Ext.trans HE.out D6)
      replace sw := sw.of_all D6
      replace og := og.of_all D6
      replace Hs5 := hide (Hs5.out.of_all D6)
      replace Hc5 : Hid (Cpy w3.heap.size n 0 x (w5.drewN q6)) := ⟨Hc5.out.c0, Hc5.out.c1, Hc5.out.c2, Hc5.out.fz, fun j h1 h2 => (Hc5.out.body j h1 h2).of_all D6⟩
      have lt6 : w3.heap.size < (w5.drewN q6).heap.size := lt5
      clear D6
      generalize w5.drewN q6 = w6 at *
      go_wp2_with fail
      refine (HC.out _ HE.out).mono ?_
      rintro e w7 ⟨rfl, hs7, -, -, hE7⟩
      replace HE := hide (Ext.trans HE.out hE7)
      replace sw := sw.of_all hE7
      replace og := og.of_all hE7
      replace Hs5 := hide (Hs5.out.of_all hE7)
      have Hc7 : Hid (Cpy w3.heap.size n 0 x w7) := by
        by_cases h0 : 0 < n
        · exact Hc5.out.ext hE7 h0 h0
        · exact Cpy.none (by omega) (fun o => by rw [Below.frozen hE7 (p := ⟨w3.heap.size, o, none⟩) (by simp; omega)]; exact Hc5.out.fz o)
      have lt7 : w3.heap.size < w7.heap.size := Nat.lt_of_lt_of_le lt6 (Below.size hE7)
      clear hE7 Hc5
      go_wp2_with fail
      refine (eqItemS_any _ _ _ _ _ _ _ _ _ _ _ _ _ Hs5.out hs7 hn (fun i hi => Hl.out i hi)).mono ?_
      rintro e w8 ⟨rfl, hE8⟩
      rw [itEq_laid]
      replace HE := hide (Ext.trans HE.out hE8)
      replace sw := sw.of_all hE8
      replace og := og.of_all hE8
      have Hc8 : Hid (Cpy w3.heap.size n 0 x w8) := by
        by_cases h0 : 0 < n
        · exact Hc7.out.ext hE8 h0 h0
        · exact Cpy.none (by omega) (fun o => by rw [Below.frozen hE8 (p := ⟨w3.heap.size, o, none⟩) (by simp; omega)]; exact Hc7.out.fz o)
      clear hE8 hs7 Hs5 Hc7
      go_wp2_with fail
      refine (markItemS_any _ n n x _ Hc8.out hn hsum).mono ?_
      rintro e w9 ⟨k, rfl, hk0, hMT⟩
      replace HE := hide (MarkT.below HE.out hMT hS3)
      replace sw := sw.markB hMT (fun h => .inl (ltw h))
      replace og := og.markB hMT (fun _ => .inr (by omega))
      clear hMT Hc8
      have hk1 : ¬ k < 0 := by omega
      go_wp2_with fail
      refine (eqByteS_any ag gg 0 M cg F aw gw 0 M cw F _ og.toBSeg sw hM).mono ?_
      rintro e w10 ⟨rfl, q10, rfl⟩
      rw [alike_refl]
      have D10 : Ext w9 (w9.drewN q10) := ext_drewN _ _
      replace HE := hide (Ext.trans HE.out D10)
      replace sw := sw.of_all D10
      replace og := og.of_all D10
      clear D10
      generalize w9.drewN q10 = w10 at *
      go_wp2_with fail
      refine (markByteS_any ag gg 0 M cg F 1 _ og hM (by omega) (by omega)).mono ?_
      rintro e w11 ⟨rfl, og2, hT11⟩
      replace HE := hide (below_touch HE.out hT11 (by omega))
      replace sw := sw.touch hT11 (fun h => by have := ltw h; omega)
      clear og hT11
      go_wp2_with fail
      refine (heldByteS_any ag gg 0 M cg 1 _ og2.toBSeg hM (by omega) (by omega)).mono ?_
      rintro e w12 ⟨rfl, hw⟩
      obtain rfl := hw.symm
      have hp : ¬ (1 + (M : Int) < 0) := by omega
      go_wp2_with fail
      refine (HC.out _ HE.out).mono ?_
      rintro e w13 ⟨rfl, hs13, -, -, hE13⟩
      replace HE := hide (Ext.trans HE.out hE13)
      replace sw := sw.of_all hE13
      replace og2 := og2.of_all hE13
      clear hE13
      go_wp2_with fail
      refine (HIm.out _ _ hs13).mono ?_
      rintro e w14 ⟨ah, gh, ch, rfl, hgh, oh, hE14⟩
      replace HE := hide (Ext.trans HE.out hE14)
      replace sw := sw.of_all hE14
      replace og2 := og2.of_all hE14
      clear hE14 hs13
      go_wp2_with fail
      refine (eqByteS_any ah gh 0 M ch F aw gw 0 M cw F _ oh.toBSeg sw hM).mono ?_
      rintro e w15 ⟨rfl, q15, rfl⟩
      rw [alike_refl]
      replace og2 := og2.of_all (ext_drewN w14 q15)
      replace HE := hide (Ext.trans HE.out (ext_drewN w14 q15))
      clear sw oh
      generalize w14.drewN q15 = w15 at *
      go_wp2_with fail
      refine (heldByteS_any ag gg 0 M cg 1 _ og2.toBSeg hM (by omega) (by omega)).mono ?_
      rintro e w16 ⟨rfl, hw⟩
      obtain rfl := hw.symm
      go_wp2
      go_ret
      exact ⟨rfl, HE.out⟩

end Go.Proofs.Ytigjjkondbdgjab
