/- The walk of the law FnExactPart. -/
import Derived.Test.YtboaiojapgiedaaPtW
import Derived.Test.YtboaiojapgiedaaMkI
import Derived.Test.YtboaiojapgiedaaMarks
import Derived.Test.YtboaiojapgiedaaLists
import Derived.Test.YtboaiojapgiedaaCdL
namespace Go.Proofs.Ytboaiojapgiedaa
set_option linter.unusedVariables false
set_option linter.unusedSimpArgs false
open Go.RowKit

theorem itsEq_same {y y' x : Nat → It} {i m : Nat} (h : SameI y x i m) (h' : SameI y' x i m) : itsEq y y' m = true := itsEq_yes (fun j hj => by
  obtain ⟨a1, a2, a3, a4⟩ := h j hj
  obtain ⟨b1, b2, b3, b4⟩ := h' j hj
  show (_ == _ && (_ == _ && _) && _ == _) = true
  rw [a1, a2, a3, a4, b1, b2, b3, b4]
  simp [(alike_iff _ _ _).2 (fun _ _ => rfl)])

theorem sumL_part {y x : Nat → It} {i : Nat} : ∀ {m : Nat}, SameI y x i m → sumL y m + sumL x i ≤ sumL x (i + m)
  | 0, _ => by show 0 + _ ≤ _; rw [Nat.zero_add]; exact Nat.le_refl _
  | m + 1, h => by
    have h1 := sumL_part (m := m) (fun j hj => h j (by omega))
    have h2 := (h m (by omega)).2.2.1
    show sumL y m + (y m).len + _ ≤ sumL x (i + m) + (x (i + m)).len
    omega

theorem ISeg.of_blk {w w' : World} {a : Option Addr} {b off n : Nat} {x : Nat → It} (h : ISeg w a b off n x) (hb : 0 < n → w'.heap[b]? = w.heap[b]?) (hy : ∀ i, i < n → 0 < (x i).len → w'.heap[(x i).blk]? = w.heap[(x i).blk]?) : ISeg w' a b off n x :=
  ⟨h.at', fun i hi => (World.cell?_of_block (a := ⟨b, off + i * 3, none⟩) (hb (by omega))).trans (h.c0 i hi), fun i hi => (World.cell?_of_block (a := ⟨b, off + i * 3 + 1, none⟩) (hb (by omega))).trans (h.c1 i hi), fun i hi => (World.cell?_of_block (a := ⟨b, off + i * 3 + 2, none⟩) (hb (by omega))).trans (h.c2 i hi),
   fun i hi => ⟨(h.body i hi).at', fun j hj => (World.cell?_of_block (a := ⟨(x i).blk, (x i).off + j, none⟩) (hy i hi (by omega))).trans ((h.body i hi).cell j hj)⟩, h.small⟩
theorem IOw.of_blk {B : Nat} {w w' : World} {a : Option Addr} {S off n : Nat} {x : Nat → It} (h : IOw B w a S off n x) (hb : 0 < n → w'.heap[S]? = w.heap[S]?) (hy : ∀ i, i < n → 0 < (x i).len → w'.heap[(x i).blk]? = w.heap[(x i).blk]?) : IOw B w' a S off n x :=
  ⟨h.toISeg.of_blk hb hy, fun o h1 h2 => (World.frozen?_of_block (a := ⟨S, o, none⟩) (hb (by omega))).trans (h.fz o h1 h2), fun j hj m hm => (World.frozen?_of_block (a := ⟨(x j).blk, (x j).off + m, none⟩) (hy j hj (by omega))).trans (h.free j hj m hm), h.away, h.apart, h.rowB⟩

/-- A list of items as it lies below B. -/
structure ILow (B : Nat) (w : World) (a : Option Addr) (S n : Nat) (x : Nat → It) : Prop extends ISeg w a S 0 n x where
  rowL : 0 < n → S < B
  bodL : ∀ i, i < n → 0 < (x i).len → (x i).blk < B
theorem ILow.below {B B' : Nat} {w w' : World} {a : Option Addr} {S n : Nat} {x : Nat → It} (h : ILow B w a S n x) (e : Below B' w w') (hB : B ≤ B') : ILow B w' a S n x :=
  ⟨h.toISeg.of_blk (fun h0 => Below.block e _ (by have := h.rowL h0; omega)) (fun i hi h0 => Below.block e _ (by have := h.bodL i hi h0; omega)), h.rowL, h.bodL⟩
theorem ILow.mark {B S T : Nat} {w w' : World} {a : Option Addr} {R n : Nat} {x : Nat → It} (h : ILow B w a R n x) (k : MarkT S T w w') (hB : B ≤ S) : ILow B w' a R n x :=
  ⟨h.toISeg.of_blk (fun h0 => k.same _ (.inl (by have := h.rowL h0; omega))) (fun i hi h0 => k.same _ (.inl (by have := h.bodL i hi h0; omega))), h.rowL, h.bodL⟩
theorem IOw.low {B : Nat} {w : World} {a : Option Addr} {S n : Nat} {x : Nat → It} (h : IOw B w a S 0 n x) : ILow w.heap.size w a S n x :=
  ⟨h.toISeg, fun h0 => h.toISeg.lt h0, fun i hi h0 => (h.own hi).lt h0⟩
theorem IOw.mark {B S T : Nat} {w w' : World} {a : Option Addr} {R n : Nat} {x : Nat → It} (h : IOw B w a R 0 n x) (k : MarkT S T w w') (hB : T ≤ B) : IOw B w' a R 0 n x :=
  h.of_blk (fun h0 => k.same _ (.inr (by have := h.rowB h0; omega))) (fun i hi h0 => k.same _ (.inr (by have := (h.away i hi h0).2; omega)))

/-- A new list of items that are those of X, and ok. -/
def GivesL7 (w : World) (m : Nat) (X : Nat → It) (ok : Bool) (e : Ending) (w' : World) : Prop := ∃ a S cap y, e = .returned (.tuple #[.slice a m cap, .bool ok]) ∧ IOw w.heap.size w' a S 0 m y ∧ SameI y X 0 m ∧ Ext w w'
theorem GivesP.l7 {w w' : World} {x : Nat → It} {i m : Nat} {ok : Bool} {e : Ending} (h : GivesP w x i m ok e w') (hl : ∀ j, j < m → (x (i + j)).len ≤ 1048576) : GivesL7 w m (fun j => x (i + j)) ok e w' := by
  obtain ⟨v, y, rfl, hA, hS, hE⟩ := h
  obtain ⟨a, S, cap, rfl, hI⟩ := hA.iow (fun j hj => by rw [(hS j hj).2.2.1]; have := hl j hj; omega)
  exact ⟨a, S, cap, y, rfl, hI, fun j hj => by show _ = (x (i + (0 + j))).tag ∧ _ = (x (i + (0 + j))).kid ∧ _ = (x (i + (0 + j))).len ∧ _ = (x (i + (0 + j))).f; rw [Nat.zero_add]; exact hS j hj, hE⟩

theorem ptM_le {x : Nat → It} {n : Nat} {z : Int} : ptM x n z = 0 ∨ (z.toNat + ptM x n z ≤ n) := by
  unfold ptM
  cases hb : hasB x n z
  · exact .inl rfl
  · refine .inr ?_
    unfold hasB at hb
    simp only [Bool.and_eq_true, decide_eq_true_eq] at hb
    have h1 := (endF_range (fun j => (x j).kid) n 13 z.toNat).2
    rw [if_pos rfl]
    omega

set_option maxHeartbeats 3200000 in
set_option maxRecDepth 100000 in
theorem lawPart_any (a : Option Addr) (b off n cap : Nat) (x : Nat → It) (z : Int) (w : World) (hI : ItsIn w a b off n x) (hz : -9223372036854775808 ≤ z ∧ z ≤ 9223372036854775807) :
    Calls Try.prog 3 #[.slice a n cap, .int .i64 z] w fun e w' => e = .returned (.bool true) ∧ Ext w w' := by
  have HZ := hide (szItemS_any a b off n cap x 1048576 w hI.seg (by omega) (by omega) hI.small)
  have HS := hide (@sz_small x n)
  have HSu := hide (@sz_sum x n)
  generalize (if (1048576 : Int) < n then (-1 : Int) else if szI x n (1048576 - n) < 0 then -1 else szI x n (1048576 - n)) = y at *
  by_cases hy : y < 0
  · go_enter Try.func3, Try.ntmps3
    go_wp2_with fail
    refine HZ.out.mono ?_
    rintro e w1 ⟨rfl, hE⟩
    go_wp2
    go_ret
    exact ⟨rfl, hE⟩
  · obtain ⟨hn, hl⟩ := HS.out hy
    obtain ⟨-, hsum⟩ := HSu.out hy
    have Hl := hide hl
    have HC : Hid (∀ w', Ext w w' → Calls Try.prog 8 #[.slice a n cap] w' fun e w'' => e = .returned (.slice (some ⟨w'.heap.size, 0, none⟩) n n) ∧ ISeg w'' (some ⟨w'.heap.size, 0, none⟩) w'.heap.size 0 n (laidI x w'.heap.size) ∧ Cpy w'.heap.size n 0 x w'' ∧ w''.heap.size = w'.heap.size + 1 + 4 * n ∧ Ext w' w'') := fun w' he => (toItemS_any a b off n cap x w' (hI.seg.of_all he) hn hl).mono (fun e w'' ⟨h1, h2⟩ => ⟨h1, h2.seg (fun i hi => by have := hl i hi; omega), h2.cpy, h2.size, h2.below⟩)
    have hle : ∀ j, j < ptM x n z → z.toNat + j < n := fun j hj => by have := @ptM_le x n z; omega
    have hX : ∀ S, (fun j => laidI x S (z.toNat + j)) = fun j => laidI x S (z.toNat + j) := fun _ => rfl
    have HSp : Hid (∀ (S : Nat) (w' : World), ISeg w' (some ⟨S, 0, none⟩) S 0 n (laidI x S) → Calls Try.prog 7 #[.slice (some ⟨S, 0, none⟩) n n, .int .i64 z] w' fun e w'' => GivesL7 w' (ptM x n z) (fun j => x (z.toNat + j)) (hasB x n z) e w'') := fun S w' h => (specPart_any _ _ _ _ _ _ z w' h hn hz.2 hl).mono (fun _ _ k => GivesP.l7 (x := laidI x S) k (fun j hj => hl _ (hle j hj)))
    have HIm : Hid (∀ (S : Nat) (w' : World), ISeg w' (some ⟨S, 0, none⟩) S 0 n (laidI x S) → Calls Try.prog 9 #[.slice (some ⟨S, 0, none⟩) n n, .int .i64 z] w' fun e w'' => GivesL7 w' (ptM x n z) (fun j => x (z.toNat + j)) (hasB x n z) e w'') := fun S w' h => (implPart_any _ _ _ _ _ _ z w' h hn (fun i hi => (hI.ok i hi).k1) hl).mono (fun _ _ k => GivesP.l7 (x := laidI x S) k (fun j hj => hl _ (hle j hj)))
    have hM : ptM x n z ≤ 1048576 := by have := @ptM_le x n z; omega
    have HXl : Hid (∀ y : Nat → It, SameI y (fun j => x (z.toNat + j)) 0 (ptM x n z) → (∀ j, j < ptM x n z → (y j).len ≤ 1048576) ∧ sumL y (ptM x n z) ≤ 1048576) := fun y hS => by
      refine ⟨fun j hj => ?_, ?_⟩
      · rw [(hS j hj).2.2.1]
        show (x (z.toNat + (0 + j))).len ≤ _
        exact hl _ (by have := hle j hj; omega)
      · have h1 := sumL_part (y := y) (x := x) (i := z.toNat) (m := ptM x n z) (fun j hj => by have := hS j hj; rw [Nat.zero_add] at this; exact this)
        rcases @ptM_le x n z with h | h
        · rw [h]; exact Nat.zero_le _
        · have := sumL_mono x h
          omega
    clear hI hl HS HSu hle hX
    generalize (fun j => x (z.toNat + j)) = X at *
    generalize ptM x n z = M at *
    generalize hasB x n z = ok at *
    cases ok
    all_goals
      go_enter Try.func3, Try.ntmps3
      go_wp2_with fail
      refine HZ.out.mono ?_
      rintro e w1 ⟨rfl, hE1⟩
      have HE := hide hE1
      clear hE1 HZ
      go_wp2_with fail
      refine (HC.out _ HE.out).mono ?_
      rintro e w2 ⟨rfl, hs2, -, -, hE2⟩
      replace HE := hide (Ext.trans HE.out hE2)
      clear hE2
      go_wp2_with fail
      refine (HSp.out _ _ hs2).mono ?_
      rintro e w3 ⟨aw, Sw, cw, yw, rfl, ow, kw, hE3⟩
      replace HE := hide (Ext.trans HE.out hE3)
      have Low := hide ow.low
      have Kw := hide kw
      have hS3 : w.heap.size ≤ w3.heap.size := Below.size HE.out
      clear hE3 hs2 ow kw
      go_wp2_with fail
      refine (HC.out _ HE.out).mono ?_
      rintro e w4 ⟨rfl, hs4, hc4, hz4, hE4⟩
      replace HE := hide (Ext.trans HE.out hE4)
      replace Low := hide (Low.out.below hE4 (Nat.le_refl _))
      clear hE4
      go_wp2_with fail
      refine (HIm.out _ _ hs4).mono ?_
      rintro e w5 ⟨ag, Sg, cg, yg, rfl, og, kg, hE5⟩
      replace HE := hide (Ext.trans HE.out hE5)
      replace Low := hide (Low.out.below hE5 (by omega))
      have Og := hide og
      have Kg := hide kg
      have Hs5 := hide (hs4.of_all hE5)
      have Hc5 : Hid (Cpy w3.heap.size n 0 x w5) := by
        by_cases h0 : 0 < n
        · exact hc4.ext hE5 h0 h0
        · exact Cpy.none (by omega) (fun o => by rw [Below.frozen hE5 (p := ⟨w3.heap.size, o, none⟩) (by simp; omega)]; exact hc4.fz o)
      have lt5 : w3.heap.size < w5.heap.size := by have := Below.size hE5; omega
      have lt45 : w4.heap.size ≤ w5.heap.size := Below.size hE5
      clear hE5 hs4 hc4 og kg
      go_wp2_with fail
      refine (eqItemS_any ag Sg 0 M cg yg aw Sw 0 M cw yw _ Og.out.toISeg Low.out.toISeg hM (HXl.out _ Kg.out).1).mono ?_
      rintro e w6 ⟨rfl, D6⟩
      rw [itsEq_same Kg.out Kw.out, show (M == M && true) = true by simp]
      replace HE := hide (Ext.trans HE.out D6)
      replace Low := hide (Low.out.below D6 (by omega))
      replace Og := hide (Og.out.of_all D6)
      replace Hs5 := hide (Hs5.out.of_all D6)
      replace Hc5 : Hid (Cpy w3.heap.size n 0 x w6) := by
        by_cases h0 : 0 < n
        · exact Hc5.out.ext D6 h0 h0
        · exact Cpy.none (by omega) (fun o => by rw [Below.frozen D6 (p := ⟨w3.heap.size, o, none⟩) (by simp; omega)]; exact Hc5.out.fz o)
      have lt6 : w5.heap.size ≤ w6.heap.size := Below.size D6
      clear D6
      go_wp2_with fail
      refine (HC.out _ HE.out).mono ?_
      rintro e w7 ⟨rfl, hs7, -, -, hE7⟩
      replace HE := hide (Ext.trans HE.out hE7)
      replace Low := hide (Low.out.below hE7 (by omega))
      replace Og := hide (Og.out.of_all hE7)
      replace Hs5 := hide (Hs5.out.of_all hE7)
      have Hc7 : Hid (Cpy w3.heap.size n 0 x w7) := by
        by_cases h0 : 0 < n
        · exact Hc5.out.ext hE7 h0 h0
        · exact Cpy.none (by omega) (fun o => by rw [Below.frozen hE7 (p := ⟨w3.heap.size, o, none⟩) (by simp; omega)]; exact Hc5.out.fz o)
      have lt7 : w6.heap.size ≤ w7.heap.size := Below.size hE7
      clear hE7 Hc5
      go_wp2_with fail
      refine (eqItemS_any _ _ _ _ _ _ _ _ _ _ _ _ _ Hs5.out hs7 hn (fun i hi => Hl.out i hi)).mono ?_
      rintro e w8 ⟨rfl, hE8⟩
      rw [itEq_laid]
      replace HE := hide (Ext.trans HE.out hE8)
      replace Low := hide (Low.out.below hE8 (by omega))
      replace Og := hide (Og.out.of_all hE8)
      have Hc8 : Hid (Cpy w3.heap.size n 0 x w8) := by
        by_cases h0 : 0 < n
        · exact Hc7.out.ext hE8 h0 h0
        · exact Cpy.none (by omega) (fun o => by rw [Below.frozen hE8 (p := ⟨w3.heap.size, o, none⟩) (by simp; omega)]; exact Hc7.out.fz o)
      have lt8 : w7.heap.size ≤ w8.heap.size := Below.size hE8
      clear hE8 hs7 Hs5 Hc7
      go_wp2_with fail
      refine (markItemS_any _ n n x _ Hc8.out hn hsum).mono ?_
      rintro e w9 ⟨k, rfl, hk0, hMT⟩
      replace HE := hide (MarkT.below HE.out hMT hS3)
      replace Low := hide (Low.out.mark hMT (Nat.le_refl _))
      replace Og := hide (Og.out.mark hMT (by omega))
      have lt9 : w8.heap.size ≤ w9.heap.size := by rw [hMT.size]; exact Nat.le_refl _
      clear hMT Hc8
      have hk1 : ¬ k < 0 := by omega
      go_wp2_with fail
      refine (eqItemS_any ag Sg 0 M cg yg aw Sw 0 M cw yw _ Og.out.toISeg Low.out.toISeg hM (HXl.out _ Kg.out).1).mono ?_
      rintro e w10 ⟨rfl, D10⟩
      rw [itsEq_same Kg.out Kw.out, show (M == M && true) = true by simp]
      replace HE := hide (Ext.trans HE.out D10)
      replace Low := hide (Low.out.below D10 (by omega))
      replace Og := hide (Og.out.of_all D10)
      have lt10 : w9.heap.size ≤ w10.heap.size := Below.size D10
      clear D10
      go_wp2_with fail
      refine (markItemS_own w4.heap.size ag Sg 0 M cg yg w10 Og.out (by omega) hM (HXl.out _ Kg.out).2).mono ?_
      rintro e w11 ⟨rfl, og2, hMk⟩
      replace HE := hide (Below.trans HE.out (hMk.below.mono (by omega)))
      replace Low := hide (Low.out.below hMk.below (by omega))
      have Og2 := hide og2
      have lt11 : w10.heap.size ≤ w11.heap.size := by rw [hMk.size]; exact Nat.le_refl _
      clear Og hMk og2
      have HQ : Hid (¬ kqI yg M < 0) := by show ¬ _; unfold kqI; omega
      have HHd : Hid (∀ W, ISeg W ag Sg 0 M (mkd yg M) → Calls Try.prog 12 #[.slice ag M cg, .int .i64 1] W fun e w' => e = .returned (.int .i64 (kqI yg M)) ∧ w' = W) := fun W h => heldItemS_own ag Sg 0 M cg yg W h hM (HXl.out _ Kg.out).2
      generalize kqI yg M = Q at *
      have hQ := HQ.out
      go_wp2_with fail
      refine (HHd.out _ Og2.out.toISeg).mono ?_
      rintro e w12 ⟨rfl, hw⟩
      obtain rfl := hw.symm
      go_wp2_with fail
      refine (HC.out _ HE.out).mono ?_
      rintro e w13 ⟨rfl, hs13, -, -, hE13⟩
      replace HE := hide (Ext.trans HE.out hE13)
      replace Low := hide (Low.out.below hE13 (by omega))
      replace Og2 := hide (Og2.out.of_all hE13)
      have lt13 : w11.heap.size ≤ w13.heap.size := Below.size hE13
      clear hE13
      go_wp2_with fail
      refine (HIm.out _ _ hs13).mono ?_
      rintro e w14 ⟨ah, Sh, ch, yh, rfl, oh, kh, hE14⟩
      replace HE := hide (Ext.trans HE.out hE14)
      replace Low := hide (Low.out.below hE14 (by omega))
      replace Og2 := hide (Og2.out.of_all hE14)
      have Oh := hide oh
      have Kh := hide kh
      clear hE14 hs13 oh kh
      go_wp2_with fail
      refine (eqItemS_any ah Sh 0 M ch yh aw Sw 0 M cw yw _ Oh.out.toISeg Low.out.toISeg hM (HXl.out _ Kh.out).1).mono ?_
      rintro e w15 ⟨rfl, D15⟩
      rw [itsEq_same Kh.out Kw.out, show (M == M && true) = true by simp]
      replace HE := hide (Ext.trans HE.out D15)
      replace Og2 := hide (Og2.out.of_all D15)
      clear D15 Low Oh
      go_wp2_with fail
      refine (HHd.out _ Og2.out.toISeg).mono ?_
      rintro e w16 ⟨rfl, hw⟩
      obtain rfl := hw.symm
      go_wp2
      go_ret
      exact ⟨rfl, HE.out⟩

end Go.Proofs.Ytboaiojapgiedaa
