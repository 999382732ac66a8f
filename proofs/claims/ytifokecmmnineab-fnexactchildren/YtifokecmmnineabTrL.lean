/- The walk of the law FnExactTreeOk. -/
import Derived.Test.YtifokecmmnineabItO
import Derived.Test.YtifokecmmnineabItk
import Derived.Test.YtifokecmmnineabTrT
import Derived.Test.YtifokecmmnineabTrW
namespace Go.Proofs.Ytifokecmmnineab
set_option linter.unusedVariables false
set_option linter.unusedSimpArgs false
open Go.RowKit

theorem szI_len {x : Nat → It} {l : Int} (h : l ≤ 1048576) : ∀ (n : Nat), 0 ≤ szI x n l → ∀ i, i < n → (x i).len ≤ 1048576
  | 0, _, i, hi => absurd hi (Nat.not_lt_zero _)
  | n + 1, h0, i, hi => by
    unfold szI at h0
    split at h0
    · omega
    · rename_i h1
      by_cases e : i = n
      · subst e
        have hr : szI x i l ≤ 1048576 := by
          have : ∀ k, szI x k l ≤ 1048576 := by
            intro k
            induction k with
            | zero => exact h
            | succ k ih => unfold szI; split; omega; exact (szL_range ih).2
          exact this i
        unfold szL at h0
        split at h0 <;> omega
      · exact szI_len h n (by omega) i (by omega)

theorem treeV_laid (x : Nat → It) (S n : Nat) : treeV (laidI x S) n = treeV x n := rfl

/-- A list that the laws' helpers let through: its lengths. -/
theorem sz_small {x : Nat → It} {n : Nat} (h : ¬ (if (1048576 : Int) < n then (-1 : Int) else if szI x n (1048576 - n) < 0 then -1 else szI x n (1048576 - n)) < 0) : n ≤ 1048576 ∧ ∀ i, i < n → (x i).len ≤ 1048576 := by
  split at h
  · omega
  · split at h
    · omega
    · exact ⟨by omega, szI_len (l := 1048576 - (n : Int)) (by omega) n (by omega)⟩

set_option maxHeartbeats 1600000 in
set_option maxRecDepth 100000 in
theorem lawTree_any (a : Option Addr) (b off n cap : Nat) (x : Nat → It) (w : World) (hI : ItsIn w a b off n x) :
    Calls Try.prog 4 #[.slice a n cap] w fun e w' => e = .returned (.bool true) ∧ Ext w w' := by
  have HZ := hide (szItemS_any a b off n cap x 1048576 w hI.seg (by omega) (by omega) hI.small)
  have HS := hide (@sz_small x n)
  generalize (if (1048576 : Int) < n then (-1 : Int) else if szI x n (1048576 - n) < 0 then -1 else szI x n (1048576 - n)) = z at *
  by_cases hz : z < 0
  · go_enter Try.func4, Try.ntmps4
    go_wp2_with fail
    refine HZ.out.mono ?_
    rintro e w1 ⟨rfl, hE⟩
    go_wp2
    go_ret
    exact ⟨rfl, hE⟩
  · obtain ⟨hn, hl⟩ := HS.out hz
    have Hl := hide hl
    have HI := hide hI
    have HC : Hid (∀ w', Ext w w' → Calls Try.prog 12 #[.slice a n cap] w' fun e w'' => e = .returned (.slice (some ⟨w'.heap.size, 0, none⟩) n n) ∧ ISeg w'' (some ⟨w'.heap.size, 0, none⟩) w'.heap.size 0 n (laidI x w'.heap.size) ∧ Ext w' w'') := fun w' he => (toItemS_any a b off n cap x w' (hI.seg.of_all he) hn hl).mono (fun e w'' ⟨h1, h2⟩ => ⟨h1, h2.seg (fun i hi => by have := hl i hi; omega), h2.below⟩)
    have HSp : Hid (∀ (S : Nat) (w' : World), ISeg w' (some ⟨S, 0, none⟩) S 0 n (laidI x S) → Calls Try.prog 11 #[.slice (some ⟨S, 0, none⟩) n n] w' fun e w'' => e = .returned (.bool (treeV x n)) ∧ Ext w' w'') := fun S w' h => by rw [← treeV_laid x S n]; exact specTree_any _ _ _ _ _ _ w' h hn
    have HIm : Hid (∀ (S : Nat) (w' : World), ISeg w' (some ⟨S, 0, none⟩) S 0 n (laidI x S) → Calls Try.prog 13 #[.slice (some ⟨S, 0, none⟩) n n] w' fun e w'' => e = .returned (.bool (treeV x n)) ∧ Ext w' w'') := fun S w' h => by rw [← treeV_laid x S n]; exact implTree_any _ _ _ _ _ _ w' h hn (fun i hi => (hI.ok i hi).k1)
    clear hI hl HS
    generalize treeV x n = R at *
    go_enter Try.func4, Try.ntmps4
    go_wp2_with fail
    refine HZ.out.mono ?_
    rintro e w1 ⟨rfl, hE1⟩
    have HE := hide hE1
    clear hE1 HZ
    go_wp2_with fail
    refine (HC.out _ HE.out).mono ?_
    rintro e w2 ⟨rfl, hs2, hE2⟩
    replace HE := hide (Ext.trans HE.out hE2)
    clear hE2
    go_wp2_with fail
    refine (HSp.out _ _ hs2).mono ?_
    rintro e w3 ⟨rfl, hE3⟩
    replace HE := hide (Ext.trans HE.out hE3)
    clear hE3 hs2
    go_wp2_with fail
    refine (HC.out _ HE.out).mono ?_
    rintro e w4 ⟨rfl, hs4, hE4⟩
    replace HE := hide (Ext.trans HE.out hE4)
    clear hE4
    go_wp2_with fail
    refine (HIm.out _ _ hs4).mono ?_
    rintro e w5 ⟨rfl, hE5⟩
    have Hs5 := hide (hs4.of_all hE5)
    replace HE := hide (Ext.trans HE.out hE5)
    clear hE5 hs4
    cases R
    all_goals
      go_wp2_with fail
      refine (HC.out _ HE.out).mono ?_
      rintro e w6 ⟨rfl, hs6, hE6⟩
      have hs5 := Hs5.out.of_all hE6
      replace HE := hide (Ext.trans HE.out hE6)
      clear hE6
      go_wp2_with fail
      refine (eqItemS_any _ _ _ _ _ _ _ _ _ _ _ _ _ hs5 hs6 hn (fun i hi => Hl.out i hi)).mono ?_
      rintro e w7 ⟨rfl, hE7⟩
      rw [itEq_laid]
      replace HE := hide (Ext.trans HE.out hE7)
      clear hE7 hs5 hs6
      go_wp2
      go_ret
      exact ⟨rfl, HE.out⟩

end Go.Proofs.Ytifokecmmnineab
