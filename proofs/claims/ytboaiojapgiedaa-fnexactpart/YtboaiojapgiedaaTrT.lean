/- Walks: the model's TreeOk. Written by mktrt.py. -/
import Derived.Test.YtboaiojapgiedaaTrP
import Derived.Test.YtboaiojapgiedaaIn
namespace Go.Proofs.Ytboaiojapgiedaa
set_option linter.unusedVariables false
set_option linter.unusedSimpArgs false
open Go.RowKit

theorem l7Made_any (t : Int) (w : World) (t0 : 0 ≤ t) (t1 : t ≤ 255) : Calls Try.prog 56 #[.int .i64 t] w fun e w' => e = .returned (.bool (decide (t / 32 % 2 = 1))) ∧ w' = w := by
  have e1 : t.tdiv 32 = t / 32 := Int.tdiv_eq_ediv_of_nonneg t0
  have e2 : (t / 32).tmod 2 = t / 32 % 2 := Int.tmod_eq_emod_of_nonneg (by omega)
  go_enter Try.func56, Try.ntmps56
  go_wp2
  go_ret
  exact ⟨ret_bool (by first | rfl | (rw [Bool.eq_iff_iff]; simp)), rfl⟩

set_option maxHeartbeats 0 in
theorem specTree_any (a : Option Addr) (b off n cap : Nat) (x : Nat → It) (w : World) (hs : ISeg w a b off n x) (hn : n ≤ 1048576) :
    Calls Try.prog 25 #[.slice a n cap] w fun e w' => e = .returned (.bool (treeV x n)) ∧ Ext w w' := by
  obtain ⟨F, hF⟩ : ∃ F, treeV x n = F := ⟨_, rfl⟩
  rw [hF]
  have HF := hide hF
  clear hF
  by_cases hin : 1 ≤ n ∧ n ≤ 300
  · have HN : Hid (∀ W : World, Calls Try.prog 26 #[.int .i64 n, .int .i64 1, .int .i64 300] W fun e w' => e = .returned (.bool true) ∧ w' = W) := hide (fun W => by
      have := l1In_int n 1 300 W
      rwa [show (decide ((1 : Int) ≤ n) && decide ((n : Int) ≤ 300)) = true by simp; omega] at this)
    go_enter Try.func25, Try.ntmps25
    go_wp2_with fail
    refine (HN.out _).mono ?_
    rintro e w1 ⟨rfl, hw1⟩
    subst hw1
    go_wp2
    go_loopw [3] (fun i wr => ∃ k : Nat, k ≤ n ∧ i = .int .i64 k ∧ (∀ j, j < k → itGood (x j)) ∧ Ext w1 wr) (fun i _ => n - (intOf i).toNat)
    case atStart => exact ⟨0, Nat.zero_le _, rfl, fun j hj => absurd hj (Nat.not_lt_zero _), Ext.refl _⟩
    case round =>
      obtain ⟨k, hk, rfl, hd, hE⟩ := hrel
      have HD := hide hd
      clear hd
      by_cases hlt : k < n
      · obtain rfl := hs.at' (by omega)
        have hs' := hs.of_all hE
        have c0 := hs'.c0 k hlt
        have c1 := hs'.c1 k hlt
        have c2 := hs'.c2 k hlt
        have hsm := hs.small k hlt
        have HE := hide hE
        have HS := hide hs
        clear hs hs' hE
        have hkn : (k : Int) < (n : Int) := by omega
        have HBad : Hid (¬ itGood (x k) → F = false) := hide (fun h => by rw [← HF.out]; exact decide_eq_false (fun g => h (g.2.2.1 k hlt)))
        obtain ⟨t, ht⟩ : ∃ t, (x k).tag = t := ⟨_, rfl⟩
        obtain ⟨c, hc⟩ : ∃ c, (x k).kid = c := ⟨_, rfl⟩
        obtain ⟨q, hq⟩ : ∃ q, (x k).len = q := ⟨_, rfl⟩
        have HG : Hid (itGood (x k) ↔ (0 ≤ t ∧ t ≤ 255 ∧ t % 32 ≠ 31 ∧ 0 ≤ c ∧ c ≤ 300 ∧ (t / 32 % 2 = 1 → q = 0) ∧ (t / 32 % 2 ≠ 1 → c = 0))) := hide (by unfold itGood; rw [ht, hc, hq])
        rw [ht] at c0
        rw [hq] at c1 hsm
        rw [hc] at c2
        clear ht hc hq
        have HT : Hid (∀ W : World, Calls Try.prog 26 #[.int .i64 t, .int .i64 0, .int .i64 255] W fun e w' => e = .returned (.bool (decide (0 ≤ t) && decide (t ≤ 255))) ∧ w' = W) := hide (fun W => l1In_int t 0 255 W)
        have HK : Hid (∀ W : World, Calls Try.prog 26 #[.int .i64 c, .int .i64 0, .int .i64 300] W fun e w' => e = .returned (.bool (decide (0 ≤ c) && decide (c ≤ 300))) ∧ w' = W) := hide (fun W => l1In_int c 0 300 W)
        by_cases hA : 0 ≤ t ∧ t ≤ 255
        · rw [show (decide (0 ≤ t) && decide (t ≤ 255)) = true by simp; omega] at HT
          have em : t.tmod 32 = t % 32 := Int.tmod_eq_emod_of_nonneg (by omega)
          by_cases hB : t % 32 = 31
          · have hB' : (t % 32 == 31) = true := by simp [hB]
            go_wp2_with fail
            refine (HT.out _).mono ?_
            rintro e w1 ⟨rfl, hw1⟩
            subst hw1
            go_wp2
            go_ret
            exact ⟨ret_bool (HBad.out (fun g => by have := HG.out.1 g; omega)).symm, HE.out.trans (Ext.alloc _ _)⟩
          · have hB' : (t % 32 == 31) = false := by simp [hB]
            by_cases hC : 0 ≤ c ∧ c ≤ 300
            · rw [show (decide (0 ≤ c) && decide (c ≤ 300)) = true by simp; omega] at HK
              have HMd : Hid (∀ W : World, Calls Try.prog 56 #[.int .i64 t] W fun e w' => e = .returned (.bool (decide (t / 32 % 2 = 1))) ∧ w' = W) := hide (fun W => l7Made_any t W (by omega) (by omega))
              by_cases hM : t / 32 % 2 = 1
              · rw [show decide (t / 32 % 2 = 1) = true by simp [hM]] at HMd
                by_cases hQ : q = 0
                · have hQ' : ¬ (0 : Int) < (q : Int) := by omega
                  have HQ := hide hQ
                  clear hQ
                  go_wp2_with fail
                  refine (HT.out _).mono ?_
                  rintro e w1 ⟨rfl, hw1⟩
                  subst hw1
                  go_wp2_with fail
                  refine (HK.out _).mono ?_
                  rintro e w1 ⟨rfl, hw1⟩
                  subst hw1
                  go_wp2_with fail
                  refine (HMd.out _).mono ?_
                  rintro e w1 ⟨rfl, hw1⟩
                  subst hw1
                  go_wp2_with fail
                  refine (HMd.out _).mono ?_
                  rintro e w1 ⟨rfl, hw1⟩
                  subst hw1
                  go_wp2
                  go_roundw
                  case rel => exact ⟨k + 1, by omega, by go_num, fun j hj => by
                                by_cases e : j = k
                                · subst e; exact HG.out.2 (by have := HQ.out; omega)
                                · exact HD.out j (by omega), HE.out.trans (Ext.alloc _ _)⟩
                  case measure => simp [intOf]; omega
                · have hQ' : (0 : Int) < (q : Int) := by omega
                  go_wp2_with fail
                  refine (HT.out _).mono ?_
                  rintro e w1 ⟨rfl, hw1⟩
                  subst hw1
                  go_wp2_with fail
                  refine (HK.out _).mono ?_
                  rintro e w1 ⟨rfl, hw1⟩
                  subst hw1
                  go_wp2_with fail
                  refine (HMd.out _).mono ?_
                  rintro e w1 ⟨rfl, hw1⟩
                  subst hw1
                  go_wp2
                  go_ret
                  exact ⟨ret_bool (HBad.out (fun g => by have := HG.out.1 g; omega)).symm, HE.out.trans (Ext.alloc _ _)⟩
              · rw [show decide (t / 32 % 2 = 1) = false by simp [hM]] at HMd
                by_cases hQ : c = 0
                · have hQ' : ¬ (0 : Int) < c := by omega
                  have HQ := hide hQ
                  clear hQ
                  go_wp2_with fail
                  refine (HT.out _).mono ?_
                  rintro e w1 ⟨rfl, hw1⟩
                  subst hw1
                  go_wp2_with fail
                  refine (HK.out _).mono ?_
                  rintro e w1 ⟨rfl, hw1⟩
                  subst hw1
                  go_wp2_with fail
                  refine (HMd.out _).mono ?_
                  rintro e w1 ⟨rfl, hw1⟩
                  subst hw1
                  go_wp2_with fail
                  refine (HMd.out _).mono ?_
                  rintro e w1 ⟨rfl, hw1⟩
                  subst hw1
                  go_wp2
                  go_roundw
                  case rel => exact ⟨k + 1, by omega, by go_num, fun j hj => by
                                by_cases e : j = k
                                · subst e; exact HG.out.2 (by have := HQ.out; omega)
                                · exact HD.out j (by omega), HE.out.trans (Ext.alloc _ _)⟩
                  case measure => simp [intOf]; omega
                · have hQ' : (0 : Int) < c := by omega
                  go_wp2_with fail
                  refine (HT.out _).mono ?_
                  rintro e w1 ⟨rfl, hw1⟩
                  subst hw1
                  go_wp2_with fail
                  refine (HK.out _).mono ?_
                  rintro e w1 ⟨rfl, hw1⟩
                  subst hw1
                  go_wp2_with fail
                  refine (HMd.out _).mono ?_
                  rintro e w1 ⟨rfl, hw1⟩
                  subst hw1
                  go_wp2_with fail
                  refine (HMd.out _).mono ?_
                  rintro e w1 ⟨rfl, hw1⟩
                  subst hw1
                  go_wp2
                  go_ret
                  exact ⟨ret_bool (HBad.out (fun g => by have := HG.out.1 g; omega)).symm, HE.out.trans (Ext.alloc _ _)⟩
            · rw [show (decide (0 ≤ c) && decide (c ≤ 300)) = false by simp; omega] at HK
              go_wp2_with fail
              refine (HT.out _).mono ?_
              rintro e w1 ⟨rfl, hw1⟩
              subst hw1
              go_wp2_with fail
              refine (HK.out _).mono ?_
              rintro e w1 ⟨rfl, hw1⟩
              subst hw1
              go_wp2
              go_ret
              exact ⟨ret_bool (HBad.out (fun g => by have := HG.out.1 g; omega)).symm, HE.out.trans (Ext.alloc _ _)⟩
        · rw [show (decide (0 ≤ t) && decide (t ≤ 255)) = false by simp; omega] at HT
          go_wp2_with fail
          refine (HT.out _).mono ?_
          rintro e w1 ⟨rfl, hw1⟩
          subst hw1
          go_wp2
          go_ret
          exact ⟨ret_bool (HBad.out (fun g => by have := HG.out.1 g; omega)).symm, HE.out.trans (Ext.alloc _ _)⟩
      · obtain rfl : k = n := by omega
        have HC := hide (l7End_any a b off k cap x w1 hs (by omega) (fun i hi => by have := HD.out i hi; unfold itGood at this; omega) 13 0 0 wr (by omega) (by omega) hE)
        have hr := endF_range (fun j => (x j).kid) k 13 0
        obtain ⟨z, hz⟩ : ∃ z, endF (fun j => (x j).kid) k 13 0 = z := ⟨_, rfl⟩
        rw [hz] at HC hr
        have HZ := hide hz
        have HE := hide hE
        clear hz hs hE
        go_wp2_with fail
        refine HC.out.mono ?_
        rintro e w2 ⟨rfl, hE2⟩
        have HE2 := hide hE2
        clear hE2
        go_wp2
        go_ret
        refine ⟨ret_bool ?_, HE.out.trans HE2.out⟩
        rw [← HF.out]
        unfold treeV
        rw [Bool.eq_iff_iff, HZ.out]
        have g1 : 1 ≤ k ∧ k ≤ 300 := hin
        have g2 := HD.out
        simp [g1.1, g1.2]
        try exact fun _ => g2
  · have HN : Hid (∀ W : World, Calls Try.prog 26 #[.int .i64 n, .int .i64 1, .int .i64 300] W fun e w' => e = .returned (.bool false) ∧ w' = W) := hide (fun W => by
      have := l1In_int n 1 300 W
      rwa [show (decide ((1 : Int) ≤ n) && decide ((n : Int) ≤ 300)) = false by simp; omega] at this)
    have HB : Hid (F = false) := hide (by rw [← HF.out]; exact decide_eq_false (fun g => hin ⟨g.1, g.2.1⟩))
    go_enter Try.func25, Try.ntmps25
    go_wp2_with fail
    refine (HN.out _).mono ?_
    rintro e w1 ⟨rfl, hw1⟩
    subst hw1
    go_wp2
    go_ret
    exact ⟨ret_bool HB.out.symm, Ext.refl _⟩

end Go.Proofs.Ytboaiojapgiedaa
