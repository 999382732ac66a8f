/- Walks: the model's NewStream, Sha, Short: as the program's. -/
import Derived.Test.YtjkojofpkeglpabShaD
import Derived.Test.YtjkojofpkeglpabShaY
namespace Go.Proofs.Ytjkojofpkeglpab
set_option linter.unusedVariables false
set_option linter.unusedSimpArgs false
open Go.RowKit

set_option maxHeartbeats 1600000 in
set_option maxRecDepth 100000 in
theorem l5Start_any (w : World) : Calls Try.prog 113 #[] w fun e w' => e = .returned (.agg #[.int .i64 (firstV 0), .int .i64 (firstV 1), .int .i64 (firstV 2), .int .i64 (firstV 3), .int .i64 (firstV 4), .int .i64 (firstV 5), .int .i64 (firstV 6), .int .i64 (firstV 7)]) ∧ Ext w w' := by
  go_enter Try.func113, Try.ntmps113
  go_wp2
  refine bodyPost_ret (v := .agg #[.int .i64 (firstV 0), .int .i64 (firstV 1), .int .i64 (firstV 2), .int .i64 (firstV 3), .int .i64 (firstV 4), .int .i64 (firstV 5), .int .i64 (firstV 6), .int .i64 (firstV 7)]) (by simp [results, Try.results113, go_sem, firstV, firstL]) rfl ⟨rfl, ?_⟩
  show Below _ _ _
  repeat (first | exact Below.refl _ _ | refine Below.setCell ?_ (by simp <;> omega) _ | refine Below.alloc ?_ (by simp <;> omega) _)

set_option maxHeartbeats 1600000 in
set_option maxRecDepth 100000 in
theorem specNewStream_any (w : World) : Calls Try.prog 80 #[] w fun e w' => e = .returned (.agg #[.int .i64 (firstV 0), .int .i64 (firstV 1), .int .i64 (firstV 2), .int .i64 (firstV 3), .int .i64 (firstV 4), .int .i64 (firstV 5), .int .i64 (firstV 6), .int .i64 (firstV 7), .slice none 0 0, .int .i64 0]) ∧ Ext w w' := by
  go_enter Try.func80, Try.ntmps80
  go_wp2_with fail
  refine (l5Start_any _).mono ?_
  rintro e w2 ⟨rfl, h2⟩
  obtain ⟨V, hV⟩ : ∃ V, w.alloc (.cells #[.int .i64 0, .int .i64 0, .int .i64 0, .int .i64 0, .int .i64 0, .int .i64 0, .int .i64 0, .int .i64 0, .slice none 0 0, .int .i64 0] 62) = V := ⟨_, rfl⟩
  obtain ⟨B1, hE, hz⟩ := box1 w [.int .i64 0, .int .i64 0, .int .i64 0, .int .i64 0, .int .i64 0, .int .i64 0, .int .i64 0, .int .i64 0, .slice none 0 0, .int .i64 0] 62 (hV ▸ Ext.refl _ : Ext _ V)
  simp only [hV] at h2
  clear hV
  have B2 := B1.ext h2 (by omega)
  obtain ⟨c0, f0⟩ := B2 0 _ rfl
  obtain ⟨c1, f1⟩ := B2 1 _ rfl
  obtain ⟨c2, f2⟩ := B2 2 _ rfl
  obtain ⟨c3, f3⟩ := B2 3 _ rfl
  obtain ⟨c4, f4⟩ := B2 4 _ rfl
  obtain ⟨c5, f5⟩ := B2 5 _ rfl
  obtain ⟨c6, f6⟩ := B2 6 _ rfl
  obtain ⟨c7, f7⟩ := B2 7 _ rfl
  obtain ⟨c8, f8⟩ := B2 8 _ rfl
  obtain ⟨c9, f9⟩ := B2 9 _ rfl
  have HB := hide B2
  have HE := hide (hE.trans h2)
  clear B2 B1 hE h2
  go_wp2
  have BR := HB.out.put [.int .i64 (firstV 0), .int .i64 (firstV 1), .int .i64 (firstV 2), .int .i64 (firstV 3), .int .i64 (firstV 4), .int .i64 (firstV 5), .int .i64 (firstV 6), .int .i64 (firstV 7), .slice none 0 0, .int .i64 0] rfl
  have hW := HE.out.putL (C := w.heap.size) (by omega) [.int .i64 (firstV 0), .int .i64 (firstV 1), .int .i64 (firstV 2), .int .i64 (firstV 3), .int .i64 (firstV 4), .int .i64 (firstV 5), .int .i64 (firstV 6), .int .i64 (firstV 7), .slice none 0 0, .int .i64 0]
  simp only [putL] at BR hW
  generalize World.setCell _ ⟨w.heap.size, 9, none⟩ _ = WE at *
  have hl := run_load10 _ rfl _ _ (fun j v h => (BR j v h).1)
  refine bodyPost_ret (v := .agg #[.int .i64 (firstV 0), .int .i64 (firstV 1), .int .i64 (firstV 2), .int .i64 (firstV 3), .int .i64 (firstV 4), .int .i64 (firstV 5), .int .i64 (firstV 6), .int .i64 (firstV 7), .slice none 0 0, .int .i64 0]) ?_ rfl ⟨rfl, hW⟩
  exact results_cell Try.results80 rfl hl

theorem blocks_mod (h b : Nat → Int) (q : Nat) (e : ∀ i, i < 8 → 0 ≤ h i ∧ h i < 4294967296) : ∀ i, i < 8 → blocksV h b q i % 4294967296 = blocksV h b q i := fun i hi => by
  have := blocksV_bound h b e q i hi
  omega

/-- The model's digest and the program's: one. -/
theorem stB_end (h f : Nat → Int) (n many : Nat) (e : ∀ i, i < 8 → 0 ≤ h i ∧ h i < 4294967296) : ∀ i, i < 32 → stB (blocksV h (catF f n (padV many)) ((n + (9 + padZ many)) / 64)) i = stB (endV h f n many) i := fun i hi => by
  unfold stB endV
  rw [blocks_mod h _ _ e _ (by omega)]

theorem blocksV_congr8 {h h' : Nat → Int} (b : Nat → Int) (e : ∀ i, i < 8 → h i = h' i) : ∀ q i, i < 8 → blocksV h b q i = blocksV h' b q i
  | 0, i, hi => e i hi
  | q + 1, i, hi => by
    have ih := blocksV_congr8 b e q
    show blockV (blocksV h b q) _ i = blockV (blocksV h' b q) _ i
    unfold blockV
    have hr : ∀ t j, j < 8 → roundsV (fun i => blocksV h b q i % 4294967296) (fun i => b (64 * q + i)) t j = roundsV (fun i => blocksV h' b q i % 4294967296) (fun i => b (64 * q + i)) t j := by
      intro t
      induction t with
      | zero => intro j hj; show blocksV h b q j % _ = blocksV h' b q j % _; rw [ih j hj]
      | succ t iht => intro j hj; exact roundV_congr8 _ iht j hj
    rw [ih i hi, hr 64 i hi]

set_option maxHeartbeats 3200000 in
set_option maxRecDepth 100000 in
theorem specSha_yes (da : Option Addr) (db doff m dcap : Nat) (fd : Nat → Int) (w : World) (hm : m ≤ 20000) (hd : BSeg w da db doff m fd) (hdy : ∀ i, i < m → 0 ≤ fd i ∧ fd i < 256) :
    Calls Try.prog 45 #[.slice da m dcap] w fun e w' => GivesR w 32 (shaF fd m) e w' := by
  have Hd := hide hd
  have Hy := hide hdy
  have hm2 : ¬ (20000 : Int) < m := by omega
  clear hd hdy
  go_enter Try.func45, Try.ntmps45
  go_wp2_with fail
  refine (specNewStream_any _).mono ?_
  rintro e w1 ⟨rfl, h1⟩
  go_wp2_with fail
  refine (l5Feed_any firstV none 0 0 0 0 (fun _ => 0) 0 da db doff m dcap fd w1 (by omega) (by omega) (by omega) (bseg_nil _ _ _ _ _) (Hd.out.of_all h1) (fun i hi => absurd hi (Nat.not_lt_zero _)) Hy.out).mono ?_
  rintro e w2 ⟨v, rfl, hO, h2⟩
  rw [Nat.zero_add, catF_zero] at hO
  obtain ⟨a2, g, c2, rfl, -, -, -, hB⟩ := owns_seg hO
  rw [Nat.zero_add, catF_zero, Int.zero_add]
  obtain ⟨u, hu⟩ : ∃ u : Nat → Int, u = blocksV firstV fd (m / 64) := ⟨_, rfl⟩
  have hfb : ∀ i, i < 8 → 0 ≤ firstV i ∧ firstV i < 4294967296 := firstV_bound
  have HB := hide hB.toBSeg
  have HE := hide (h1.trans h2)
  have HDg : Hid (∀ w, BSeg w a2 g 0 (m % 64) (fun i => fd (64 * (m / 64) + i)) → Calls Try.prog 78 #[.agg #[.int .i64 (u 0), .int .i64 (u 1), .int .i64 (u 2), .int .i64 (u 3), .int .i64 (u 4), .int .i64 (u 5), .int .i64 (u 6), .int .i64 (u 7), .slice a2 (m % 64) c2, .int .i64 (m : Int)]] w fun e w' => GivesR w 32 (shaF fd m) e w') := hide (fun w hb => by
    have hub : ∀ i, i < 8 → 0 ≤ u i ∧ u i < 4294967296 := fun i hi => by rw [hu]; exact blocksV_bound firstV fd hfb _ i hi
    refine (l5Digest_any u a2 g 0 (m % 64) c2 _ m w hub hm rfl hb (fun i hi => Hy.out _ (by omega))).mono ?_
    rintro e w' ⟨v, rfl, hO, hE⟩
    refine ⟨v, rfl, owns_congr hO (fun i hi => ?_), hE⟩
    unfold shaF stB endV
    congr 1
    rw [blocksV_congr8 (h' := fun i => blocksV firstV fd (m / 64) i % 4294967296) _ (fun i hi => by rw [hu]; exact (blocks_mod firstV fd _ hfb i hi).symm) _ _ (show i / 4 < 8 by omega)]
    refine (blocks_mod _ _ _ (fun i hi => ?_) _ (by omega)).symm
    omega)
  rw [← hu]
  generalize (fun i => fd (64 * (m / 64) + i)) = fr at *
  obtain ⟨L, hL⟩ : ∃ L, m % 64 = L := ⟨_, rfl⟩
  rw [hL] at HB HDg ⊢
  clear hL hu hB h1 h2 Hd Hy hO
  go_wp2_with fail
  refine (HDg.out _ HB.out).mono ?_
  rintro e w3 ⟨v, rfl, hO, h3⟩
  have HO := hide (owns_mono hO (Below.size HE.out))
  have HE3 : Hid (Ext w w3) := hide (HE.out.trans h3)
  clear hO h3 HDg HB HE
  go_wp2
  go_ret
  exact ⟨_, rfl, HO.out, HE3.out⟩

set_option maxHeartbeats 3200000 in
set_option maxRecDepth 100000 in
theorem specSha_no (da : Option Addr) (db doff m dcap : Nat) (fd : Nat → Int) (w : World) (hm : ¬ m ≤ 20000) (hmm : m ≤ 1048576) :
    Calls Try.prog 45 #[.slice da m dcap] w fun e w' => GivesR w 0 (shaF fd m) e w' := by
  have hm2 : (20000 : Int) < m := by omega
  go_enter Try.func45, Try.ntmps45
  go_wp2
  go_ret
  exact ⟨_, rfl, World.ownsRow_made (base := w.heap.size) (e := 5) (size := 1) w #[] 0 (Nat.le_refl _) (by unfold maxLen; omega) rfl, Ext.alloc _ _⟩

theorem specSha_any (da : Option Addr) (db doff m dcap : Nat) (fd : Nat → Int) (w : World) (hmm : m ≤ 1048576) (hd : BSeg w da db doff m fd) (hdy : ∀ i, i < m → 0 ≤ fd i ∧ fd i < 256) :
    Calls Try.prog 45 #[.slice da m dcap] w fun e w' => GivesR w (shaN m) (shaF fd m) e w' := by
  unfold shaN
  by_cases h : m ≤ 20000
  · rw [if_pos h]; exact specSha_yes da db doff m dcap fd w h hd hdy
  · rw [if_neg h]; exact specSha_no da db doff m dcap fd w h hmm

end Go.Proofs.Ytjkojofpkeglpab
