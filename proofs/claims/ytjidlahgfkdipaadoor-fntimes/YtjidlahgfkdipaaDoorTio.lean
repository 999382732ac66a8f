/- Walks: TimeOf of both. -/
import Derived.Test.YtjidlahgfkdipaaDoorTim
namespace Go.Proofs.YtjidlahgfkdipaaDoor
set_option linter.unusedVariables false
set_option linter.unusedSimpArgs false
open Go.RowKit

theorem tm_sum {y m d s : Nat} (h : DayOk y m d) (hs : s < 86400) (D : Nat) (hD : D = Yd (y - 1950) + Mb y m + (d - 1)) : wrap64 ((D : Int) * 86400) = (D * 86400 : Nat) ∧ wrap64 (-631152000 + ((D * 86400 : Nat) : Int)) = -631152000 + ((D * 86400 : Nat) : Int) ∧ wrap64 (-631152000 + ((D * 86400 : Nat) : Int) + (s : Int)) = tmV y m d s := by
  have hm := h.max
  have e : D = days y m d := hD
  unfold tmV
  rw [← e]
  rw [← e] at hm
  unfold wrap64
  omega
theorem tm_bounds {y m d : Nat} (h : DayOk y m d) : 1950 ≤ y ∧ y ≤ 2099 ∧ 1 ≤ m ∧ m ≤ 12 ∧ 1 ≤ d ∧ d ≤ 31 := ⟨h.y0, h.y1, h.m0, h.m1, h.d0, Nat.le_trans h.d1 (md_le y m)⟩
/-- The days ahead of a year, by the year. -/
def Yy (z : Nat) : Nat := Yd (z - 1950)
theorem Yy_step {z : Nat} (h : 1950 ≤ z) (hn : z ≤ 2099) : Yy (z + 1) = Yy z + yd z ∧ Yy z + yd z ≤ 60000 := by
  have e := Yd_succ (z - 1950)
  have e1 : 1950 + (z - 1950) = z := by omega
  have e2 : z + 1 - 1950 = z - 1950 + 1 := by omega
  have : Yd (z - 1950 + 1) ≤ 54787 := Yd_last (by omega)
  rw [e1] at e
  unfold Yy
  rw [e2]
  omega
theorem Mb_step {y k m : Nat} (h0 : 1 ≤ k) (h : k < m) (hm : m ≤ 12) : Mb y (k + 1) = Mb y k + md y k ∧ Mb y k + md y k ≤ 366 := by
  have e := Mb_succ y k h0 (by omega)
  have := Mb_le y k h0 (by omega)
  have := (yd_le y).2
  omega

set_option maxHeartbeats 1600000 in
set_option maxRecDepth 100000 in
theorem implTimeOf_yes (y m d s : Nat) (h : DayOk y m d) (hs : s < 86400) (w : World) (hT : MTab w) :
    Calls Tryd.prog 10 #[.int .i64 (y : Int), .int .i64 (m : Int), .int .i64 (d : Int), .int .i64 (s : Int)] w fun e w' => e = .returned (.tuple #[.int .i64 (tmV y m d s), .bool true]) ∧ w' = w := by
  have hd : dOk y m d = true := by have := (tOk_of h hs).1; rw [tOk_eq] at this; simp only [Bool.and_eq_true] at this; exact this.1
  have HD := hide (dayOk_any y m d w hT)
  rw [hd] at HD
  obtain ⟨y0, y1, m0, m1, d0, d1⟩ := tm_bounds h
  have HE : Hid (∀ D, D = Yy y + Mb y m + (d - 1) → wrap64 ((D : Int) * 86400) = (D * 86400 : Nat) ∧ wrap64 (-631152000 + ((D * 86400 : Nat) : Int)) = -631152000 + ((D * 86400 : Nat) : Int) ∧ wrap64 (-631152000 + ((D * 86400 : Nat) : Int) + (s : Int)) = tmV y m d s) := fun D hD => tm_sum h hs D hD
  generalize tmV y m d s = V at *
  obtain ⟨e, he⟩ : ∃ e, d = e + 1 := ⟨d - 1, by omega⟩
  have hde : wrap64 ((d : Int) - 1) = (e : Int) := by unfold wrap64; omega
  have hde' : IntKind.i64.wrap ((d : Int) - 1) = (e : Int) := by rw [IntKind.wrap_i64]; omega
  have hee : d - 1 = e := by omega
  have he31 : e ≤ 31 := by omega
  rw [hee] at HE
  have s0 : ¬ (s : Int) < 0 := by omega
  have s1 : ¬ 86400 ≤ (s : Int) := by omega
  generalize (s : Int) = S at *
  have HT := hide hT
  clear hd h hs hT he hee d0 d1
  go_enter Tryd.func10, Tryd.ntmps10
  go_wp2_with (go_at_call 27; refine HD.out.mono ?_; rintro e w1 ⟨rfl, hw⟩; obtain rfl := hw.symm)
  clear s0 s1 hde hde' HD
  go_loop [10, 11] (fun dv yv => ∃ z D : Nat, 1950 ≤ z ∧ z ≤ y ∧ yv = .int .i64 (z : Int) ∧ dv = .int .i64 (D : Int) ∧ D = Yy z + e) (fun _ yv => y - (intOf yv).toNat)
  case atStart => exact ⟨1950, e, Nat.le_refl _, y0, rfl, rfl, by show e = 0 + e; omega⟩
  case round =>
    obtain ⟨z, D, hz, hk, rfl, rfl, hDD⟩ := hrel
    by_cases hlt : z < y
    · obtain ⟨E1, E2⟩ := Yy_step hz (by omega)
      have HE1 := hide E1
      have HY := hide (daysOfYear_any z (by omega) w)
      have HDD := hide hDD
      have hle : D + yd z ≤ 60100 := by omega
      have hly : (z : Int) < (y : Int) := by omega
      clear hDD E1 E2
      generalize yd z = Q at *
      go_wp2_with (go_at_call 28; refine HY.out.mono ?_; rintro e w1 ⟨rfl, hw⟩; obtain rfl := hw.symm)
      go_round
      case rel => exact ⟨z + 1, D + Q, by omega, hlt, by go_num, by go_num, by rw [HE1.out, HDD.out]; omega⟩
      case measure => simp [intOf]; omega
    · obtain rfl : z = y := by omega
      have hly : ¬ (z : Int) < (z : Int) := by omega
      have hD1 : D ≤ 60100 := by
        obtain ⟨-, E2⟩ := Yy_step hz y1
        omega
      have HDD := hide hDD
      clear hDD
      go_wp2
      go_loop [10, 12] (fun dv mv => ∃ k D : Nat, 1 ≤ k ∧ k ≤ m ∧ mv = .int .i64 (k : Int) ∧ dv = .int .i64 (D : Int) ∧ D = Yy z + Mb z k + e) (fun _ mv => m - (intOf mv).toNat)
      case atStart => exact ⟨1, D, Nat.le_refl _, m0, rfl, rfl, by rw [Mb_one, HDD.out]; rfl⟩
      case round =>
        clear HDD
        obtain ⟨k, D2, hk1, hk, rfl, rfl, hD2⟩ := hrel
        by_cases hlt : k < m
        · obtain ⟨E1, E2⟩ := Mb_step (y := z) hk1 hlt m1
          have HE1 := hide E1
          have HM := hide (daysOfMonth_any z k (by omega) hk1 (by omega) w HT.out)
          have HD2 := hide hD2
          have hle : D2 + md z k ≤ 60600 := by
            obtain ⟨-, E3⟩ := Yy_step hz y1
            omega
          have hlm : (k : Int) < (m : Int) := by omega
          clear hD2 E1 E2
          generalize md z k = Q at *
          go_wp2_with (go_at_call 29; refine HM.out.mono ?_; rintro e w1 ⟨rfl, hw⟩; obtain rfl := hw.symm)
          go_round
          case rel => exact ⟨k + 1, D2 + Q, by omega, hlt, by go_num, by go_num, by rw [HE1.out, HD2.out]; omega⟩
          case measure => simp [intOf]; omega
        · obtain rfl : k = m := by omega
          have hlm : ¬ (k : Int) < (k : Int) := by omega
          obtain ⟨r1, r2, r3⟩ := HE.out D2 hD2
          clear HE hD2
          generalize D2 * 86400 = P at *
          go_wp2
          go_ret2
          exact ⟨rfl, rfl⟩


theorem l1In_yes (x a b : Int) (w : World) (h1 : a ≤ x) (h2 : x ≤ b) : Calls Tryd.prog 24 #[.int .i64 x, .int .i64 a, .int .i64 b] w fun e w' => e = .returned (.bool true) ∧ w' = w := by
  have h := l1In_int x a b w
  rw [decide_eq_true h1, decide_eq_true h2] at h
  exact h
theorem l1In_no (x a b : Int) (w : World) (h : x < a ∨ b < x) : Calls Tryd.prog 24 #[.int .i64 x, .int .i64 a, .int .i64 b] w fun e w' => e = .returned (.bool false) ∧ w' = w := by
  have k := l1In_int x a b w
  have e : (decide (a ≤ x) && decide (x ≤ b)) = false := by simp; omega
  rw [e] at k
  exact k

theorem implTimeOf_no (y m d s : Int) (h : tOk y m d s = false) (w : World) (hT : MTab w) :
    Calls Tryd.prog 10 #[.int .i64 y, .int .i64 m, .int .i64 d, .int .i64 s] w fun e w' => e = .returned (.tuple #[.int .i64 0, .bool false]) ∧ w' = w := by
  have HD := hide (dayOk_any y m d w hT)
  rw [tOk_eq] at h
  cases hd : dOk y m d
  · rw [hd] at HD
    clear h hd
    go_enter Tryd.func10, Tryd.ntmps10
    go_wp2_with (go_at_call 27; refine HD.out.mono ?_; rintro e w1 ⟨rfl, hw⟩; obtain rfl := hw.symm)
    go_ret2
    exact ⟨rfl, rfl⟩
  · rw [hd] at HD
    have hs : ¬ (0 ≤ s ∧ s < 86400) := by rw [hd, Bool.true_and, decide_eq_false_iff_not] at h; exact h
    have hq : s < 0 ∨ (¬ s < 0 ∧ 86400 ≤ s) := by omega
    clear h hd hs
    rcases hq with h | ⟨h, h'⟩
    all_goals
      go_enter Tryd.func10, Tryd.ntmps10
      go_wp2_with (go_at_call 27; refine HD.out.mono ?_; rintro e w1 ⟨rfl, hw⟩; obtain rfl := hw.symm)
      go_ret2
      exact ⟨rfl, rfl⟩

theorem implTimeOf_any (y m d s : Int) (w : World) (hT : MTab w) :
    Calls Tryd.prog 10 #[.int .i64 y, .int .i64 m, .int .i64 d, .int .i64 s] w fun e w' => e = .returned (.tuple #[.int .i64 (tTm y m d s), .bool (tOk y m d s)]) ∧ w' = w := by
  cases h : tOk y m d s
  · have e : tTm y m d s = 0 := by unfold tTm; rw [h]; rfl
    rw [e]
    exact implTimeOf_no y m d s h w hT
  · obtain ⟨y', m', d', s', rfl, rfl, rfl, rfl, hD, hs⟩ := tOk_nat h
    rw [(tOk_of hD hs).2]
    exact implTimeOf_yes y' m' d' s' hD hs w hT

theorem tm_sum2 {y m d s : Nat} (h : DayOk y m d) (hs : s < 86400) (D : Nat) (hD : D = Yy y + Mb y m) : wrap64 ((D : Int) - 7305 + (d : Int)) = (D : Int) - 7305 + d ∧ wrap64 ((D : Int) - 7305 + (d : Int) - 1) = (D : Int) - 7305 + d - 1 ∧ wrap64 (((D : Int) - 7305 + d - 1) * 86400) = -631152000 + ((days y m d * 86400 : Nat) : Int) ∧ wrap64 (-631152000 + ((days y m d * 86400 : Nat) : Int) + (s : Int)) = tmV y m d s := by
  have hm := h.max
  have d0 := h.d0
  have e : days y m d = D + (d - 1) := by unfold days; rw [hD]; rfl
  unfold tmV
  generalize days y m d = E at *
  clear h
  have d1 : d ≤ 54787 := by omega
  have D1 : D ≤ 54787 := by omega
  refine ⟨by unfold wrap64; omega, by unfold wrap64; omega, ?_, ?_⟩
  · have : ((D : Int) - 7305 + d - 1) * 86400 = -631152000 + ((E * 86400 : Nat) : Int) := by omega
    rw [this]
    clear hD e this
    unfold wrap64; omega
  · have : -631152000 + ((E * 86400 : Nat) : Int) + (s : Int) = -631152000 + ((E * 86400 + s : Nat) : Int) := by omega
    rw [this]
    clear hD e this
    unfold wrap64; omega

set_option maxHeartbeats 1600000 in
set_option maxRecDepth 100000 in
theorem specTimeOf_yes (y m d s : Nat) (h : DayOk y m d) (hs : s < 86400) (w : World) :
    Calls Tryd.prog 9 #[.int .i64 (y : Int), .int .i64 (m : Int), .int .i64 (d : Int), .int .i64 (s : Int)] w fun e w' => e = .returned (.tuple #[.int .i64 (tmV y m d s), .bool true]) ∧ Ext w w' := by
  obtain ⟨y0, y1, m0, m1, d0, d1⟩ := tm_bounds h
  have HE : Hid (∀ D, D = Yy y + Mb y m → wrap64 ((D : Int) - 7305 + (d : Int)) = (D : Int) - 7305 + d ∧ wrap64 ((D : Int) - 7305 + (d : Int) - 1) = (D : Int) - 7305 + d - 1 ∧ wrap64 (((D : Int) - 7305 + d - 1) * 86400) = -631152000 + ((days y m d * 86400 : Nat) : Int) ∧ wrap64 (-631152000 + ((days y m d * 86400 : Nat) : Int) + (s : Int)) = tmV y m d s) := fun D hD => tm_sum2 h hs D hD
  generalize tmV y m d s = V at *
  generalize -631152000 + ((days y m d * 86400 : Nat) : Int) = P at *
  have dq := h.d1
  have HL := hide (l9Days_any y m m0 m1 w)
  generalize hQ : md y m = Q at *
  have f1 : 1950 ≤ (y : Int) := by omega
  have f2 : (y : Int) ≤ 2099 := by omega
  have f3 : 1 ≤ (m : Int) := by omega
  have f4 : (m : Int) ≤ 12 := by omega
  have f5 : 1 ≤ (d : Int) := by omega
  have f6 : (d : Int) ≤ (Q : Int) := by omega
  have f7 : 0 ≤ (s : Int) := by omega
  have f8 : (s : Int) ≤ 86399 := by omega
  have F := hide (And.intro f1 (And.intro f2 (And.intro f3 (And.intro f4 (And.intro f5 (And.intro f6 (And.intro f7 f8)))))))
  clear hQ h hs f1 f2 f3 f4 f5 f6 f7 f8
  generalize (Q : Int) = QQ at *
  generalize (s : Int) = S at *
  generalize hY : (y : Int) = Y at *
  generalize hM : (m : Int) = M at *
  generalize hD : (d : Int) = DD at *
  have HY := hide hY
  have HM := hide hM
  have Hr := hide (And.intro y0 (And.intro y1 (And.intro m0 m1)))
  clear hY hM hD y0 y1 m0 m1 d0 d1 dq
  go_enter Tryd.func9, Tryd.ntmps9
  go_wp2_with (first | (go_at_call 25; refine HL.out.mono ?_; rintro e w2 ⟨rfl, hE2⟩; have HE2 := hide hE2; clear hE2) | (go_at_call 24; refine (l1In_yes _ _ _ _ (by have := F.out; omega) (by have := F.out; omega)).mono ?_; rintro e w1 ⟨rfl, hw⟩; obtain rfl := hw.symm))
  clear HL F
  obtain rfl := HY.out
  obtain rfl := HM.out
  obtain ⟨y0, y1, m0, m1⟩ := Hr.out
  go_loop [10, 11] (fun dv yv => ∃ z D : Nat, 1950 ≤ z ∧ z ≤ y ∧ yv = .int .i64 (z : Int) ∧ dv = .int .i64 ((D : Int) - 7305) ∧ D = Yy z) (fun _ yv => y - (intOf yv).toNat)
  case atStart => exact ⟨1950, 0, Nat.le_refl _, y0, rfl, rfl, rfl⟩
  case round =>
    obtain ⟨z, D, hz, hk, rfl, rfl, hDD⟩ := hrel
    by_cases hlt : z < y
    · obtain ⟨E1, E2⟩ := Yy_step hz (by omega)
      have HE1 := hide E1
      have HY := hide (l9Year_any z (by omega) w2)
      have HDD := hide hDD
      have hle : D + yd z ≤ 60100 := by omega
      have hly : (z : Int) < (y : Int) := by omega
      clear hDD E1 E2
      generalize yd z = Q2 at *
      have hw1 : wrap64 ((D : Int) - 7305 + (Q2 : Int)) = ((D + Q2 : Nat) : Int) - 7305 := by unfold wrap64; omega
      go_wp2_with (go_at_call 26; refine HY.out.mono ?_; rintro e w1 ⟨rfl, hw⟩; obtain rfl := hw.symm)
      go_round
      case rel => clear hw1; exact ⟨z + 1, D + Q2, by omega, hlt, by go_num, by go_num, by rw [HE1.out, HDD.out]⟩
      case measure => clear hw1; simp [intOf]; omega
    · obtain rfl : z = y := by omega
      have hly : ¬ (z : Int) < (z : Int) := by omega
      have HDD := hide hDD
      clear hDD
      go_wp2
      go_loopw [10, 12] (fun dv mv wr => ∃ k D : Nat, 1 ≤ k ∧ k ≤ m ∧ mv = .int .i64 (k : Int) ∧ dv = .int .i64 ((D : Int) - 7305) ∧ D = Yy z + Mb z k ∧ Ext w wr) (fun _ mv _ => m - (intOf mv).toNat)
      case atStart => exact ⟨1, D, Nat.le_refl _, m0, rfl, rfl, by rw [Mb_one, HDD.out]; rfl, HE2.out⟩
      case round =>
        clear HDD
        obtain ⟨k, D2, hk1, hk, rfl, rfl, hD2, hE⟩ := hrel
        have HEx := hide hE
        clear hE
        by_cases hlt : k < m
        · obtain ⟨E1, E2⟩ := Mb_step (y := z) hk1 hlt m1
          have HE1 := hide E1
          have HM := hide (l9Days_any z k hk1 (by omega) wr)
          have HD2 := hide hD2
          have hle : D2 + md z k ≤ 60600 := by
            obtain ⟨-, E3⟩ := Yy_step hz y1
            omega
          have hlm : (k : Int) < (m : Int) := by omega
          clear hD2 E1 E2
          generalize md z k = Q3 at *
          have hw1 : wrap64 ((D2 : Int) - 7305 + (Q3 : Int)) = ((D2 + Q3 : Nat) : Int) - 7305 := by unfold wrap64; omega
          go_wp2_with (go_at_call 25; refine HM.out.mono ?_; rintro e w1 ⟨rfl, hE1⟩; have HEw := hide hE1; clear hE1)
          go_roundw
          case rel => clear hw1; exact ⟨k + 1, D2 + Q3, by omega, hlt, by go_num, by go_num, by rw [HE1.out, HD2.out]; omega, Ext.trans HEx.out HEw.out⟩
          case measure => clear hw1; simp [intOf]; omega
        · obtain rfl : k = m := by omega
          have hlm : ¬ (k : Int) < (k : Int) := by omega
          obtain ⟨r1, r2, r3, r4⟩ := HE.out D2 hD2
          clear HE hD2
          generalize (D2 : Int) - 7305 = P0 at *
          go_wp2
          go_ret2
          exact ⟨rfl, HEx.out⟩

theorem specTimeOf_no (y m d s : Int) (h : tOk y m d s = false) (w : World) :
    Calls Tryd.prog 9 #[.int .i64 y, .int .i64 m, .int .i64 d, .int .i64 s] w fun e w' => e = .returned (.tuple #[.int .i64 0, .bool false]) ∧ Ext w w' := by
  by_cases hy : 1950 ≤ y ∧ y ≤ 2099
  · by_cases hm : 1 ≤ m ∧ m ≤ 12
    · obtain ⟨y', rfl⟩ := Int.eq_ofNat_of_zero_le (show 0 ≤ y by omega)
      obtain ⟨m', rfl⟩ := Int.eq_ofNat_of_zero_le (show 0 ≤ m by omega)
      have HL := hide (l9Days_any y' m' (by omega) (by omega) w)
      have h' : ¬ (1 ≤ d ∧ d ≤ (md y' m' : Int) ∧ 0 ≤ s ∧ s ≤ 86399) := by
        intro k
        unfold tOk at h
        rw [decide_eq_false_iff_not, Int.toNat_natCast, Int.toNat_natCast] at h
        exact h ⟨hy.1, hy.2, hm.1, hm.2, k.1, k.2.1, k.2.2.1, by omega⟩
      clear h
      generalize (md y' m' : Int) = Q at *
      generalize (y' : Int) = Y at *
      generalize (m' : Int) = M at *
      by_cases hd : 1 ≤ d ∧ d ≤ Q
      · have F := hide (And.intro hy (And.intro hm (And.intro hd (show s < 0 ∨ 86399 < s by omega))))
        clear hd hy hm h'
        go_enter Tryd.func9, Tryd.ntmps9
        go_wp2_with (first | (go_at_call 25; refine HL.out.mono ?_; rintro e w2 ⟨rfl, hE2⟩; have HE2 := hide hE2; clear hE2) | (go_at_call 24; refine (l1In_yes _ _ _ _ (by have := F.out; omega) (by have := F.out; omega)).mono ?_; rintro e w1 ⟨rfl, hw⟩; obtain rfl := hw.symm) | (go_at_call 24; refine (l1In_no _ _ _ _ (by have := F.out; omega)).mono ?_; rintro e w1 ⟨rfl, hw⟩; obtain rfl := hw.symm))
        go_ret2
        exact ⟨rfl, HE2.out⟩
      · have F := hide (And.intro hy (And.intro hm (show d < 1 ∨ Q < d by omega)))
        clear hd hy hm h'
        go_enter Tryd.func9, Tryd.ntmps9
        go_wp2_with (first | (go_at_call 25; refine HL.out.mono ?_; rintro e w2 ⟨rfl, hE2⟩; have HE2 := hide hE2; clear hE2) | (go_at_call 24; refine (l1In_yes _ _ _ _ (by have := F.out; omega) (by have := F.out; omega)).mono ?_; rintro e w1 ⟨rfl, hw⟩; obtain rfl := hw.symm) | (go_at_call 24; refine (l1In_no _ _ _ _ (by have := F.out; omega)).mono ?_; rintro e w1 ⟨rfl, hw⟩; obtain rfl := hw.symm))
        go_ret2
        exact ⟨rfl, HE2.out⟩
    · have F := hide (And.intro hy (show m < 1 ∨ 12 < m by omega))
      clear h hy hm
      go_enter Tryd.func9, Tryd.ntmps9
      go_wp2_with (first | (go_at_call 24; refine (l1In_yes _ _ _ _ (by have := F.out; omega) (by have := F.out; omega)).mono ?_; rintro e w1 ⟨rfl, hw⟩; obtain rfl := hw.symm) | (go_at_call 24; refine (l1In_no _ _ _ _ (by have := F.out; omega)).mono ?_; rintro e w1 ⟨rfl, hw⟩; obtain rfl := hw.symm))
      go_ret2
      exact ⟨rfl, Ext.refl _⟩
  · have F := hide (show y < 1950 ∨ 2099 < y by omega)
    clear h hy
    go_enter Tryd.func9, Tryd.ntmps9
    go_wp2_with (go_at_call 24; refine (l1In_no _ _ _ _ (by have := F.out; omega)).mono ?_; rintro e w1 ⟨rfl, hw⟩; obtain rfl := hw.symm)
    go_ret2
    exact ⟨rfl, Ext.refl _⟩

theorem specTimeOf_any (y m d s : Int) (w : World) :
    Calls Tryd.prog 9 #[.int .i64 y, .int .i64 m, .int .i64 d, .int .i64 s] w fun e w' => e = .returned (.tuple #[.int .i64 (tTm y m d s), .bool (tOk y m d s)]) ∧ Ext w w' := by
  cases h : tOk y m d s
  · have e : tTm y m d s = 0 := by unfold tTm; rw [h]; rfl
    rw [e]
    exact specTimeOf_no y m d s h w
  · obtain ⟨y', m', d', s', rfl, rfl, rfl, rfl, hD, hs⟩ := tOk_nat h
    rw [(tOk_of hD hs).2]
    exact specTimeOf_yes y' m' d' s' hD hs w

end Go.Proofs.YtjidlahgfkdipaaDoor
