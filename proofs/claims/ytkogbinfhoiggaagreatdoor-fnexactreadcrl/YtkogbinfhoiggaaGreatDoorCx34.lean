/- Walks: TimeOf of both. Walks: DayOf of both. Plain facts: addresses read and written, as lists of bytes. Nothing of the program. Plain facts: the texts of times. Nothing of the program. -/
import Derived.Test.YtkogbinfhoiggaaGreatDoorCx33
import Derived.Lib.ItoaNum
import Derived.Lib.Atoi
import Derived.Lib.Join
namespace Go.Proofs.YtkogbinfhoiggaaGreatDoor
set_option linter.unusedVariables false
set_option linter.unusedSimpArgs false
section
open Go.RowKit
theorem tm_sum {y m d s : Nat} (h : DayOk y m d) (hs : s < 86400) (D : Nat) (hD : D = Yd (y - 1950) + Mb y m + (d - 1)) : wrap64 ((D : Int) * 86400) = (D * 86400 : Nat) ∧ wrap64 (-631152000 + ((D * 86400 : Nat) : Int)) = -631152000 + ((D * 86400 : Nat) : Int) ∧ wrap64 (-631152000 + ((D * 86400 : Nat) : Int) + (s : Int)) = tmV y m d s := by
 have hm := h.max
 have e : D = days y m d := hD
 unfold tmV
 rw [← e]
 rw [← e] at hm
 unfold wrap64
 omega
theorem tm_bounds {y m d : Nat} (h : DayOk y m d) : 1950 ≤ y ∧ y ≤ 2099 ∧ 1 ≤ m ∧ m ≤ 12 ∧ 1 ≤ d ∧ d ≤ 31 := ⟨h.y0, h.y1, h.m0, h.m1, h.d0, Nat.le_trans h.d1 (md_le y m)⟩
def Yy (z : Nat) : Nat := Yd (z - 1950)
theorem Yy_step {z : Nat} (h : 1950 ≤ z) (hn : z ≤ 2099) : Yy (z + 1) = Yy z + yd z ∧ Yy z + yd z ≤ 60000 := by
 have e := Yd_succ (z - 1950)
 have e1 : 1950 + (z - 1950) = z := by omega
 have e2 : z + 1 - 1950 = z - 1950 + 1 := by omega
 have : Yd (z - 1950 + 1) ≤ 54787 := Yd_last (by omega)
 rw [e1] at e
 unfold Yy
 rw [e2]
 omega
theorem Mb_step {y k m : Nat} (h0 : 1 ≤ k) (h : k < m) (hm : m ≤ 12) : Mb y (k + 1) = Mb y k + md y k ∧ Mb y k + md y k ≤ 366 := by
 have e := Mb_succ y k h0 (by omega)
 have := Mb_le y k h0 (by omega)
 have := (yd_le y).2
 omega
set_option maxHeartbeats 1600000 in
set_option maxRecDepth 100000 in
theorem implTimeOf_yes (y m d s : Nat) (h : DayOk y m d) (hs : s < 86400) (w : World) (hT : MTab w) :
  Calls Tryz.prog 150 #[.int .i64 (y : Int), .int .i64 (m : Int), .int .i64 (d : Int), .int .i64 (s : Int)] w fun e w' => e = .returned (.tuple #[.int .i64 (tmV y m d s), .bool true]) ∧ w' = w := by
 have hd : dOk y m d = true := by have := (tOk_of h hs).1; rw [tOk_eq] at this; simp only [Bool.and_eq_true] at this; exact this.1
 have HD := hide (dayOk_any y m d w hT)
 rw [hd] at HD
 obtain ⟨y0, y1, m0, m1, d0, d1⟩ := tm_bounds h
 have HE : Hid (∀ D, D = Yy y + Mb y m + (d - 1) → wrap64 ((D : Int) * 86400) = (D * 86400 : Nat) ∧ wrap64 (-631152000 + ((D * 86400 : Nat) : Int)) = -631152000 + ((D * 86400 : Nat) : Int) ∧ wrap64 (-631152000 + ((D * 86400 : Nat) : Int) + (s : Int)) = tmV y m d s) := fun D hD => tm_sum h hs D hD
 generalize tmV y m d s = V at *
 obtain ⟨e, he⟩ : ∃ e, d = e + 1 := ⟨d - 1, by omega⟩
 have hde : wrap64 ((d : Int) - 1) = (e : Int) := by unfold wrap64; omega
 have hde' : IntKind.i64.wrap ((d : Int) - 1) = (e : Int) := by rw [IntKind.wrap_i64]; omega
 have hee : d - 1 = e := by omega
 have he31 : e ≤ 31 := by omega
 rw [hee] at HE
 have s0 : ¬ (s : Int) < 0 := by omega
 have s1 : ¬ 86400 ≤ (s : Int) := by omega
 generalize (s : Int) = S at *
 have HT := hide hT
 clear hd h hs hT he hee d0 d1
 go_enter Tryz.func150, Tryz.ntmps150
 go_wp2_with (go_at_call 157; refine HD.out.mono ?_; rintro e w1 ⟨rfl, hw⟩; obtain rfl := hw.symm)
 clear s0 s1 hde hde' HD
 go_loop [10, 11] (fun dv yv => ∃ z D : Nat, 1950 ≤ z ∧ z ≤ y ∧ yv = .int .i64 (z : Int) ∧ dv = .int .i64 (D : Int) ∧ D = Yy z + e) (fun _ yv => y - (intOf yv).toNat)
 case atStart => exact ⟨1950, e, Nat.le_refl _, y0, rfl, rfl, by show e = 0 + e; omega⟩
 case round =>
  obtain ⟨z, D, hz, hk, rfl, rfl, hDD⟩ := hrel
  by_cases hlt : z < y
  ·obtain ⟨E1, E2⟩ := Yy_step hz (by omega)
   have HE1 := hide E1
   have HY := hide (daysOfYear_any z (by omega) w)
   have HDD := hide hDD
   have hle : D + yd z ≤ 60100 := by omega
   have hly : (z : Int) < (y : Int) := by omega
   clear hDD E1 E2
   generalize yd z = Q at *
   go_wp2_with (go_at_call 158; refine HY.out.mono ?_; rintro e w1 ⟨rfl, hw⟩; obtain rfl := hw.symm)
   go_round
   case rel => exact ⟨z + 1, D + Q, by omega, hlt, by go_num, by go_num, by rw [HE1.out, HDD.out]; omega⟩
   case measure => simp [intOf]; omega
  ·obtain rfl : z = y := by omega
   have hly : ¬ (z : Int) < (z : Int) := by omega
   have hD1 : D ≤ 60100 := by
    obtain ⟨-, E2⟩ := Yy_step hz y1
    omega
   have HDD := hide hDD
   clear hDD
   go_wp2
   go_loop [10, 12] (fun dv mv => ∃ k D : Nat, 1 ≤ k ∧ k ≤ m ∧ mv = .int .i64 (k : Int) ∧ dv = .int .i64 (D : Int) ∧ D = Yy z + Mb z k + e) (fun _ mv => m - (intOf mv).toNat)
   case atStart => exact ⟨1, D, Nat.le_refl _, m0, rfl, rfl, by rw [Mb_one, HDD.out]; rfl⟩
   case round =>
    clear HDD
    obtain ⟨k, D2, hk1, hk, rfl, rfl, hD2⟩ := hrel
    by_cases hlt : k < m
    ·obtain ⟨E1, E2⟩ := Mb_step (y := z) hk1 hlt m1
     have HE1 := hide E1
     have HM := hide (daysOfMonth_any z k (by omega) hk1 (by omega) w HT.out)
     have HD2 := hide hD2
     have hle : D2 + md z k ≤ 60600 := by
      obtain ⟨-, E3⟩ := Yy_step hz y1
      omega
     have hlm : (k : Int) < (m : Int) := by omega
     clear hD2 E1 E2
     generalize md z k = Q at *
     go_wp2_with (go_at_call 159; refine HM.out.mono ?_; rintro e w1 ⟨rfl, hw⟩; obtain rfl := hw.symm)
     go_round
     case rel => exact ⟨k + 1, D2 + Q, by omega, hlt, by go_num, by go_num, by rw [HE1.out, HD2.out]; omega⟩
     case measure => simp [intOf]; omega
    ·obtain rfl : k = m := by omega
     have hlm : ¬ (k : Int) < (k : Int) := by omega
     obtain ⟨r1, r2, r3⟩ := HE.out D2 hD2
     clear HE hD2
     generalize D2 * 86400 = P at *
     go_wp2
     go_ret2
     exact ⟨rfl, rfl⟩
theorem l1In_yes (x a b : Int) (w : World) (h1 : a ≤ x) (h2 : x ≤ b) : Calls Tryz.prog 64 #[.int .i64 x, .int .i64 a, .int .i64 b] w fun e w' => e = .returned (.bool true) ∧ w' = w := by
 have h := l1In_int x a b w
 rw [decide_eq_true h1, decide_eq_true h2] at h
 exact h
theorem l1In_no (x a b : Int) (w : World) (h : x < a ∨ b < x) : Calls Tryz.prog 64 #[.int .i64 x, .int .i64 a, .int .i64 b] w fun e w' => e = .returned (.bool false) ∧ w' = w := by
 have k := l1In_int x a b w
 have e : (decide (a ≤ x) && decide (x ≤ b)) = false := by simp; omega
 rw [e] at k
 exact k
theorem implTimeOf_no (y m d s : Int) (h : tOk y m d s = false) (w : World) (hT : MTab w) :
  Calls Tryz.prog 150 #[.int .i64 y, .int .i64 m, .int .i64 d, .int .i64 s] w fun e w' => e = .returned (.tuple #[.int .i64 0, .bool false]) ∧ w' = w := by
 have HD := hide (dayOk_any y m d w hT)
 rw [tOk_eq] at h
 cases hd : dOk y m d
 ·rw [hd] at HD
  clear h hd
  go_enter Tryz.func150, Tryz.ntmps150
  go_wp2_with (go_at_call 157; refine HD.out.mono ?_; rintro e w1 ⟨rfl, hw⟩; obtain rfl := hw.symm)
  go_ret2
  exact ⟨rfl, rfl⟩
 ·rw [hd] at HD
  have hs : ¬ (0 ≤ s ∧ s < 86400) := by rw [hd, Bool.true_and, decide_eq_false_iff_not] at h; exact h
  have hq : s < 0 ∨ (¬ s < 0 ∧ 86400 ≤ s) := by omega
  clear h hd hs
  rcases hq with h | ⟨h, h'⟩
  all_goals
   go_enter Tryz.func150, Tryz.ntmps150
   go_wp2_with (go_at_call 157; refine HD.out.mono ?_; rintro e w1 ⟨rfl, hw⟩; obtain rfl := hw.symm)
   go_ret2
   exact ⟨rfl, rfl⟩
theorem implTimeOf_any (y m d s : Int) (w : World) (hT : MTab w) :
  Calls Tryz.prog 150 #[.int .i64 y, .int .i64 m, .int .i64 d, .int .i64 s] w fun e w' => e = .returned (.tuple #[.int .i64 (tTm y m d s), .bool (tOk y m d s)]) ∧ w' = w := by
 cases h : tOk y m d s
 ·have e : tTm y m d s = 0 := by unfold tTm; rw [h]; rfl
  rw [e]
  exact implTimeOf_no y m d s h w hT
 ·obtain ⟨y', m', d', s', rfl, rfl, rfl, rfl, hD, hs⟩ := tOk_nat h
  rw [(tOk_of hD hs).2]
  exact implTimeOf_yes y' m' d' s' hD hs w hT
theorem tm_sum2 {y m d s : Nat} (h : DayOk y m d) (hs : s < 86400) (D : Nat) (hD : D = Yy y + Mb y m) : wrap64 ((D : Int) - 7305 + (d : Int)) = (D : Int) - 7305 + d ∧ wrap64 ((D : Int) - 7305 + (d : Int) - 1) = (D : Int) - 7305 + d - 1 ∧ wrap64 (((D : Int) - 7305 + d - 1) * 86400) = -631152000 + ((days y m d * 86400 : Nat) : Int) ∧ wrap64 (-631152000 + ((days y m d * 86400 : Nat) : Int) + (s : Int)) = tmV y m d s := by
 have hm := h.max
 have d0 := h.d0
 have e : days y m d = D + (d - 1) := by unfold days; rw [hD]; rfl
 unfold tmV
 generalize days y m d = E at *
 clear h
 have d1 : d ≤ 54787 := by omega
 have D1 : D ≤ 54787 := by omega
 refine ⟨by unfold wrap64; omega, by unfold wrap64; omega, ?_, ?_⟩
 ·have : ((D : Int) - 7305 + d - 1) * 86400 = -631152000 + ((E * 86400 : Nat) : Int) := by omega
  rw [this]
  clear hD e this
  unfold wrap64; omega
 ·have : -631152000 + ((E * 86400 : Nat) : Int) + (s : Int) = -631152000 + ((E * 86400 + s : Nat) : Int) := by omega
  rw [this]
  clear hD e this
  unfold wrap64; omega
set_option maxHeartbeats 1600000 in
set_option maxRecDepth 100000 in
theorem specTimeOf_yes (y m d s : Nat) (h : DayOk y m d) (hs : s < 86400) (w : World) :
  Calls Tryz.prog 40 #[.int .i64 (y : Int), .int .i64 (m : Int), .int .i64 (d : Int), .int .i64 (s : Int)] w fun e w' => e = .returned (.tuple #[.int .i64 (tmV y m d s), .bool true]) ∧ Ext w w' := by
 obtain ⟨y0, y1, m0, m1, d0, d1⟩ := tm_bounds h
 have HE : Hid (∀ D, D = Yy y + Mb y m → wrap64 ((D : Int) - 7305 + (d : Int)) = (D : Int) - 7305 + d ∧ wrap64 ((D : Int) - 7305 + (d : Int) - 1) = (D : Int) - 7305 + d - 1 ∧ wrap64 (((D : Int) - 7305 + d - 1) * 86400) = -631152000 + ((days y m d * 86400 : Nat) : Int) ∧ wrap64 (-631152000 + ((days y m d * 86400 : Nat) : Int) + (s : Int)) = tmV y m d s) := fun D hD => tm_sum2 h hs D hD
 generalize tmV y m d s = V at *
 generalize -631152000 + ((days y m d * 86400 : Nat) : Int) = P at *
 have dq := h.d1
 have HL := hide (l9Days_any y m m0 m1 w)
 generalize hQ : md y m = Q at *
 have f1 : 1950 ≤ (y : Int) := by omega
 have f2 : (y : Int) ≤ 2099 := by omega
 have f3 : 1 ≤ (m : Int) := by omega
 have f4 : (m : Int) ≤ 12 := by omega
 have f5 : 1 ≤ (d : Int) := by omega
 have f6 : (d : Int) ≤ (Q : Int) := by omega
 have f7 : 0 ≤ (s : Int) := by omega
 have f8 : (s : Int) ≤ 86399 := by omega
 have F := hide (And.intro f1 (And.intro f2 (And.intro f3 (And.intro f4 (And.intro f5 (And.intro f6 (And.intro f7 f8)))))))
 clear hQ h hs f1 f2 f3 f4 f5 f6 f7 f8
 generalize (Q : Int) = QQ at *
 generalize (s : Int) = S at *
 generalize hY : (y : Int) = Y at *
 generalize hM : (m : Int) = M at *
 generalize hD : (d : Int) = DD at *
 have HY := hide hY
 have HM := hide hM
 have Hr := hide (And.intro y0 (And.intro y1 (And.intro m0 m1)))
 clear hY hM hD y0 y1 m0 m1 d0 d1 dq
 go_enter Tryz.func40, Tryz.ntmps40
 go_wp2_with (first | (go_at_call 66; refine HL.out.mono ?_; rintro e w2 ⟨rfl, hE2⟩; have HE2 := hide hE2; clear hE2) | (go_at_call 64; refine (l1In_yes _ _ _ _ (by have := F.out; omega) (by have := F.out; omega)).mono ?_; rintro e w1 ⟨rfl, hw⟩; obtain rfl := hw.symm))
 clear HL F
 obtain rfl := HY.out
 obtain rfl := HM.out
 obtain ⟨y0, y1, m0, m1⟩ := Hr.out
 go_loop [10, 11] (fun dv yv => ∃ z D : Nat, 1950 ≤ z ∧ z ≤ y ∧ yv = .int .i64 (z : Int) ∧ dv = .int .i64 ((D : Int) - 7305) ∧ D = Yy z) (fun _ yv => y - (intOf yv).toNat)
 case atStart => exact ⟨1950, 0, Nat.le_refl _, y0, rfl, rfl, rfl⟩
 case round =>
  obtain ⟨z, D, hz, hk, rfl, rfl, hDD⟩ := hrel
  by_cases hlt : z < y
  ·obtain ⟨E1, E2⟩ := Yy_step hz (by omega)
   have HE1 := hide E1
   have HY := hide (l9Year_any z (by omega) w2)
   have HDD := hide hDD
   have hle : D + yd z ≤ 60100 := by omega
   have hly : (z : Int) < (y : Int) := by omega
   clear hDD E1 E2
   generalize yd z = Q2 at *
   have hw1 : wrap64 ((D : Int) - 7305 + (Q2 : Int)) = ((D + Q2 : Nat) : Int) - 7305 := by unfold wrap64; omega
   go_wp2_with (go_at_call 67; refine HY.out.mono ?_; rintro e w1 ⟨rfl, hw⟩; obtain rfl := hw.symm)
   go_round
   case rel => clear hw1; exact ⟨z + 1, D + Q2, by omega, hlt, by go_num, by go_num, by rw [HE1.out, HDD.out]⟩
   case measure => clear hw1; simp [intOf]; omega
  ·obtain rfl : z = y := by omega
   have hly : ¬ (z : Int) < (z : Int) := by omega
   have HDD := hide hDD
   clear hDD
   go_wp2
   go_loopw [10, 12] (fun dv mv wr => ∃ k D : Nat, 1 ≤ k ∧ k ≤ m ∧ mv = .int .i64 (k : Int) ∧ dv = .int .i64 ((D : Int) - 7305) ∧ D = Yy z + Mb z k ∧ Ext w wr) (fun _ mv _ => m - (intOf mv).toNat)
   case atStart => exact ⟨1, D, Nat.le_refl _, m0, rfl, rfl, by rw [Mb_one, HDD.out]; rfl, HE2.out⟩
   case round =>
    clear HDD
    obtain ⟨k, D2, hk1, hk, rfl, rfl, hD2, hE⟩ := hrel
    have HEx := hide hE
    clear hE
    by_cases hlt : k < m
    ·obtain ⟨E1, E2⟩ := Mb_step (y := z) hk1 hlt m1
     have HE1 := hide E1
     have HM := hide (l9Days_any z k hk1 (by omega) wr)
     have HD2 := hide hD2
     have hle : D2 + md z k ≤ 60600 := by
      obtain ⟨-, E3⟩ := Yy_step hz y1
      omega
     have hlm : (k : Int) < (m : Int) := by omega
     clear hD2 E1 E2
     generalize md z k = Q3 at *
     have hw1 : wrap64 ((D2 : Int) - 7305 + (Q3 : Int)) = ((D2 + Q3 : Nat) : Int) - 7305 := by unfold wrap64; omega
     go_wp2_with (go_at_call 66; refine HM.out.mono ?_; rintro e w1 ⟨rfl, hE1⟩; have HEw := hide hE1; clear hE1)
     go_roundw
     case rel => clear hw1; exact ⟨k + 1, D2 + Q3, by omega, hlt, by go_num, by go_num, by rw [HE1.out, HD2.out]; omega, Ext.trans HEx.out HEw.out⟩
     case measure => clear hw1; simp [intOf]; omega
    ·obtain rfl : k = m := by omega
     have hlm : ¬ (k : Int) < (k : Int) := by omega
     obtain ⟨r1, r2, r3, r4⟩ := HE.out D2 hD2
     clear HE hD2
     generalize (D2 : Int) - 7305 = P0 at *
     go_wp2
     go_ret2
     exact ⟨rfl, HEx.out⟩
theorem specTimeOf_no (y m d s : Int) (h : tOk y m d s = false) (w : World) :
  Calls Tryz.prog 40 #[.int .i64 y, .int .i64 m, .int .i64 d, .int .i64 s] w fun e w' => e = .returned (.tuple #[.int .i64 0, .bool false]) ∧ Ext w w' := by
 by_cases hy : 1950 ≤ y ∧ y ≤ 2099
 ·by_cases hm : 1 ≤ m ∧ m ≤ 12
  ·obtain ⟨y', rfl⟩ := Int.eq_ofNat_of_zero_le (show 0 ≤ y by omega)
   obtain ⟨m', rfl⟩ := Int.eq_ofNat_of_zero_le (show 0 ≤ m by omega)
   have HL := hide (l9Days_any y' m' (by omega) (by omega) w)
   have h' : ¬ (1 ≤ d ∧ d ≤ (md y' m' : Int) ∧ 0 ≤ s ∧ s ≤ 86399) := by
    intro k
    unfold tOk at h
    rw [decide_eq_false_iff_not, Int.toNat_natCast, Int.toNat_natCast] at h
    exact h ⟨hy.1, hy.2, hm.1, hm.2, k.1, k.2.1, k.2.2.1, by omega⟩
   clear h
   generalize (md y' m' : Int) = Q at *
   generalize (y' : Int) = Y at *
   generalize (m' : Int) = M at *
   by_cases hd : 1 ≤ d ∧ d ≤ Q
   ·have F := hide (And.intro hy (And.intro hm (And.intro hd (show s < 0 ∨ 86399 < s by omega))))
    clear hd hy hm h'
    go_enter Tryz.func40, Tryz.ntmps40
    go_wp2_with (first | (go_at_call 66; refine HL.out.mono ?_; rintro e w2 ⟨rfl, hE2⟩; have HE2 := hide hE2; clear hE2) | (go_at_call 64; refine (l1In_yes _ _ _ _ (by have := F.out; omega) (by have := F.out; omega)).mono ?_; rintro e w1 ⟨rfl, hw⟩; obtain rfl := hw.symm) | (go_at_call 64; refine (l1In_no _ _ _ _ (by have := F.out; omega)).mono ?_; rintro e w1 ⟨rfl, hw⟩; obtain rfl := hw.symm))
    go_ret2
    exact ⟨rfl, HE2.out⟩
   ·have F := hide (And.intro hy (And.intro hm (show d < 1 ∨ Q < d by omega)))
    clear hd hy hm h'
    go_enter Tryz.func40, Tryz.ntmps40
    go_wp2_with (first | (go_at_call 66; refine HL.out.mono ?_; rintro e w2 ⟨rfl, hE2⟩; have HE2 := hide hE2; clear hE2) | (go_at_call 64; refine (l1In_yes _ _ _ _ (by have := F.out; omega) (by have := F.out; omega)).mono ?_; rintro e w1 ⟨rfl, hw⟩; obtain rfl := hw.symm) | (go_at_call 64; refine (l1In_no _ _ _ _ (by have := F.out; omega)).mono ?_; rintro e w1 ⟨rfl, hw⟩; obtain rfl := hw.symm))
    go_ret2
    exact ⟨rfl, HE2.out⟩
  ·have F := hide (And.intro hy (show m < 1 ∨ 12 < m by omega))
   clear h hy hm
   go_enter Tryz.func40, Tryz.ntmps40
   go_wp2_with (first | (go_at_call 64; refine (l1In_yes _ _ _ _ (by have := F.out; omega) (by have := F.out; omega)).mono ?_; rintro e w1 ⟨rfl, hw⟩; obtain rfl := hw.symm) | (go_at_call 64; refine (l1In_no _ _ _ _ (by have := F.out; omega)).mono ?_; rintro e w1 ⟨rfl, hw⟩; obtain rfl := hw.symm))
   go_ret2
   exact ⟨rfl, Ext.refl _⟩
 ·have F := hide (show y < 1950 ∨ 2099 < y by omega)
  clear h hy
  go_enter Tryz.func40, Tryz.ntmps40
  go_wp2_with (go_at_call 64; refine (l1In_no _ _ _ _ (by have := F.out; omega)).mono ?_; rintro e w1 ⟨rfl, hw⟩; obtain rfl := hw.symm)
  go_ret2
  exact ⟨rfl, Ext.refl _⟩
theorem specTimeOf_any (y m d s : Int) (w : World) :
  Calls Tryz.prog 40 #[.int .i64 y, .int .i64 m, .int .i64 d, .int .i64 s] w fun e w' => e = .returned (.tuple #[.int .i64 (tTm y m d s), .bool (tOk y m d s)]) ∧ Ext w w' := by
 cases h : tOk y m d s
 ·have e : tTm y m d s = 0 := by unfold tTm; rw [h]; rfl
  rw [e]
  exact specTimeOf_no y m d s h w
 ·obtain ⟨y', m', d', s', rfl, rfl, rfl, rfl, hD, hs⟩ := tOk_nat h
  rw [(tOk_of hD hs).2]
  exact specTimeOf_yes y' m' d' s' hD hs w
theorem results_tmp4 {fn : Func} {t u v x : Tmp} (h : fn.results = #[.tmp t, .tmp u, .tmp v, .tmp x]) (tmps : Array Value) (P : Program) (w : World) :
  (results fn tmps).run P w = .ok (.tuple #[tmps.getD t undef, tmps.getD u undef, tmps.getD v undef, tmps.getD x undef]) w := by
 simp [results, h]
def GivesDay (t : Int) (w : World) (e : Ending) (w' : World) : Prop := ∃ y m d s : Nat, e = .returned (.tuple #[.int .i64 (y : Int), .int .i64 (m : Int), .int .i64 (d : Int), .int .i64 (s : Int)]) ∧ IsDay t y m d s ∧ Ext w w'
def inT (t : Int) : Prop := -631152000 ≤ t ∧ t ≤ 4102444799
instance (t : Int) : Decidable (inT t) := inferInstanceAs (Decidable (_ ∧ _))
theorem isTime_any (t : Int) (w : World) : Calls Tryz.prog 119 #[.int .i64 t] w fun e w' => e = .returned (.bool (decide (inT t))) ∧ w' = w := by
 by_cases h1 : -631152000 ≤ t
 ·by_cases h2 : t ≤ 4102444799
  ·rw [decide_eq_true (p := inT t) ⟨h1, h2⟩]
   go_enter Tryz.func119, Tryz.ntmps119
   go_wp2
   go_ret
   exact ⟨ret_bool (by simp [h1, h2]), rfl⟩
  ·rw [decide_eq_false (fun x : inT t => h2 x.2)]
   go_enter Tryz.func119, Tryz.ntmps119
   go_wp2
   go_ret
   exact ⟨ret_bool (by simp [h1, h2]), rfl⟩
 ·rw [decide_eq_false (fun x : inT t => h1 x.1)]
  go_enter Tryz.func119, Tryz.ntmps119
  go_wp2
  go_ret
  exact ⟨ret_bool (by simp [h1]), rfl⟩
theorem l9Ok_any (t : Int) (w : World) : Calls Tryz.prog 69 #[.int .i64 t] w fun e w' => e = .returned (.bool (decide (inT t))) ∧ w' = w := by
 by_cases h : inT t
 ·rw [decide_eq_true h]
  have F := hide h
  unfold inT at F
  clear h
  go_enter Tryz.func69, Tryz.ntmps69
  go_wp2_with (go_at_call 64; refine (l1In_yes _ _ _ _ (by have := F.out; omega) (by have := F.out; omega)).mono ?_; rintro e w1 ⟨rfl, hw⟩; obtain rfl := hw.symm)
  go_ret
  exact ⟨rfl, rfl⟩
 ·rw [decide_eq_false h]
  have F := hide h
  unfold inT at F
  clear h
  go_enter Tryz.func69, Tryz.ntmps69
  go_wp2_with (go_at_call 64; refine (l1In_no _ _ _ _ (by have := F.out; omega)).mono ?_; rintro e w1 ⟨rfl, hw⟩; obtain rfl := hw.symm)
  go_ret
  exact ⟨rfl, rfl⟩
theorem day_parts {t : Int} (h : inT t) : ∃ T D s : Nat, t = -631152000 + ((D * 86400 + s : Nat) : Int) ∧ D ≤ 54786 ∧ s < 86400 ∧ wrap64 (t + 631152000) = (T : Int) ∧ IntKind.i64.wrap (t + 631152000) = (T : Int) ∧ Int.tdiv (T : Int) 86400 = (D : Int) ∧ Int.tmod (T : Int) 86400 = (s : Int) ∧ wrap64 (D : Int) = D ∧ IntKind.i64.wrap (D : Int) = D ∧ wrap64 (s : Int) = s ∧ IntKind.i64.wrap (s : Int) = s := by
 obtain ⟨h1, h2⟩ := h
 obtain ⟨T, hT⟩ := Int.eq_ofNat_of_zero_le (show 0 ≤ t + 631152000 by omega)
 refine ⟨T, T / 86400, T % 86400, by omega, by omega, by omega, by unfold wrap64; omega, by rw [IntKind.wrap_i64]; omega, by rw [Int.tdiv_eq_ediv_of_nonneg (by omega)]; omega, by rw [Int.tmod_eq_emod_of_nonneg (by omega)]; omega, ?_, ?_, ?_, ?_⟩
 all_goals
  have a : T / 86400 ≤ 60000 := by omega
  have b : T % 86400 < 86400 := by omega
  clear hT h1 h2
  generalize T / 86400 = A at *
  generalize T % 86400 = B at *
 ·unfold wrap64; omega
 ·rw [IntKind.wrap_i64]; omega
 ·unfold wrap64; omega
 ·rw [IntKind.wrap_i64]; omega
theorem yy_next {z k D : Nat} (hz : 1950 ≤ z) (hD : D ≤ 54786) (h : k + Yy z = D) (hk : yd z ≤ k) (hz2 : z ≤ 2099) : z + 1 ≤ 2099 ∧ k - yd z + Yy (z + 1) = D := by
 obtain ⟨e, -⟩ := Yy_step hz hz2
 have h2 : Yy (z + 1) ≤ 54786 := by omega
 have : z + 1 - 1950 < 150 := Yd_lt (k := z + 1 - 1950) h2
 omega
theorem mb_next {y m k r : Nat} (h1 : 1 ≤ m) (h2 : m ≤ 12) (hr : r < yd y) (h : k + Mb y m = r) (hk : md y m ≤ k) : m + 1 ≤ 12 ∧ k - md y m + Mb y (m + 1) = r := by
 have e := Mb_succ y m h1 h2
 have : m ≠ 12 := fun c => by
  subst c
  have := Mb_end y
  have e2 : Mb y 13 = Mb y 12 + md y 12 := e
  omega
 omega
theorem isDay_at {t : Int} {D s z m r q : Nat} (ht : t = -631152000 + ((D * 86400 + s : Nat) : Int)) (hD : D ≤ 54786) (hs : s < 86400) (hz : 1950 ≤ z) (hq : q + Yy z = D) (hr : r + Mb z m = q) (h1 : 1 ≤ m) (h2 : m ≤ 12) (hk : r < md z m) : IsDay t z m (r + 1) s := by
 obtain ⟨k, rfl⟩ : ∃ k, z = 1950 + k := ⟨z - 1950, by omega⟩
 have e : Yy (1950 + k) = Yd k := by unfold Yy; rw [Nat.add_sub_cancel_left]
 rw [e] at hq
 exact isDay_of ht hD hs (by omega) h1 h2 hk
set_option maxHeartbeats 1600000 in
set_option maxRecDepth 100000 in
theorem implDayOf_yes (t : Int) (h : inT t) (w : World) (hT : MTab w) : Calls Tryz.prog 154 #[.int .i64 t] w fun e w' => GivesDay t w e w' := by
 obtain ⟨T, D, s, ht, hD, hs, e1, e2, e3, e4, D1, D2, S1, S2⟩ := day_parts h
 have HO := hide (isTime_any t w)
 rw [decide_eq_true h] at HO
 have Ht := hide (And.intro ht (And.intro hD hs))
 have HT := hide hT
 clear h ht hD hs hT
 go_enter Tryz.func154, Tryz.ntmps154
 go_wp2_with (go_at_call 119; refine HO.out.mono ?_; rintro e w1 ⟨rfl, hw⟩; obtain rfl := hw.symm)
 clear e1 e2 e3 e4 D1 D2 S1 S2 HO
 go_loop [6, 8] (fun dv yv => ∃ z k : Nat, 1950 ≤ z ∧ z ≤ 2099 ∧ yv = .int .i64 (z : Int) ∧ dv = .int .i64 (k : Int) ∧ k + Yy z = D) (fun dv _ => (intOf dv).toNat)
 case atStart => exact ⟨1950, D, Nat.le_refl _, by omega, rfl, rfl, by have e : Yy 1950 = 0 := rfl; rw [e, Nat.add_zero]⟩
 case round =>
  obtain ⟨z, k, hz, hz2, rfl, rfl, hk⟩ := hrel
  have HY := hide (daysOfYear_any z (by omega) w)
  have hD := Ht.out.2.1
  by_cases hle : yd z ≤ k
  ·have hN := yy_next hz hD hk hle hz2
   have hyl : ((yd z : Nat) : Int) ≤ (k : Int) := by omega
   have hy0 := (yd_le z).1
   generalize yd z = Q at *
   obtain ⟨r, hr⟩ : ∃ r, r = k - Q := ⟨_, rfl⟩
   have hw1 : wrap64 ((k : Int) - (Q : Int)) = (r : Int) := by unfold wrap64; omega
   have hw2 : IntKind.i64.wrap ((k : Int) - (Q : Int)) = (r : Int) := by rw [IntKind.wrap_i64]; omega
   rw [← hr] at hN
   have HN := hide hN
   have Hlt := hide (show r < k by omega)
   clear hN hk hle hr hy0 hD
   go_wp2_with (go_at_call 158; refine HY.out.mono ?_; rintro e w1 ⟨rfl, hw⟩; obtain rfl := hw.symm)
   go_round
   case rel => clear hw1 hw2; exact ⟨z + 1, r, by omega, HN.out.1, by go_num, rfl, HN.out.2⟩
   case measure => clear hw1 hw2; have := Hlt.out; simp [intOf]; omega
  ·have hyl : ¬ ((yd z : Nat) : Int) ≤ (k : Int) := by omega
   have Hk := hide hk
   have Hq := hide (show k < yd z by omega)
   have hQ := (yd_le z).2
   clear hk hle
   generalize hQQ : yd z = Q at *
   have HQ := hide hQQ
   clear hQQ
   go_wp2_with (go_at_call 158; refine HY.out.mono ?_; rintro e w1 ⟨rfl, hw⟩; obtain rfl := hw.symm)
   have hb : decide (Q ≤ k) = false := decide_eq_false (by have := Hq.out; omega)
   simp only [hb]
   clear HY hyl hD hb
   go_loop [6, 9] (fun dv mv => ∃ m r : Nat, 1 ≤ m ∧ m ≤ 12 ∧ mv = .int .i64 (m : Int) ∧ dv = .int .i64 (r : Int) ∧ r + Mb z m = k) (fun dv _ => (intOf dv).toNat)
   case atStart => exact ⟨1, k, Nat.le_refl _, by omega, rfl, rfl, by rw [Mb_one]; rfl⟩
   case round =>
    obtain ⟨m, r, hm1, hm2, rfl, rfl, hr⟩ := hrel
    have HM := hide (daysOfMonth_any z m (by omega) hm1 hm2 w HT.out)
    by_cases hle : md z m ≤ r
    ·have hN := mb_next hm1 hm2 (by have := HQ.out; have := Hq.out; omega) hr hle
     have hyl : ((md z m : Nat) : Int) ≤ (r : Int) := by omega
     have hy0 : 1 ≤ md z m := by
      rcases month_cases hm1 hm2 with rfl | rfl | rfl | rfl | rfl | rfl | rfl | rfl | rfl | rfl | rfl | rfl
      all_goals (unfold md; split <;> simp [mdt])
     generalize md z m = P at *
     obtain ⟨q, hq⟩ : ∃ q, q = r - P := ⟨_, rfl⟩
     have hw1 : wrap64 ((r : Int) - (P : Int)) = (q : Int) := by have := Hq.out; unfold wrap64; omega
     have hw2 : IntKind.i64.wrap ((r : Int) - (P : Int)) = (q : Int) := by have := Hq.out; rw [IntKind.wrap_i64]; omega
     rw [← hq] at hN
     have HN := hide hN
     have Hlt := hide (show q < r by omega)
     clear hN hr hle hq hy0
     go_wp2_with (go_at_call 159; refine HM.out.mono ?_; rintro e w1 ⟨rfl, hw⟩; obtain rfl := hw.symm)
     go_round
     case rel => clear hw1 hw2; exact ⟨m + 1, q, by omega, HN.out.1, by go_num, rfl, HN.out.2⟩
     case measure => clear hw1 hw2; have := Hlt.out; simp [intOf]; omega
    ·have hyl : ¬ ((md z m : Nat) : Int) ≤ (r : Int) := by omega
     have HI := hide (isDay_at Ht.out.1 Ht.out.2.1 Ht.out.2.2 hz Hk.out hr hm1 hm2 (by omega))
     have hr3 : r ≤ 400 := by have := md_le z m; omega
     have hw1 : wrap64 ((r : Int) + 1) = ((r + 1 : Nat) : Int) := by unfold wrap64; omega
     generalize md z m = P at *
     generalize r + 1 = r1 at *
     clear hr hle hr3
     go_wp2_with (go_at_call 159; refine HM.out.mono ?_; rintro e w1 ⟨rfl, hw⟩; obtain rfl := hw.symm)
     (try simp only [Exit.inBlock, Exit.then]); refine bodyPost_ret (results_tmp4 rfl _ _ _) rfl ?_
     exact ⟨z, m, r1, s, by rw [← hw1]; rfl, HI.out, Ext.refl _⟩
theorem implDayOf_no (t : Int) (h : ¬ inT t) (w : World) : Calls Tryz.prog 154 #[.int .i64 t] w fun e w' => e = .returned (.tuple #[.int .i64 0, .int .i64 0, .int .i64 0, .int .i64 0]) ∧ w' = w := by
 have HO := hide (isTime_any t w)
 rw [decide_eq_false h] at HO
 clear h
 go_enter Tryz.func154, Tryz.ntmps154
 go_wp2_with (go_at_call 119; refine HO.out.mono ?_; rintro e w1 ⟨rfl, hw⟩; obtain rfl := hw.symm)
 (try simp only [Exit.inBlock, Exit.then]); refine bodyPost_ret (results_tmp4 rfl _ _ _) rfl ?_
 exact ⟨rfl, rfl⟩
set_option maxHeartbeats 1600000 in
set_option maxRecDepth 100000 in
theorem specDayOf_yes (t : Int) (h : inT t) (w : World) : Calls Tryz.prog 131 #[.int .i64 t] w fun e w' => GivesDay t w e w' := by
 obtain ⟨T, D, s, ht, hD, hs, e1, e2, e3, e4, D1, D2, S1, S2⟩ := day_parts h
 have HO := hide (l9Ok_any t w)
 rw [decide_eq_true h] at HO
 have Ht := hide (And.intro ht (And.intro hD hs))
 clear h ht hD hs
 go_enter Tryz.func131, Tryz.ntmps131
 go_wp2_with (go_at_call 69; refine HO.out.mono ?_; rintro e w1 ⟨rfl, hw⟩; obtain rfl := hw.symm)
 clear e1 e2 e3 e4 D1 D2 S1 S2 HO
 go_loop [6, 8] (fun dv yv => ∃ z k : Nat, 1950 ≤ z ∧ z ≤ 2099 ∧ yv = .int .i64 (z : Int) ∧ dv = .int .i64 (k : Int) ∧ k + Yy z = D) (fun dv _ => (intOf dv).toNat)
 case atStart => exact ⟨1950, D, Nat.le_refl _, by omega, rfl, rfl, by have e : Yy 1950 = 0 := rfl; rw [e, Nat.add_zero]⟩
 case round =>
  obtain ⟨z, k, hz, hz2, rfl, rfl, hk⟩ := hrel
  have HY := hide (l9Year_any z (by omega) w)
  have hD := Ht.out.2.1
  by_cases hle : yd z ≤ k
  ·have hN := yy_next hz hD hk hle hz2
   have hyl : ((yd z : Nat) : Int) ≤ (k : Int) := by omega
   have hy0 := (yd_le z).1
   generalize yd z = Q at *
   obtain ⟨r, hr⟩ : ∃ r, r = k - Q := ⟨_, rfl⟩
   have hw1 : wrap64 ((k : Int) - (Q : Int)) = (r : Int) := by unfold wrap64; omega
   have hw2 : IntKind.i64.wrap ((k : Int) - (Q : Int)) = (r : Int) := by rw [IntKind.wrap_i64]; omega
   rw [← hr] at hN
   have HN := hide hN
   have Hlt := hide (show r < k by omega)
   clear hN hk hle hr hy0 hD
   go_wp2_with (go_at_call 67; refine HY.out.mono ?_; rintro e w1 ⟨rfl, hw⟩; obtain rfl := hw.symm)
   go_round
   case rel => clear hw1 hw2; exact ⟨z + 1, r, by omega, HN.out.1, by go_num, rfl, HN.out.2⟩
   case measure => clear hw1 hw2; have := Hlt.out; simp [intOf]; omega
  ·have hyl : ¬ ((yd z : Nat) : Int) ≤ (k : Int) := by omega
   have Hk := hide hk
   have Hq := hide (show k < yd z by omega)
   have hQ := (yd_le z).2
   clear hk hle
   generalize hQQ : yd z = Q at *
   have HQ := hide hQQ
   clear hQQ
   go_wp2_with (go_at_call 67; refine HY.out.mono ?_; rintro e w1 ⟨rfl, hw⟩; obtain rfl := hw.symm)
   have hb : decide (Q ≤ k) = false := decide_eq_false (by have := Hq.out; omega)
   simp only [hb]
   clear HY hyl hD hb
   go_loopw [6, 9] (fun dv mv wr => ∃ m r : Nat, 1 ≤ m ∧ m ≤ 12 ∧ mv = .int .i64 (m : Int) ∧ dv = .int .i64 (r : Int) ∧ r + Mb z m = k ∧ Ext w wr) (fun dv _ _ => (intOf dv).toNat)
   case atStart => exact ⟨1, k, Nat.le_refl _, by omega, rfl, rfl, by rw [Mb_one]; rfl, Ext.refl _⟩
   case round =>
    obtain ⟨m, r, hm1, hm2, rfl, rfl, hr, hE⟩ := hrel
    have HEx := hide hE
    clear hE
    have HM : Hid (∀ W, Calls Tryz.prog 66 #[.int .i64 (z : Int), .int .i64 (m : Int)] W fun e w' => e = .returned (.int .i64 (md z m : Int)) ∧ Ext W w') := fun W => l9Days_any z m hm1 hm2 W
    by_cases hle : md z m ≤ r
    ·have hN := mb_next hm1 hm2 (by have := HQ.out; have := Hq.out; omega) hr hle
     have hyl : ((md z m : Nat) : Int) ≤ (r : Int) := by omega
     have hy0 : 1 ≤ md z m := by
      rcases month_cases hm1 hm2 with rfl | rfl | rfl | rfl | rfl | rfl | rfl | rfl | rfl | rfl | rfl | rfl
      all_goals (unfold md; split <;> simp [mdt])
     generalize md z m = P at *
     obtain ⟨q, hq⟩ : ∃ q, q = r - P := ⟨_, rfl⟩
     have hw1 : wrap64 ((r : Int) - (P : Int)) = (q : Int) := by have := Hq.out; unfold wrap64; omega
     have hw2 : IntKind.i64.wrap ((r : Int) - (P : Int)) = (q : Int) := by have := Hq.out; rw [IntKind.wrap_i64]; omega
     rw [← hq] at hN
     have HN := hide hN
     have Hlt := hide (show q < r by omega)
     clear hN hr hle hq hy0
     go_wp2_with (go_at_call 66; refine (HM.out _).mono ?_; rintro e w1 ⟨rfl, hE1⟩; replace HEx := hide (Ext.trans HEx.out hE1); clear hE1)
     go_roundw
     case rel => clear hw1 hw2; exact ⟨m + 1, q, by omega, HN.out.1, by go_num, rfl, HN.out.2, HEx.out⟩
     case measure => clear hw1 hw2; have := Hlt.out; simp [intOf]; omega
    ·have hyl : ¬ ((md z m : Nat) : Int) ≤ (r : Int) := by omega
     have HI := hide (isDay_at Ht.out.1 Ht.out.2.1 Ht.out.2.2 hz Hk.out hr hm1 hm2 (by omega))
     have hr3 : r ≤ 400 := by have := md_le z m; omega
     have hw1 : wrap64 ((r : Int) + 1) = ((r + 1 : Nat) : Int) := by unfold wrap64; omega
     generalize md z m = P at *
     generalize r + 1 = r1 at *
     clear hr hle hr3
     go_wp2_with (go_at_call 66; refine (HM.out _).mono ?_; rintro e w1 ⟨rfl, hE1⟩; replace HEx := hide (Ext.trans HEx.out hE1); clear hE1)
     (try simp only [Exit.inBlock, Exit.then]); refine bodyPost_ret (results_tmp4 rfl _ _ _) rfl ?_
     exact ⟨z, m, r1, s, by rw [← hw1]; rfl, HI.out, HEx.out⟩
theorem specDayOf_no (t : Int) (h : ¬ inT t) (w : World) : Calls Tryz.prog 131 #[.int .i64 t] w fun e w' => e = .returned (.tuple #[.int .i64 0, .int .i64 0, .int .i64 0, .int .i64 0]) ∧ w' = w := by
 have HO := hide (l9Ok_any t w)
 rw [decide_eq_false h] at HO
 clear h
 go_enter Tryz.func131, Tryz.ntmps131
 go_wp2_with (go_at_call 69; refine HO.out.mono ?_; rintro e w1 ⟨rfl, hw⟩; obtain rfl := hw.symm)
 (try simp only [Exit.inBlock, Exit.then]); refine bodyPost_ret (results_tmp4 rfl _ _ _) rfl ?_
 exact ⟨rfl, rfl⟩
def dgtA (b : UInt8) : Prop := 48 ≤ b.toNat ∧ b.toNat ≤ 57
instance (b : UInt8) : Decidable (dgtA b) := inferInstanceAs (Decidable (_ ∧ _))
@[irreducible] def dvA (b : UInt8) : Nat := b.toNat - 48
theorem dvA_eq (b : UInt8) : dvA b = b.toNat - 48 := by unfold dvA; rfl
@[irreducible] def stp (acc d : Nat) : Nat := 10 * acc + d
theorem stp_eq (acc d : Nat) : stp acc d = 10 * acc + d := by unfold stp; rfl
def vlF (acc : Nat) : List UInt8 → Nat
 | [] => acc
 | b :: r => vlF (stp acc (dvA b)) r
theorem vlF_nil (acc : Nat) : vlF acc [] = acc := rfl
theorem vlF_cons (acc : Nat) (b : UInt8) (r : List UInt8) : vlF acc (b :: r) = vlF (stp acc (dvA b)) r := rfl
def vl (p : List UInt8) : Nat := vlF 0 p
theorem vl_eq (p : List UInt8) : vl p = vlF 0 p := rfl
theorem byte_of {b : UInt8} {n : Nat} (h : b.toNat = n) : UInt8.ofNat n = b := by
 subst h
 simp
theorem dec1 {n : Nat} (h : n < 10) : Lib.decDigits n = [UInt8.ofNat (48 + n)] := by
 unfold Lib.decDigits
 rw [dif_pos h]
theorem dec2 {n : Nat} (h : ¬ n < 10) : Lib.decDigits n = Lib.decDigits (n / 10) ++ [UInt8.ofNat (48 + n % 10)] := by
 conv => lhs; unfold Lib.decDigits
 rw [dif_neg h]
theorem ofNat_toNat {n : Nat} (h : n < 256) : (UInt8.ofNat n).toNat = n := by
 simp [UInt8.toNat_ofNat']; omega
theorem decFrom_cons (acc : Nat) (b : UInt8) (r : List UInt8) : Lib.decFrom acc (b :: r) = match Lib.digitVal b with | some d => Lib.decFrom (acc * 10 + d) r | none => none := by
 rw [Lib.decFrom]
 cases Lib.digitVal b <;> rfl
theorem decFrom_vl (p : List UInt8) : ∀ acc : Nat, (∀ b ∈ p, dgtA b) → Lib.decFrom acc p = some (vlF acc p) := by
 induction p with
 | nil => intro acc _; rw [vlF_nil, Lib.decFrom]
 | cons b r ih =>
  intro acc h
  have hb := h b (by simp)
  unfold dgtA at hb
  have e : Lib.digitVal b = some (b.toNat - 48) := by unfold Lib.digitVal; rw [if_pos hb]
  rw [decFrom_cons, e, vlF_cons]
  show Lib.decFrom (acc * 10 + (b.toNat - 48)) r = _
  rw [ih _ (fun x hx => h x (by simp [hx])), stp_eq, dvA_eq, Nat.mul_comm acc 10]
def rdIa (p : List UInt8) : Int := (Lib.atoi p).getD 0
def two (n : Nat) : List UInt8 := [UInt8.ofNat (48 + n / 10 % 10), UInt8.ofNat (48 + n % 10)]
def restL (m d s : Nat) : List UInt8 := two m ++ (two d ++ (two (s / 3600) ++ (two (s / 60 % 60) ++ (two (s % 60) ++ [90]))))
def longL (y m d s : Nat) : List UInt8 := two (y / 100) ++ (two y ++ restL m d s)
def shortL (y m d s : Nat) : List UInt8 := two y ++ restL m d s
theorem longL_len (y m d s : Nat) : (longL y m d s).length = 15 := rfl
theorem dec_two {n p : Nat} (hn : 1 ≤ n) (hp : p < 100) : Lib.decDigits (100 * n + p) = Lib.decDigits n ++ two p := by
 have e1 : (100 * n + p) / 10 / 10 = n := by omega
 have e2 : (100 * n + p) / 10 % 10 = p / 10 % 10 := by omega
 have e3 : (100 * n + p) % 10 = p % 10 := by omega
 rw [dec2 (by omega), dec2 (n := (100 * n + p) / 10) (by omega), e1, e2, e3, List.append_assoc]
 rfl
theorem two_mod (n : Nat) : two (n % 100) = two n := by
 unfold two
 rw [show n % 100 / 10 % 10 = n / 10 % 10 by omega, show n % 100 % 10 = n % 10 by omega]
theorem dec_year {y : Nat} (h0 : 1000 ≤ y) (h1 : y ≤ 9999) : Lib.decDigits y = two (y / 100) ++ two y := by
 have e : y = 100 * (y / 100) + y % 100 := by omega
 conv => lhs; rw [e]
 rw [dec_two (by omega) (by omega), two_mod, dec2 (n := y / 100) (by omega), dec1 (by omega)]
 unfold two
 rw [show y / 100 / 10 % 10 = y / 100 / 10 by omega]
 rfl
def numT (y m d h mi s : Nat) : Nat := 100 * (100 * (100 * (100 * (100 * y + m) + d) + h) + mi) + s
theorem dec_num {y m d s : Nat} (hy : 1950 ≤ y) (hy1 : y ≤ 2099) (hm : m ≤ 12) (hd : d ≤ 31) (hs : s < 86400) : Lib.decDigits (numT y m d (s / 3600) (s % 3600 / 60) (s % 60)) ++ [90] = longL y m d s := by
 unfold numT
 rw [dec_two (by omega) (by omega), dec_two (by omega) (by omega), dec_two (by omega) (by omega), dec_two (by omega) (by omega), dec_two (by omega) (by omega), dec_year (by omega) (by omega), show s % 3600 / 60 = s / 60 % 60 by omega]
 unfold longL restL
 simp only [List.append_assoc]
def longB (y m d s : Nat) : ByteArray := ⟨(longL y m d s).toArray⟩
def shortB (y m d s : Nat) : ByteArray := ⟨(shortL y m d s).toArray⟩
def v2 (a b : UInt8) : Nat := 10 * (a.toNat - 48) + (b.toNat - 48)
theorem two_v2 {a b : UInt8} (ha : dgtA a) (hb : dgtA b) : two (v2 a b) = [a, b] := by
 obtain ⟨a0, a1⟩ := ha
 obtain ⟨b0, b1⟩ := hb
 unfold two v2
 rw [byte_of (b := a) (by omega), byte_of (b := b) (by omega)]
theorem v2_two {n : Nat} (h : n < 100) {a b : UInt8} (e : two n = [a, b]) : dgtA a ∧ dgtA b ∧ v2 a b = n := by
 unfold two at e
 simp only [List.cons.injEq, and_true] at e
 obtain ⟨rfl, rfl⟩ := e
 have e1 := ofNat_toNat (n := 48 + n / 10 % 10) (by omega)
 have e2 := ofNat_toNat (n := 48 + n % 10) (by omega)
 unfold dgtA v2
 omega
theorem atoi_digits {p : List UInt8} (h1 : ∀ b ∈ p, dgtA b) (h2 : 1 ≤ p.length) : Lib.atoi p = some (vl p : Int) := by
 match p, h2 with
 | b :: r, _ =>
  obtain ⟨b0, b1⟩ := h1 b (by simp)
  have n1 : (b == 45) = false := by
   apply Bool.eq_false_iff.2; intro e
   have := congrArg UInt8.toNat (eq_of_beq e)
   have h45 : (45 : UInt8).toNat = 45 := rfl
   omega
  have n2 : (b == 43) = false := by
   apply Bool.eq_false_iff.2; intro e
   have := congrArg UInt8.toNat (eq_of_beq e)
   have h43 : (43 : UInt8).toNat = 43 := rfl
   omega
  unfold Lib.atoi
  simp only [n1, n2]
  unfold Lib.decNat
  simp only [List.isEmpty_cons]
  simp [decFrom_vl (b :: r) 0 h1, vl_eq]
theorem rd2 {a b : UInt8} (ha : dgtA a) (hb : dgtA b) : rdIa [a, b] = (v2 a b : Int) := by
 unfold rdIa
 rw [atoi_digits (by simp [ha, hb]) (by simp)]
 show ((vl [a, b] : Nat) : Int) = _
 simp only [vl_eq, vlF_cons, vlF_nil, stp_eq, dvA_eq, v2]
 omega
theorem rd4 {a b c d : UInt8} (ha : dgtA a) (hb : dgtA b) (hc : dgtA c) (hd : dgtA d) : rdIa [a, b, c, d] = ((100 * v2 a b + v2 c d : Nat) : Int) := by
 unfold rdIa
 rw [atoi_digits (by simp [ha, hb, hc, hd]) (by simp)]
 show ((vl [a, b, c, d] : Nat) : Int) = _
 simp only [vl_eq, vlF_cons, vlF_nil, stp_eq, dvA_eq, v2]
 omega
theorem decFrom_lt (l : List UInt8) : ∀ acc n, Lib.decFrom acc l = some n → n + 1 ≤ (acc + 1) * 10 ^ l.length := by
 induction l with
 | nil => intro acc n h; rw [Lib.decFrom] at h; simp at h; simp [h]
 | cons b r ih =>
  intro acc n h
  rw [decFrom_cons] at h
  cases hd : Lib.digitVal b with
  | none => rw [hd] at h; cases h
  | some k =>
   rw [hd] at h
   have h1 := ih _ _ h
   have hk : k ≤ 9 := by
    unfold Lib.digitVal at hd
    split at hd
    ·simp at hd; omega
    ·cases hd
   rw [List.length_cons, Nat.pow_succ, ← Nat.mul_assoc, Nat.mul_right_comm]
   exact Nat.le_trans h1 (Nat.mul_le_mul_right _ (by omega))
theorem decNat_lt {l : List UInt8} {n : Nat} (h : Lib.decNat l = some n) : n + 1 ≤ 10 ^ l.length := by
 unfold Lib.decNat at h
 split at h
 ·cases h
 ·have := decFrom_lt l 0 n h; omega
theorem rdI_lt {l : List UInt8} (hl : l.length ≤ 4) : -10000 < rdIa l ∧ rdIa l < 10000 := by
 have key : ∀ k : List UInt8, k.length ≤ 4 → ∀ n, Lib.decNat k = some n → n < 10000 := fun k hk n h => by
  have h1 := decNat_lt h
  have h2 : 10 ^ k.length ≤ 10 ^ 4 := Nat.pow_le_pow_right (by omega) hk
  omega
 unfold rdIa
 match l with
 | [] => simp [Lib.atoi]
 | b :: r =>
  have hr : r.length ≤ 4 := by simp at hl; omega
  have e : Lib.atoi (b :: r) = if b == 45 then (Lib.decNat r).map fun (m : Nat) => -(m : Int) else if b == 43 then (Lib.decNat r).map fun (m : Nat) => (m : Int) else (Lib.decNat (b :: r)).map fun (m : Nat) => (m : Int) := rfl
  rw [e]
  clear e
  split
  ·cases h : Lib.decNat r with
   | none => simp
   | some n => have := key r hr n h; simp; omega
  ·split
   ·cases h : Lib.decNat r with
    | none => simp
    | some n => have := key r hr n h; simp; omega
   ·cases h : Lib.decNat (b :: r) with
    | none => simp
    | some n => have := key _ hl n h; simp; omega
def allD (l : List UInt8) : Bool := l.all fun b => decide (dgtA b)
def rtY (b0 b1 b2 b3 : UInt8) : Nat := 100 * v2 b0 b1 + v2 b2 b3
def rtS (b8 b9 b10 b11 b12 b13 : UInt8) : Nat := 3600 * v2 b8 b9 + 60 * v2 b10 b11 + v2 b12 b13
def rtOk (b0 b1 b2 b3 b4 b5 b6 b7 b8 b9 b10 b11 b12 b13 b14 : UInt8) : Bool :=
 decide (b14 = 90) && (allD [b0, b1, b2, b3, b4, b5, b6, b7, b8, b9, b10, b11, b12, b13] && (decide (v2 b8 b9 ≤ 23 ∧ v2 b10 b11 ≤ 59 ∧ v2 b12 b13 ≤ 59) && tOk (rtY b0 b1 b2 b3) (v2 b4 b5) (v2 b6 b7) (rtS b8 b9 b10 b11 b12 b13)))
def rtV (b0 b1 b2 b3 b4 b5 b6 b7 b8 b9 b10 b11 b12 b13 b14 : UInt8) : Int :=
 if rtOk b0 b1 b2 b3 b4 b5 b6 b7 b8 b9 b10 b11 b12 b13 b14 then tTm (rtY b0 b1 b2 b3) (v2 b4 b5) (v2 b6 b7) (rtS b8 b9 b10 b11 b12 b13) else 0
theorem allD_iff {b0 b1 b2 b3 b4 b5 b6 b7 b8 b9 b10 b11 b12 b13 : UInt8} : allD [b0, b1, b2, b3, b4, b5, b6, b7, b8, b9, b10, b11, b12, b13] = true ↔ dgtA b0 ∧ dgtA b1 ∧ dgtA b2 ∧ dgtA b3 ∧ dgtA b4 ∧ dgtA b5 ∧ dgtA b6 ∧ dgtA b7 ∧ dgtA b8 ∧ dgtA b9 ∧ dgtA b10 ∧ dgtA b11 ∧ dgtA b12 ∧ dgtA b13 := by
 simp [allD]
structure Pts (b0 b1 b2 b3 b4 b5 b6 b7 b8 b9 b10 b11 b12 b13 : UInt8) (y m d s : Int) : Prop where
 y : y = rdIa [b0, b1, b2, b3]
 m : m = rdIa [b4, b5]
 d : d = rdIa [b6, b7]
 s : s = rdIa [b8, b9] * 3600 + rdIa [b10, b11] * 60 + rdIa [b12, b13]
theorem list4 {a b : UInt8} {l : List UInt8} {x y : UInt8} {r : List UInt8} (h : [a, b] ++ l = x :: y :: r) : [a, b] = [x, y] ∧ l = r := by
 simp only [List.cons_append, List.nil_append, List.cons.injEq] at h
 obtain ⟨rfl, rfl, rfl⟩ := h
 exact ⟨rfl, rfl⟩
theorem two_cons {n : Nat} {l : List UInt8} {x y : UInt8} {r : List UInt8} (h : two n ++ l = x :: y :: r) : two n = [x, y] ∧ l = r := list4 h
theorem read_long {b0 b1 b2 b3 b4 b5 b6 b7 b8 b9 b10 b11 b12 b13 b14 : UInt8} {y m d s : Nat} (h : DayOk y m d) (hs : s < 86400)
  (e : longL y m d s = [b0, b1, b2, b3, b4, b5, b6, b7, b8, b9, b10, b11, b12, b13, b14]) :
  rtOk b0 b1 b2 b3 b4 b5 b6 b7 b8 b9 b10 b11 b12 b13 b14 = true ∧ rtV b0 b1 b2 b3 b4 b5 b6 b7 b8 b9 b10 b11 b12 b13 b14 = tmV y m d s := by
 have hy0 := h.y0
 have hy1 := h.y1
 have hm := h.m1
 have hd := Nat.le_trans h.d1 (md_le y m)
 unfold longL restL at e
 obtain ⟨e0, e⟩ := two_cons e
 obtain ⟨e1, e⟩ := two_cons e
 obtain ⟨e2, e⟩ := two_cons e
 obtain ⟨e3, e⟩ := two_cons e
 obtain ⟨e4, e⟩ := two_cons e
 obtain ⟨e5, e⟩ := two_cons e
 obtain ⟨e6, e⟩ := two_cons e
 simp only [List.cons.injEq, and_true] at e
 rw [← two_mod y] at e1
 obtain ⟨d0, d1, x0⟩ := v2_two (by omega) e0
 obtain ⟨d2, d3, x1⟩ := v2_two (by omega) e1
 obtain ⟨d4, d5, x2⟩ := v2_two (by omega) e2
 obtain ⟨d6, d7, x3⟩ := v2_two (by omega) e3
 obtain ⟨d8, d9, x4⟩ := v2_two (by omega) e4
 obtain ⟨d10, d11, x5⟩ := v2_two (by omega) e5
 obtain ⟨d12, d13, x6⟩ := v2_two (by omega) e6
 have hY : rtY b0 b1 b2 b3 = y := by unfold rtY; rw [x0, x1]; omega
 have hS : rtS b8 b9 b10 b11 b12 b13 = s := by unfold rtS; rw [x4, x5, x6]; omega
 obtain ⟨k1, k2⟩ := tOk_of h hs
 have hok : rtOk b0 b1 b2 b3 b4 b5 b6 b7 b8 b9 b10 b11 b12 b13 b14 = true := by
  unfold rtOk
  rw [hY, hS, x2, x3, x4, x5, x6, k1, allD_iff.2 ⟨d0, d1, d2, d3, d4, d5, d6, d7, d8, d9, d10, d11, d12, d13⟩, decide_eq_true e.symm, decide_eq_true (p := s / 3600 ≤ 23 ∧ s / 60 % 60 ≤ 59 ∧ s % 60 ≤ 59) (by omega)]
  rfl
 refine ⟨hok, ?_⟩
 unfold rtV
 rw [hok, hY, hS, x2, x3, k2]
 rfl
theorem long_read {b0 b1 b2 b3 b4 b5 b6 b7 b8 b9 b10 b11 b12 b13 b14 : UInt8} {y m d s : Int} (hp : Pts b0 b1 b2 b3 b4 b5 b6 b7 b8 b9 b10 b11 b12 b13 y m d s)
  (h : rtOk b0 b1 b2 b3 b4 b5 b6 b7 b8 b9 b10 b11 b12 b13 b14 = true) :
  tOk y m d s = true ∧ tTm y m d s = rtV b0 b1 b2 b3 b4 b5 b6 b7 b8 b9 b10 b11 b12 b13 b14 ∧ longL y.toNat m.toNat d.toNat s.toNat = [b0, b1, b2, b3, b4, b5, b6, b7, b8, b9, b10, b11, b12, b13, b14] := by
 have h' := h
 unfold rtOk at h'
 simp only [Bool.and_eq_true, decide_eq_true_eq] at h'
 obtain ⟨rfl, hD, ⟨g1, g2, g3⟩, hO⟩ := h'
 obtain ⟨d0, d1, d2, d3, d4, d5, d6, d7, d8, d9, d10, d11, d12, d13⟩ := allD_iff.1 hD
 have ey : y = (rtY b0 b1 b2 b3 : Int) := by rw [hp.y, rd4 d0 d1 d2 d3]; rfl
 have em : m = (v2 b4 b5 : Int) := by rw [hp.m, rd2 d4 d5]
 have ed : d = (v2 b6 b7 : Int) := by rw [hp.d, rd2 d6 d7]
 have es : s = (rtS b8 b9 b10 b11 b12 b13 : Int) := by rw [hp.s, rd2 d8 d9, rd2 d10 d11, rd2 d12 d13]; unfold rtS; omega
 subst ey em ed es
 refine ⟨hO, ?_, ?_⟩
 ·unfold rtV
  rw [h]
  rfl
 ·simp only [Int.toNat_natCast]
  have u4 : rtS b8 b9 b10 b11 b12 b13 / 3600 = v2 b8 b9 := by unfold rtS; omega
  have u5 : rtS b8 b9 b10 b11 b12 b13 / 60 % 60 = v2 b10 b11 := by unfold rtS; omega
  have u6 : rtS b8 b9 b10 b11 b12 b13 % 60 = v2 b12 b13 := by unfold rtS; omega
  have w2 : v2 b2 b3 < 100 := by unfold v2; have := d2.2; have := d3.2; omega
  have u0 : rtY b0 b1 b2 b3 / 100 = v2 b0 b1 := by unfold rtY; omega
  have u1 : rtY b0 b1 b2 b3 % 100 = v2 b2 b3 := by unfold rtY; omega
  unfold longL restL
  rw [u4, u5, u6, u0, ← two_mod (rtY b0 b1 b2 b3), u1, two_v2 d0 d1, two_v2 d2 d3, two_v2 d4 d5, two_v2 d6 d7, two_v2 d8 d9, two_v2 d10 d11, two_v2 d12 d13]
  rfl
end
end Go.Proofs.YtkogbinfhoiggaaGreatDoor
