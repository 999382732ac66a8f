/- Walks: DayOf of both. -/
import Derived.Test.YtjidlahgfkdipaaDoorTio
namespace Go.Proofs.YtjidlahgfkdipaaDoor
set_option linter.unusedVariables false
set_option linter.unusedSimpArgs false
open Go.RowKit

theorem results_tmp4 {fn : Func} {t u v x : Tmp} (h : fn.results = #[.tmp t, .tmp u, .tmp v, .tmp x]) (tmps : Array Value) (P : Program) (w : World) :
    (results fn tmps).run P w = .ok (.tuple #[tmps.getD t undef, tmps.getD u undef, tmps.getD v undef, tmps.getD x undef]) w := by
  simp [results, h]

/-- What DayOf answers at a time. -/
def GivesDay (t : Int) (w : World) (e : Ending) (w' : World) : Prop := ∃ y m d s : Nat, e = .returned (.tuple #[.int .i64 (y : Int), .int .i64 (m : Int), .int .i64 (d : Int), .int .i64 (s : Int)]) ∧ IsDay t y m d s ∧ Ext w w'
def inT (t : Int) : Prop := -631152000 ≤ t ∧ t ≤ 4102444799
instance (t : Int) : Decidable (inT t) := inferInstanceAs (Decidable (_ ∧ _))

theorem isTime_any (t : Int) (w : World) : Calls Tryd.prog 31 #[.int .i64 t] w fun e w' => e = .returned (.bool (decide (inT t))) ∧ w' = w := by
  by_cases h1 : -631152000 ≤ t
  · by_cases h2 : t ≤ 4102444799
    · rw [decide_eq_true (p := inT t) ⟨h1, h2⟩]
      go_enter Tryd.func31, Tryd.ntmps31
      go_wp2
      go_ret
      exact ⟨ret_bool (by simp [h1, h2]), rfl⟩
    · rw [decide_eq_false (fun x : inT t => h2 x.2)]
      go_enter Tryd.func31, Tryd.ntmps31
      go_wp2
      go_ret
      exact ⟨ret_bool (by simp [h1, h2]), rfl⟩
  · rw [decide_eq_false (fun x : inT t => h1 x.1)]
    go_enter Tryd.func31, Tryd.ntmps31
    go_wp2
    go_ret
    exact ⟨ret_bool (by simp [h1]), rfl⟩

theorem l9Ok_any (t : Int) (w : World) : Calls Tryd.prog 30 #[.int .i64 t] w fun e w' => e = .returned (.bool (decide (inT t))) ∧ w' = w := by
  by_cases h : inT t
  · rw [decide_eq_true h]
    have F := hide h
    unfold inT at F
    clear h
    go_enter Tryd.func30, Tryd.ntmps30
    go_wp2_with (go_at_call 24; refine (l1In_yes _ _ _ _ (by have := F.out; omega) (by have := F.out; omega)).mono ?_; rintro e w1 ⟨rfl, hw⟩; obtain rfl := hw.symm)
    go_ret
    exact ⟨rfl, rfl⟩
  · rw [decide_eq_false h]
    have F := hide h
    unfold inT at F
    clear h
    go_enter Tryd.func30, Tryd.ntmps30
    go_wp2_with (go_at_call 24; refine (l1In_no _ _ _ _ (by have := F.out; omega)).mono ?_; rintro e w1 ⟨rfl, hw⟩; obtain rfl := hw.symm)
    go_ret
    exact ⟨rfl, rfl⟩

/-- The days and seconds behind the first time. -/
theorem day_parts {t : Int} (h : inT t) : ∃ T D s : Nat, t = -631152000 + ((D * 86400 + s : Nat) : Int) ∧ D ≤ 54786 ∧ s < 86400 ∧ wrap64 (t + 631152000) = (T : Int) ∧ IntKind.i64.wrap (t + 631152000) = (T : Int) ∧ Int.tdiv (T : Int) 86400 = (D : Int) ∧ Int.tmod (T : Int) 86400 = (s : Int) ∧ wrap64 (D : Int) = D ∧ IntKind.i64.wrap (D : Int) = D ∧ wrap64 (s : Int) = s ∧ IntKind.i64.wrap (s : Int) = s := by
  obtain ⟨h1, h2⟩ := h
  obtain ⟨T, hT⟩ := Int.eq_ofNat_of_zero_le (show 0 ≤ t + 631152000 by omega)
  refine ⟨T, T / 86400, T % 86400, by omega, by omega, by omega, by unfold wrap64; omega, by rw [IntKind.wrap_i64]; omega, by rw [Int.tdiv_eq_ediv_of_nonneg (by omega)]; omega, by rw [Int.tmod_eq_emod_of_nonneg (by omega)]; omega, ?_, ?_, ?_, ?_⟩
  all_goals
    have a : T / 86400 ≤ 60000 := by omega
    have b : T % 86400 < 86400 := by omega
    clear hT h1 h2
    generalize T / 86400 = A at *
    generalize T % 86400 = B at *
  · unfold wrap64; omega
  · rw [IntKind.wrap_i64]; omega
  · unfold wrap64; omega
  · rw [IntKind.wrap_i64]; omega

theorem yy_next {z k D : Nat} (hz : 1950 ≤ z) (hD : D ≤ 54786) (h : k + Yy z = D) (hk : yd z ≤ k) (hz2 : z ≤ 2099) : z + 1 ≤ 2099 ∧ k - yd z + Yy (z + 1) = D := by
  obtain ⟨e, -⟩ := Yy_step hz hz2
  have h2 : Yy (z + 1) ≤ 54786 := by omega
  have : z + 1 - 1950 < 150 := Yd_lt (k := z + 1 - 1950) h2
  omega
theorem mb_next {y m k r : Nat} (h1 : 1 ≤ m) (h2 : m ≤ 12) (hr : r < yd y) (h : k + Mb y m = r) (hk : md y m ≤ k) : m + 1 ≤ 12 ∧ k - md y m + Mb y (m + 1) = r := by
  have e := Mb_succ y m h1 h2
  have : m ≠ 12 := fun c => by
    subst c
    have := Mb_end y
    have e2 : Mb y 13 = Mb y 12 + md y 12 := e
    omega
  omega
theorem isDay_at {t : Int} {D s z m r q : Nat} (ht : t = -631152000 + ((D * 86400 + s : Nat) : Int)) (hD : D ≤ 54786) (hs : s < 86400) (hz : 1950 ≤ z) (hq : q + Yy z = D) (hr : r + Mb z m = q) (h1 : 1 ≤ m) (h2 : m ≤ 12) (hk : r < md z m) : IsDay t z m (r + 1) s := by
  obtain ⟨k, rfl⟩ : ∃ k, z = 1950 + k := ⟨z - 1950, by omega⟩
  have e : Yy (1950 + k) = Yd k := by unfold Yy; rw [Nat.add_sub_cancel_left]
  rw [e] at hq
  exact isDay_of ht hD hs (by omega) h1 h2 hk

set_option maxHeartbeats 1600000 in
set_option maxRecDepth 100000 in
theorem implDayOf_yes (t : Int) (h : inT t) (w : World) (hT : MTab w) : Calls Tryd.prog 12 #[.int .i64 t] w fun e w' => GivesDay t w e w' := by
  obtain ⟨T, D, s, ht, hD, hs, e1, e2, e3, e4, D1, D2, S1, S2⟩ := day_parts h
  have HO := hide (isTime_any t w)
  rw [decide_eq_true h] at HO
  have Ht := hide (And.intro ht (And.intro hD hs))
  have HT := hide hT
  clear h ht hD hs hT
  go_enter Tryd.func12, Tryd.ntmps12
  go_wp2_with (go_at_call 31; refine HO.out.mono ?_; rintro e w1 ⟨rfl, hw⟩; obtain rfl := hw.symm)
  clear e1 e2 e3 e4 D1 D2 S1 S2 HO
  go_loop [6, 8] (fun dv yv => ∃ z k : Nat, 1950 ≤ z ∧ z ≤ 2099 ∧ yv = .int .i64 (z : Int) ∧ dv = .int .i64 (k : Int) ∧ k + Yy z = D) (fun dv _ => (intOf dv).toNat)
  case atStart => exact ⟨1950, D, Nat.le_refl _, by omega, rfl, rfl, by have e : Yy 1950 = 0 := rfl; rw [e, Nat.add_zero]⟩
  case round =>
    obtain ⟨z, k, hz, hz2, rfl, rfl, hk⟩ := hrel
    have HY := hide (daysOfYear_any z (by omega) w)
    have hD := Ht.out.2.1
    by_cases hle : yd z ≤ k
    · have hN := yy_next hz hD hk hle hz2
      have hyl : ((yd z : Nat) : Int) ≤ (k : Int) := by omega
      have hy0 := (yd_le z).1
      generalize yd z = Q at *
      obtain ⟨r, hr⟩ : ∃ r, r = k - Q := ⟨_, rfl⟩
      have hw1 : wrap64 ((k : Int) - (Q : Int)) = (r : Int) := by unfold wrap64; omega
      have hw2 : IntKind.i64.wrap ((k : Int) - (Q : Int)) = (r : Int) := by rw [IntKind.wrap_i64]; omega
      rw [← hr] at hN
      have HN := hide hN
      have Hlt := hide (show r < k by omega)
      clear hN hk hle hr hy0 hD
      go_wp2_with (go_at_call 28; refine HY.out.mono ?_; rintro e w1 ⟨rfl, hw⟩; obtain rfl := hw.symm)
      go_round
      case rel => clear hw1 hw2; exact ⟨z + 1, r, by omega, HN.out.1, by go_num, rfl, HN.out.2⟩
      case measure => clear hw1 hw2; have := Hlt.out; simp [intOf]; omega
    · have hyl : ¬ ((yd z : Nat) : Int) ≤ (k : Int) := by omega
      have Hk := hide hk
      have Hq := hide (show k < yd z by omega)
      have hQ := (yd_le z).2
      clear hk hle
      generalize hQQ : yd z = Q at *
      have HQ := hide hQQ
      clear hQQ
      go_wp2_with (go_at_call 28; refine HY.out.mono ?_; rintro e w1 ⟨rfl, hw⟩; obtain rfl := hw.symm)
      have hb : decide (Q ≤ k) = false := decide_eq_false (by have := Hq.out; omega)
      simp only [hb]
      clear HY hyl hD hb
      go_loop [6, 9] (fun dv mv => ∃ m r : Nat, 1 ≤ m ∧ m ≤ 12 ∧ mv = .int .i64 (m : Int) ∧ dv = .int .i64 (r : Int) ∧ r + Mb z m = k) (fun dv _ => (intOf dv).toNat)
      case atStart => exact ⟨1, k, Nat.le_refl _, by omega, rfl, rfl, by rw [Mb_one]; rfl⟩
      case round =>
        obtain ⟨m, r, hm1, hm2, rfl, rfl, hr⟩ := hrel
        have HM := hide (daysOfMonth_any z m (by omega) hm1 hm2 w HT.out)
        by_cases hle : md z m ≤ r
        · have hN := mb_next hm1 hm2 (by have := HQ.out; have := Hq.out; omega) hr hle
          have hyl : ((md z m : Nat) : Int) ≤ (r : Int) := by omega
          have hy0 : 1 ≤ md z m := by
            rcases month_cases hm1 hm2 with rfl | rfl | rfl | rfl | rfl | rfl | rfl | rfl | rfl | rfl | rfl | rfl
            all_goals (unfold md; split <;> simp [mdt])
          generalize md z m = P at *
          obtain ⟨q, hq⟩ : ∃ q, q = r - P := ⟨_, rfl⟩
          have hw1 : wrap64 ((r : Int) - (P : Int)) = (q : Int) := by have := Hq.out; unfold wrap64; omega
          have hw2 : IntKind.i64.wrap ((r : Int) - (P : Int)) = (q : Int) := by have := Hq.out; rw [IntKind.wrap_i64]; omega
          rw [← hq] at hN
          have HN := hide hN
          have Hlt := hide (show q < r by omega)
          clear hN hr hle hq hy0
          go_wp2_with (go_at_call 29; refine HM.out.mono ?_; rintro e w1 ⟨rfl, hw⟩; obtain rfl := hw.symm)
          go_round
          case rel => clear hw1 hw2; exact ⟨m + 1, q, by omega, HN.out.1, by go_num, rfl, HN.out.2⟩
          case measure => clear hw1 hw2; have := Hlt.out; simp [intOf]; omega
        · have hyl : ¬ ((md z m : Nat) : Int) ≤ (r : Int) := by omega
          have HI := hide (isDay_at Ht.out.1 Ht.out.2.1 Ht.out.2.2 hz Hk.out hr hm1 hm2 (by omega))
          have hr3 : r ≤ 400 := by have := md_le z m; omega
          have hw1 : wrap64 ((r : Int) + 1) = ((r + 1 : Nat) : Int) := by unfold wrap64; omega
          generalize md z m = P at *
          generalize r + 1 = r1 at *
          clear hr hle hr3
          go_wp2_with (go_at_call 29; refine HM.out.mono ?_; rintro e w1 ⟨rfl, hw⟩; obtain rfl := hw.symm)
          (try simp only [Exit.inBlock, Exit.then]); refine bodyPost_ret (results_tmp4 rfl _ _ _) rfl ?_
          exact ⟨z, m, r1, s, by rw [← hw1]; rfl, HI.out, Ext.refl _⟩

theorem implDayOf_no (t : Int) (h : ¬ inT t) (w : World) : Calls Tryd.prog 12 #[.int .i64 t] w fun e w' => e = .returned (.tuple #[.int .i64 0, .int .i64 0, .int .i64 0, .int .i64 0]) ∧ w' = w := by
  have HO := hide (isTime_any t w)
  rw [decide_eq_false h] at HO
  clear h
  go_enter Tryd.func12, Tryd.ntmps12
  go_wp2_with (go_at_call 31; refine HO.out.mono ?_; rintro e w1 ⟨rfl, hw⟩; obtain rfl := hw.symm)
  (try simp only [Exit.inBlock, Exit.then]); refine bodyPost_ret (results_tmp4 rfl _ _ _) rfl ?_
  exact ⟨rfl, rfl⟩

set_option maxHeartbeats 1600000 in
set_option maxRecDepth 100000 in
theorem specDayOf_yes (t : Int) (h : inT t) (w : World) : Calls Tryd.prog 11 #[.int .i64 t] w fun e w' => GivesDay t w e w' := by
  obtain ⟨T, D, s, ht, hD, hs, e1, e2, e3, e4, D1, D2, S1, S2⟩ := day_parts h
  have HO := hide (l9Ok_any t w)
  rw [decide_eq_true h] at HO
  have Ht := hide (And.intro ht (And.intro hD hs))

  clear h ht hD hs
  go_enter Tryd.func11, Tryd.ntmps11
  go_wp2_with (go_at_call 30; refine HO.out.mono ?_; rintro e w1 ⟨rfl, hw⟩; obtain rfl := hw.symm)
  clear e1 e2 e3 e4 D1 D2 S1 S2 HO
  go_loop [6, 8] (fun dv yv => ∃ z k : Nat, 1950 ≤ z ∧ z ≤ 2099 ∧ yv = .int .i64 (z : Int) ∧ dv = .int .i64 (k : Int) ∧ k + Yy z = D) (fun dv _ => (intOf dv).toNat)
  case atStart => exact ⟨1950, D, Nat.le_refl _, by omega, rfl, rfl, by have e : Yy 1950 = 0 := rfl; rw [e, Nat.add_zero]⟩
  case round =>
    obtain ⟨z, k, hz, hz2, rfl, rfl, hk⟩ := hrel
    have HY := hide (l9Year_any z (by omega) w)
    have hD := Ht.out.2.1
    by_cases hle : yd z ≤ k
    · have hN := yy_next hz hD hk hle hz2
      have hyl : ((yd z : Nat) : Int) ≤ (k : Int) := by omega
      have hy0 := (yd_le z).1
      generalize yd z = Q at *
      obtain ⟨r, hr⟩ : ∃ r, r = k - Q := ⟨_, rfl⟩
      have hw1 : wrap64 ((k : Int) - (Q : Int)) = (r : Int) := by unfold wrap64; omega
      have hw2 : IntKind.i64.wrap ((k : Int) - (Q : Int)) = (r : Int) := by rw [IntKind.wrap_i64]; omega
      rw [← hr] at hN
      have HN := hide hN
      have Hlt := hide (show r < k by omega)
      clear hN hk hle hr hy0 hD
      go_wp2_with (go_at_call 26; refine HY.out.mono ?_; rintro e w1 ⟨rfl, hw⟩; obtain rfl := hw.symm)
      go_round
      case rel => clear hw1 hw2; exact ⟨z + 1, r, by omega, HN.out.1, by go_num, rfl, HN.out.2⟩
      case measure => clear hw1 hw2; have := Hlt.out; simp [intOf]; omega
    · have hyl : ¬ ((yd z : Nat) : Int) ≤ (k : Int) := by omega
      have Hk := hide hk
      have Hq := hide (show k < yd z by omega)
      have hQ := (yd_le z).2
      clear hk hle
      generalize hQQ : yd z = Q at *
      have HQ := hide hQQ
      clear hQQ
      go_wp2_with (go_at_call 26; refine HY.out.mono ?_; rintro e w1 ⟨rfl, hw⟩; obtain rfl := hw.symm)
      have hb : decide (Q ≤ k) = false := decide_eq_false (by have := Hq.out; omega)
      simp only [hb]
      clear HY hyl hD hb
      go_loopw [6, 9] (fun dv mv wr => ∃ m r : Nat, 1 ≤ m ∧ m ≤ 12 ∧ mv = .int .i64 (m : Int) ∧ dv = .int .i64 (r : Int) ∧ r + Mb z m = k ∧ Ext w wr) (fun dv _ _ => (intOf dv).toNat)
      case atStart => exact ⟨1, k, Nat.le_refl _, by omega, rfl, rfl, by rw [Mb_one]; rfl, Ext.refl _⟩
      case round =>
        obtain ⟨m, r, hm1, hm2, rfl, rfl, hr, hE⟩ := hrel
        have HEx := hide hE
        clear hE
        have HM : Hid (∀ W, Calls Tryd.prog 25 #[.int .i64 (z : Int), .int .i64 (m : Int)] W fun e w' => e = .returned (.int .i64 (md z m : Int)) ∧ Ext W w') := fun W => l9Days_any z m hm1 hm2 W
        by_cases hle : md z m ≤ r
        · have hN := mb_next hm1 hm2 (by have := HQ.out; have := Hq.out; omega) hr hle
          have hyl : ((md z m : Nat) : Int) ≤ (r : Int) := by omega
          have hy0 : 1 ≤ md z m := by
            rcases month_cases hm1 hm2 with rfl | rfl | rfl | rfl | rfl | rfl | rfl | rfl | rfl | rfl | rfl | rfl
            all_goals (unfold md; split <;> simp [mdt])
          generalize md z m = P at *
          obtain ⟨q, hq⟩ : ∃ q, q = r - P := ⟨_, rfl⟩
          have hw1 : wrap64 ((r : Int) - (P : Int)) = (q : Int) := by have := Hq.out; unfold wrap64; omega
          have hw2 : IntKind.i64.wrap ((r : Int) - (P : Int)) = (q : Int) := by have := Hq.out; rw [IntKind.wrap_i64]; omega
          rw [← hq] at hN
          have HN := hide hN
          have Hlt := hide (show q < r by omega)
          clear hN hr hle hq hy0
          go_wp2_with (go_at_call 25; refine (HM.out _).mono ?_; rintro e w1 ⟨rfl, hE1⟩; replace HEx := hide (Ext.trans HEx.out hE1); clear hE1)
          go_roundw
          case rel => clear hw1 hw2; exact ⟨m + 1, q, by omega, HN.out.1, by go_num, rfl, HN.out.2, HEx.out⟩
          case measure => clear hw1 hw2; have := Hlt.out; simp [intOf]; omega
        · have hyl : ¬ ((md z m : Nat) : Int) ≤ (r : Int) := by omega
          have HI := hide (isDay_at Ht.out.1 Ht.out.2.1 Ht.out.2.2 hz Hk.out hr hm1 hm2 (by omega))
          have hr3 : r ≤ 400 := by have := md_le z m; omega
          have hw1 : wrap64 ((r : Int) + 1) = ((r + 1 : Nat) : Int) := by unfold wrap64; omega
          generalize md z m = P at *
          generalize r + 1 = r1 at *
          clear hr hle hr3
          go_wp2_with (go_at_call 25; refine (HM.out _).mono ?_; rintro e w1 ⟨rfl, hE1⟩; replace HEx := hide (Ext.trans HEx.out hE1); clear hE1)
          (try simp only [Exit.inBlock, Exit.then]); refine bodyPost_ret (results_tmp4 rfl _ _ _) rfl ?_
          exact ⟨z, m, r1, s, by rw [← hw1]; rfl, HI.out, HEx.out⟩

theorem specDayOf_no (t : Int) (h : ¬ inT t) (w : World) : Calls Tryd.prog 11 #[.int .i64 t] w fun e w' => e = .returned (.tuple #[.int .i64 0, .int .i64 0, .int .i64 0, .int .i64 0]) ∧ w' = w := by
  have HO := hide (l9Ok_any t w)
  rw [decide_eq_false h] at HO
  clear h
  go_enter Tryd.func11, Tryd.ntmps11
  go_wp2_with (go_at_call 30; refine HO.out.mono ?_; rintro e w1 ⟨rfl, hw⟩; obtain rfl := hw.symm)
  (try simp only [Exit.inBlock, Exit.then]); refine bodyPost_ret (results_tmp4 rfl _ _ _) rfl ?_
  exact ⟨rfl, rfl⟩

end Go.Proofs.YtjidlahgfkdipaaDoor
