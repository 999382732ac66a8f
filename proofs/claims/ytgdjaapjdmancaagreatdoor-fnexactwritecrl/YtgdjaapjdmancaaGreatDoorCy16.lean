/- Walks: TimeOf of both. Walks: DayOf of both. Plain facts: addresses read and written, as lists of bytes. Nothing of the program. Plain facts: the texts of times. Nothing of the program. Walks: LongTime and ShortTime of both. -/
import Derived.Test.YtgdjaapjdmancaaGreatDoorCy15
import Derived.Lib.ItoaNum
import Derived.Lib.Atoi
import Derived.Lib.Join
import Derived.Test.YtgdjaapjdmancaaGreatDoorCy01
import Derived.Test.YtgdjaapjdmancaaGreatDoorCy14
import Derived.Test.YtgdjaapjdmancaaGreatDoorShelf
import Derived.Handy
import Derived.Maps.AppendAt
import Derived.Test.YtgdjaapjdmancaaGreatDoorCy02
import Derived.Test.YtgdjaapjdmancaaGreatDoorCy08
namespace Go.Proofs.YtgdjaapjdmancaaGreatDoor

section
set_option linter.unusedVariables false
set_option linter.unusedSimpArgs false

open Go.RowKit

theorem tm_bounds {y m d : Nat} (h : DayOk y m d) : 1950 ≤ y ∧ y ≤ 2099 ∧ 1 ≤ m ∧ m ≤ 12 ∧ 1 ≤ d ∧ d ≤ 31 := ⟨h.y0, h.y1, h.m0, h.m1, h.d0, Nat.le_trans h.d1 (md_le y m)⟩

/-- The days ahead of a year, by the year. -/
def Yy (z : Nat) : Nat := Yd (z - 1950)

theorem Yy_step {z : Nat} (h : 1950 ≤ z) (hn : z ≤ 2099) : Yy (z + 1) = Yy z + yd z ∧ Yy z + yd z ≤ 60000 := by
  have e := Yd_succ (z - 1950)
  have e1 : 1950 + (z - 1950) = z := by omega
  have e2 : z + 1 - 1950 = z - 1950 + 1 := by omega
  have : Yd (z - 1950 + 1) ≤ 54787 := Yd_last (by omega)
  rw [e1] at e
  unfold Yy
  rw [e2]
  omega

theorem l1In_yes (x a b : Int) (w : World) (h1 : a ≤ x) (h2 : x ≤ b) : Calls Tryz.prog 35 #[.int .i64 x, .int .i64 a, .int .i64 b] w fun e w' => e = .returned (.bool true) ∧ w' = w := by
  have h := l1In_int x a b w
  rw [decide_eq_true h1, decide_eq_true h2] at h
  exact h

theorem l1In_no (x a b : Int) (w : World) (h : x < a ∨ b < x) : Calls Tryz.prog 35 #[.int .i64 x, .int .i64 a, .int .i64 b] w fun e w' => e = .returned (.bool false) ∧ w' = w := by
  have k := l1In_int x a b w
  have e : (decide (a ≤ x) && decide (x ≤ b)) = false := by simp; omega
  rw [e] at k
  exact k
end

section
set_option linter.unusedVariables false
set_option linter.unusedSimpArgs false

open Go.RowKit

theorem results_tmp4 {fn : Func} {t u v x : Tmp} (h : fn.results = #[.tmp t, .tmp u, .tmp v, .tmp x]) (tmps : Array Value) (P : Program) (w : World) :
    (results fn tmps).run P w = .ok (.tuple #[tmps.getD t undef, tmps.getD u undef, tmps.getD v undef, tmps.getD x undef]) w := by
  simp [results, h]

/-- What DayOf answers at a time. -/
def GivesDay (t : Int) (w : World) (e : Ending) (w' : World) : Prop := ∃ y m d s : Nat, e = .returned (.tuple #[.int .i64 (y : Int), .int .i64 (m : Int), .int .i64 (d : Int), .int .i64 (s : Int)]) ∧ IsDay t y m d s ∧ Ext w w'

def inT (t : Int) : Prop := -631152000 ≤ t ∧ t ≤ 4102444799

instance (t : Int) : Decidable (inT t) := inferInstanceAs (Decidable (_ ∧ _))

theorem isTime_any (t : Int) (w : World) : Calls Tryz.prog 71 #[.int .i64 t] w fun e w' => e = .returned (.bool (decide (inT t))) ∧ w' = w := by
  by_cases h1 : -631152000 ≤ t
  · by_cases h2 : t ≤ 4102444799
    · rw [decide_eq_true (p := inT t) ⟨h1, h2⟩]
      go_enter Tryz.func71, Tryz.ntmps71
      go_wp2
      go_ret
      exact ⟨ret_bool (by simp [h1, h2]), rfl⟩
    · rw [decide_eq_false (fun x : inT t => h2 x.2)]
      go_enter Tryz.func71, Tryz.ntmps71
      go_wp2
      go_ret
      exact ⟨ret_bool (by simp [h1, h2]), rfl⟩
  · rw [decide_eq_false (fun x : inT t => h1 x.1)]
    go_enter Tryz.func71, Tryz.ntmps71
    go_wp2
    go_ret
    exact ⟨ret_bool (by simp [h1]), rfl⟩

theorem l9Ok_any (t : Int) (w : World) : Calls Tryz.prog 37 #[.int .i64 t] w fun e w' => e = .returned (.bool (decide (inT t))) ∧ w' = w := by
  by_cases h : inT t
  · rw [decide_eq_true h]
    have F := hide h
    unfold inT at F
    clear h
    go_enter Tryz.func37, Tryz.ntmps37
    go_wp2_with (go_at_call 35; refine (l1In_yes _ _ _ _ (by have := F.out; omega) (by have := F.out; omega)).mono ?_; rintro e w1 ⟨rfl, hw⟩; obtain rfl := hw.symm)
    go_ret
    exact ⟨rfl, rfl⟩
  · rw [decide_eq_false h]
    have F := hide h
    unfold inT at F
    clear h
    go_enter Tryz.func37, Tryz.ntmps37
    go_wp2_with (go_at_call 35; refine (l1In_no _ _ _ _ (by have := F.out; omega)).mono ?_; rintro e w1 ⟨rfl, hw⟩; obtain rfl := hw.symm)
    go_ret
    exact ⟨rfl, rfl⟩

/-- The days and seconds behind the first time. -/
theorem day_parts {t : Int} (h : inT t) : ∃ T D s : Nat, t = -631152000 + ((D * 86400 + s : Nat) : Int) ∧ D ≤ 54786 ∧ s < 86400 ∧ wrap64 (t + 631152000) = (T : Int) ∧ IntKind.i64.wrap (t + 631152000) = (T : Int) ∧ Int.tdiv (T : Int) 86400 = (D : Int) ∧ Int.tmod (T : Int) 86400 = (s : Int) ∧ wrap64 (D : Int) = D ∧ IntKind.i64.wrap (D : Int) = D ∧ wrap64 (s : Int) = s ∧ IntKind.i64.wrap (s : Int) = s := by
  obtain ⟨h1, h2⟩ := h
  obtain ⟨T, hT⟩ := Int.eq_ofNat_of_zero_le (show 0 ≤ t + 631152000 by omega)
  refine ⟨T, T / 86400, T % 86400, by omega, by omega, by omega, by unfold wrap64; omega, by rw [IntKind.wrap_i64]; omega, by rw [Int.tdiv_eq_ediv_of_nonneg (by omega)]; omega, by rw [Int.tmod_eq_emod_of_nonneg (by omega)]; omega, ?_, ?_, ?_, ?_⟩
  all_goals
    have a : T / 86400 ≤ 60000 := by omega
    have b : T % 86400 < 86400 := by omega
    clear hT h1 h2
    generalize T / 86400 = A at *
    generalize T % 86400 = B at *
  · unfold wrap64; omega
  · rw [IntKind.wrap_i64]; omega
  · unfold wrap64; omega
  · rw [IntKind.wrap_i64]; omega

theorem yy_next {z k D : Nat} (hz : 1950 ≤ z) (hD : D ≤ 54786) (h : k + Yy z = D) (hk : yd z ≤ k) (hz2 : z ≤ 2099) : z + 1 ≤ 2099 ∧ k - yd z + Yy (z + 1) = D := by
  obtain ⟨e, -⟩ := Yy_step hz hz2
  have h2 : Yy (z + 1) ≤ 54786 := by omega
  have : z + 1 - 1950 < 150 := Yd_lt (k := z + 1 - 1950) h2
  omega

theorem mb_next {y m k r : Nat} (h1 : 1 ≤ m) (h2 : m ≤ 12) (hr : r < yd y) (h : k + Mb y m = r) (hk : md y m ≤ k) : m + 1 ≤ 12 ∧ k - md y m + Mb y (m + 1) = r := by
  have e := Mb_succ y m h1 h2
  have : m ≠ 12 := fun c => by
    subst c
    have := Mb_end y
    have e2 : Mb y 13 = Mb y 12 + md y 12 := e
    omega
  omega

theorem isDay_at {t : Int} {D s z m r q : Nat} (ht : t = -631152000 + ((D * 86400 + s : Nat) : Int)) (hD : D ≤ 54786) (hs : s < 86400) (hz : 1950 ≤ z) (hq : q + Yy z = D) (hr : r + Mb z m = q) (h1 : 1 ≤ m) (h2 : m ≤ 12) (hk : r < md z m) : IsDay t z m (r + 1) s := by
  obtain ⟨k, rfl⟩ : ∃ k, z = 1950 + k := ⟨z - 1950, by omega⟩
  have e : Yy (1950 + k) = Yd k := by unfold Yy; rw [Nat.add_sub_cancel_left]
  rw [e] at hq
  exact isDay_of ht hD hs (by omega) h1 h2 hk

set_option maxHeartbeats 1600000 in
set_option maxRecDepth 100000 in
theorem implDayOf_yes (t : Int) (h : inT t) (w : World) (hT : MTab w) : Calls Tryz.prog 105 #[.int .i64 t] w fun e w' => GivesDay t w e w' := by
  obtain ⟨T, D, s, ht, hD, hs, e1, e2, e3, e4, D1, D2, S1, S2⟩ := day_parts h
  have HO := hide (isTime_any t w)
  rw [decide_eq_true h] at HO
  have Ht := hide (And.intro ht (And.intro hD hs))
  have HT := hide hT
  clear h ht hD hs hT
  go_enter Tryz.func105, Tryz.ntmps105
  go_wp2_with (go_at_call 71; refine HO.out.mono ?_; rintro e w1 ⟨rfl, hw⟩; obtain rfl := hw.symm)
  clear e1 e2 e3 e4 D1 D2 S1 S2 HO
  go_loop [6, 8] (fun dv yv => ∃ z k : Nat, 1950 ≤ z ∧ z ≤ 2099 ∧ yv = .int .i64 (z : Int) ∧ dv = .int .i64 (k : Int) ∧ k + Yy z = D) (fun dv _ => (intOf dv).toNat)
  case atStart => exact ⟨1950, D, Nat.le_refl _, by omega, rfl, rfl, by have e : Yy 1950 = 0 := rfl; rw [e, Nat.add_zero]⟩
  case round =>
    obtain ⟨z, k, hz, hz2, rfl, rfl, hk⟩ := hrel
    have HY := hide (daysOfYear_any z (by omega) w)
    have hD := Ht.out.2.1
    by_cases hle : yd z ≤ k
    · have hN := yy_next hz hD hk hle hz2
      have hyl : ((yd z : Nat) : Int) ≤ (k : Int) := by omega
      have hy0 := (yd_le z).1
      generalize yd z = Q at *
      obtain ⟨r, hr⟩ : ∃ r, r = k - Q := ⟨_, rfl⟩
      have hw1 : wrap64 ((k : Int) - (Q : Int)) = (r : Int) := by unfold wrap64; omega
      have hw2 : IntKind.i64.wrap ((k : Int) - (Q : Int)) = (r : Int) := by rw [IntKind.wrap_i64]; omega
      rw [← hr] at hN
      have HN := hide hN
      have Hlt := hide (show r < k by omega)
      clear hN hk hle hr hy0 hD
      go_wp2_with (go_at_call 108; refine HY.out.mono ?_; rintro e w1 ⟨rfl, hw⟩; obtain rfl := hw.symm)
      go_round
      case rel => clear hw1 hw2; exact ⟨z + 1, r, by omega, HN.out.1, by go_num, rfl, HN.out.2⟩
      case measure => clear hw1 hw2; have := Hlt.out; simp [intOf]; omega
    · have hyl : ¬ ((yd z : Nat) : Int) ≤ (k : Int) := by omega
      have Hk := hide hk
      have Hq := hide (show k < yd z by omega)
      have hQ := (yd_le z).2
      clear hk hle
      generalize hQQ : yd z = Q at *
      have HQ := hide hQQ
      clear hQQ
      go_wp2_with (go_at_call 108; refine HY.out.mono ?_; rintro e w1 ⟨rfl, hw⟩; obtain rfl := hw.symm)
      have hb : decide (Q ≤ k) = false := decide_eq_false (by have := Hq.out; omega)
      simp only [hb]
      clear HY hyl hD hb
      go_loop [6, 9] (fun dv mv => ∃ m r : Nat, 1 ≤ m ∧ m ≤ 12 ∧ mv = .int .i64 (m : Int) ∧ dv = .int .i64 (r : Int) ∧ r + Mb z m = k) (fun dv _ => (intOf dv).toNat)
      case atStart => exact ⟨1, k, Nat.le_refl _, by omega, rfl, rfl, by rw [Mb_one]; rfl⟩
      case round =>
        obtain ⟨m, r, hm1, hm2, rfl, rfl, hr⟩ := hrel
        have HM := hide (daysOfMonth_any z m (by omega) hm1 hm2 w HT.out)
        by_cases hle : md z m ≤ r
        · have hN := mb_next hm1 hm2 (by have := HQ.out; have := Hq.out; omega) hr hle
          have hyl : ((md z m : Nat) : Int) ≤ (r : Int) := by omega
          have hy0 : 1 ≤ md z m := by
            rcases month_cases hm1 hm2 with rfl | rfl | rfl | rfl | rfl | rfl | rfl | rfl | rfl | rfl | rfl | rfl
            all_goals (unfold md; split <;> simp [mdt])
          generalize md z m = P at *
          obtain ⟨q, hq⟩ : ∃ q, q = r - P := ⟨_, rfl⟩
          have hw1 : wrap64 ((r : Int) - (P : Int)) = (q : Int) := by have := Hq.out; unfold wrap64; omega
          have hw2 : IntKind.i64.wrap ((r : Int) - (P : Int)) = (q : Int) := by have := Hq.out; rw [IntKind.wrap_i64]; omega
          rw [← hq] at hN
          have HN := hide hN
          have Hlt := hide (show q < r by omega)
          clear hN hr hle hq hy0
          go_wp2_with (go_at_call 109; refine HM.out.mono ?_; rintro e w1 ⟨rfl, hw⟩; obtain rfl := hw.symm)
          go_round
          case rel => clear hw1 hw2; exact ⟨m + 1, q, by omega, HN.out.1, by go_num, rfl, HN.out.2⟩
          case measure => clear hw1 hw2; have := Hlt.out; simp [intOf]; omega
        · have hyl : ¬ ((md z m : Nat) : Int) ≤ (r : Int) := by omega
          have HI := hide (isDay_at Ht.out.1 Ht.out.2.1 Ht.out.2.2 hz Hk.out hr hm1 hm2 (by omega))
          have hr3 : r ≤ 400 := by have := md_le z m; omega
          have hw1 : wrap64 ((r : Int) + 1) = ((r + 1 : Nat) : Int) := by unfold wrap64; omega
          generalize md z m = P at *
          generalize r + 1 = r1 at *
          clear hr hle hr3
          go_wp2_with (go_at_call 109; refine HM.out.mono ?_; rintro e w1 ⟨rfl, hw⟩; obtain rfl := hw.symm)
          (try simp only [Exit.inBlock, Exit.then]); refine bodyPost_ret (results_tmp4 rfl _ _ _) rfl ?_
          exact ⟨z, m, r1, s, by rw [← hw1]; rfl, HI.out, Ext.refl _⟩

theorem implDayOf_no (t : Int) (h : ¬ inT t) (w : World) : Calls Tryz.prog 105 #[.int .i64 t] w fun e w' => e = .returned (.tuple #[.int .i64 0, .int .i64 0, .int .i64 0, .int .i64 0]) ∧ w' = w := by
  have HO := hide (isTime_any t w)
  rw [decide_eq_false h] at HO
  clear h
  go_enter Tryz.func105, Tryz.ntmps105
  go_wp2_with (go_at_call 71; refine HO.out.mono ?_; rintro e w1 ⟨rfl, hw⟩; obtain rfl := hw.symm)
  (try simp only [Exit.inBlock, Exit.then]); refine bodyPost_ret (results_tmp4 rfl _ _ _) rfl ?_
  exact ⟨rfl, rfl⟩

set_option maxHeartbeats 1600000 in
set_option maxRecDepth 100000 in
theorem specDayOf_yes (t : Int) (h : inT t) (w : World) : Calls Tryz.prog 84 #[.int .i64 t] w fun e w' => GivesDay t w e w' := by
  obtain ⟨T, D, s, ht, hD, hs, e1, e2, e3, e4, D1, D2, S1, S2⟩ := day_parts h
  have HO := hide (l9Ok_any t w)
  rw [decide_eq_true h] at HO
  have Ht := hide (And.intro ht (And.intro hD hs))
  clear h ht hD hs
  go_enter Tryz.func84, Tryz.ntmps84
  go_wp2_with (go_at_call 37; refine HO.out.mono ?_; rintro e w1 ⟨rfl, hw⟩; obtain rfl := hw.symm)
  clear e1 e2 e3 e4 D1 D2 S1 S2 HO
  go_loop [6, 8] (fun dv yv => ∃ z k : Nat, 1950 ≤ z ∧ z ≤ 2099 ∧ yv = .int .i64 (z : Int) ∧ dv = .int .i64 (k : Int) ∧ k + Yy z = D) (fun dv _ => (intOf dv).toNat)
  case atStart => exact ⟨1950, D, Nat.le_refl _, by omega, rfl, rfl, by have e : Yy 1950 = 0 := rfl; rw [e, Nat.add_zero]⟩
  case round =>
    obtain ⟨z, k, hz, hz2, rfl, rfl, hk⟩ := hrel
    have HY := hide (l9Year_any z (by omega) w)
    have hD := Ht.out.2.1
    by_cases hle : yd z ≤ k
    · have hN := yy_next hz hD hk hle hz2
      have hyl : ((yd z : Nat) : Int) ≤ (k : Int) := by omega
      have hy0 := (yd_le z).1
      generalize yd z = Q at *
      obtain ⟨r, hr⟩ : ∃ r, r = k - Q := ⟨_, rfl⟩
      have hw1 : wrap64 ((k : Int) - (Q : Int)) = (r : Int) := by unfold wrap64; omega
      have hw2 : IntKind.i64.wrap ((k : Int) - (Q : Int)) = (r : Int) := by rw [IntKind.wrap_i64]; omega
      rw [← hr] at hN
      have HN := hide hN
      have Hlt := hide (show r < k by omega)
      clear hN hk hle hr hy0 hD
      go_wp2_with (go_at_call 100; refine HY.out.mono ?_; rintro e w1 ⟨rfl, hw⟩; obtain rfl := hw.symm)
      go_round
      case rel => clear hw1 hw2; exact ⟨z + 1, r, by omega, HN.out.1, by go_num, rfl, HN.out.2⟩
      case measure => clear hw1 hw2; have := Hlt.out; simp [intOf]; omega
    · have hyl : ¬ ((yd z : Nat) : Int) ≤ (k : Int) := by omega
      have Hk := hide hk
      have Hq := hide (show k < yd z by omega)
      have hQ := (yd_le z).2
      clear hk hle
      generalize hQQ : yd z = Q at *
      have HQ := hide hQQ
      clear hQQ
      go_wp2_with (go_at_call 100; refine HY.out.mono ?_; rintro e w1 ⟨rfl, hw⟩; obtain rfl := hw.symm)
      have hb : decide (Q ≤ k) = false := decide_eq_false (by have := Hq.out; omega)
      simp only [hb]
      clear HY hyl hD hb
      go_loopw [6, 9] (fun dv mv wr => ∃ m r : Nat, 1 ≤ m ∧ m ≤ 12 ∧ mv = .int .i64 (m : Int) ∧ dv = .int .i64 (r : Int) ∧ r + Mb z m = k ∧ Ext w wr) (fun dv _ _ => (intOf dv).toNat)
      case atStart => exact ⟨1, k, Nat.le_refl _, by omega, rfl, rfl, by rw [Mb_one]; rfl, Ext.refl _⟩
      case round =>
        obtain ⟨m, r, hm1, hm2, rfl, rfl, hr, hE⟩ := hrel
        have HEx := hide hE
        clear hE
        have HM : Hid (∀ W, Calls Tryz.prog 101 #[.int .i64 (z : Int), .int .i64 (m : Int)] W fun e w' => e = .returned (.int .i64 (md z m : Int)) ∧ Ext W w') := fun W => l9Days_any z m hm1 hm2 W
        by_cases hle : md z m ≤ r
        · have hN := mb_next hm1 hm2 (by have := HQ.out; have := Hq.out; omega) hr hle
          have hyl : ((md z m : Nat) : Int) ≤ (r : Int) := by omega
          have hy0 : 1 ≤ md z m := by
            rcases month_cases hm1 hm2 with rfl | rfl | rfl | rfl | rfl | rfl | rfl | rfl | rfl | rfl | rfl | rfl
            all_goals (unfold md; split <;> simp [mdt])
          generalize md z m = P at *
          obtain ⟨q, hq⟩ : ∃ q, q = r - P := ⟨_, rfl⟩
          have hw1 : wrap64 ((r : Int) - (P : Int)) = (q : Int) := by have := Hq.out; unfold wrap64; omega
          have hw2 : IntKind.i64.wrap ((r : Int) - (P : Int)) = (q : Int) := by have := Hq.out; rw [IntKind.wrap_i64]; omega
          rw [← hq] at hN
          have HN := hide hN
          have Hlt := hide (show q < r by omega)
          clear hN hr hle hq hy0
          go_wp2_with (go_at_call 101; refine (HM.out _).mono ?_; rintro e w1 ⟨rfl, hE1⟩; replace HEx := hide (Ext.trans HEx.out hE1); clear hE1)
          go_roundw
          case rel => clear hw1 hw2; exact ⟨m + 1, q, by omega, HN.out.1, by go_num, rfl, HN.out.2, HEx.out⟩
          case measure => clear hw1 hw2; have := Hlt.out; simp [intOf]; omega
        · have hyl : ¬ ((md z m : Nat) : Int) ≤ (r : Int) := by omega
          have HI := hide (isDay_at Ht.out.1 Ht.out.2.1 Ht.out.2.2 hz Hk.out hr hm1 hm2 (by omega))
          have hr3 : r ≤ 400 := by have := md_le z m; omega
          have hw1 : wrap64 ((r : Int) + 1) = ((r + 1 : Nat) : Int) := by unfold wrap64; omega
          generalize md z m = P at *
          generalize r + 1 = r1 at *
          clear hr hle hr3
          go_wp2_with (go_at_call 101; refine (HM.out _).mono ?_; rintro e w1 ⟨rfl, hE1⟩; replace HEx := hide (Ext.trans HEx.out hE1); clear hE1)
          (try simp only [Exit.inBlock, Exit.then]); refine bodyPost_ret (results_tmp4 rfl _ _ _) rfl ?_
          exact ⟨z, m, r1, s, by rw [← hw1]; rfl, HI.out, HEx.out⟩

theorem specDayOf_no (t : Int) (h : ¬ inT t) (w : World) : Calls Tryz.prog 84 #[.int .i64 t] w fun e w' => e = .returned (.tuple #[.int .i64 0, .int .i64 0, .int .i64 0, .int .i64 0]) ∧ w' = w := by
  have HO := hide (l9Ok_any t w)
  rw [decide_eq_false h] at HO
  clear h
  go_enter Tryz.func84, Tryz.ntmps84
  go_wp2_with (go_at_call 37; refine HO.out.mono ?_; rintro e w1 ⟨rfl, hw⟩; obtain rfl := hw.symm)
  (try simp only [Exit.inBlock, Exit.then]); refine bodyPost_ret (results_tmp4 rfl _ _ _) rfl ?_
  exact ⟨rfl, rfl⟩
end

section
set_option linter.unusedVariables false
set_option linter.unusedSimpArgs false

open Go.RowKit

/-- A digit's byte. -/
def dgtA (b : UInt8) : Prop := 48 ≤ b.toNat ∧ b.toNat ≤ 57

instance (b : UInt8) : Decidable (dgtA b) := inferInstanceAs (Decidable (_ ∧ _))

theorem dec1 {n : Nat} (h : n < 10) : Lib.decDigits n = [UInt8.ofNat (48 + n)] := by
  unfold Lib.decDigits
  rw [dif_pos h]

theorem dec2 {n : Nat} (h : ¬ n < 10) : Lib.decDigits n = Lib.decDigits (n / 10) ++ [UInt8.ofNat (48 + n % 10)] := by
  conv => lhs; unfold Lib.decDigits
  rw [dif_neg h]
end

section
set_option linter.unusedVariables false
set_option linter.unusedSimpArgs false

open Go.RowKit

/-- Two digits. -/
def two (n : Nat) : List UInt8 := [UInt8.ofNat (48 + n / 10 % 10), UInt8.ofNat (48 + n % 10)]

def restL (m d s : Nat) : List UInt8 := two m ++ (two d ++ (two (s / 3600) ++ (two (s / 60 % 60) ++ (two (s % 60) ++ [90]))))

def longL (y m d s : Nat) : List UInt8 := two (y / 100) ++ (two y ++ restL m d s)

def shortL (y m d s : Nat) : List UInt8 := two y ++ restL m d s

theorem dec_two {n p : Nat} (hn : 1 ≤ n) (hp : p < 100) : Lib.decDigits (100 * n + p) = Lib.decDigits n ++ two p := by
  have e1 : (100 * n + p) / 10 / 10 = n := by omega
  have e2 : (100 * n + p) / 10 % 10 = p / 10 % 10 := by omega
  have e3 : (100 * n + p) % 10 = p % 10 := by omega
  rw [dec2 (by omega), dec2 (n := (100 * n + p) / 10) (by omega), e1, e2, e3, List.append_assoc]
  rfl

theorem two_mod (n : Nat) : two (n % 100) = two n := by
  unfold two
  rw [show n % 100 / 10 % 10 = n / 10 % 10 by omega, show n % 100 % 10 = n % 10 by omega]

theorem dec_year {y : Nat} (h0 : 1000 ≤ y) (h1 : y ≤ 9999) : Lib.decDigits y = two (y / 100) ++ two y := by
  have e : y = 100 * (y / 100) + y % 100 := by omega
  conv => lhs; rw [e]
  rw [dec_two (by omega) (by omega), two_mod, dec2 (n := y / 100) (by omega), dec1 (by omega)]
  unfold two
  rw [show y / 100 / 10 % 10 = y / 100 / 10 by omega]
  rfl

/-- The number that a time's text spells. -/
def numT (y m d h mi s : Nat) : Nat := 100 * (100 * (100 * (100 * (100 * y + m) + d) + h) + mi) + s

theorem dec_num {y m d s : Nat} (hy : 1950 ≤ y) (hy1 : y ≤ 2099) (hm : m ≤ 12) (hd : d ≤ 31) (hs : s < 86400) : Lib.decDigits (numT y m d (s / 3600) (s % 3600 / 60) (s % 60)) ++ [90] = longL y m d s := by
  unfold numT
  rw [dec_two (by omega) (by omega), dec_two (by omega) (by omega), dec_two (by omega) (by omega), dec_two (by omega) (by omega), dec_two (by omega) (by omega), dec_year (by omega) (by omega), show s % 3600 / 60 = s / 60 % 60 by omega]
  unfold longL restL
  simp only [List.append_assoc]

/-- Texts as strings. -/
def longB (y m d s : Nat) : ByteArray := ⟨(longL y m d s).toArray⟩

def shortB (y m d s : Nat) : ByteArray := ⟨(shortL y m d s).toArray⟩

/-- The number of two digits. -/
def v2 (a b : UInt8) : Nat := 10 * (a.toNat - 48) + (b.toNat - 48)
end

section
set_option linter.unusedVariables false
set_option linter.unusedSimpArgs false

open Go.RowKit Go.Sort

/-- The library's table of powers lies in its variable. -/
def TabP (w : World) : Prop := Lib.TabIs Tryz.prog w "internal/strconv.uint64pow10" .u64 Lib.pow10Tab

theorem TabP.ext {w w' : World} (h : TabP w) (e : Ext w w') : TabP w' := Lib.tabBelow_of_tabIs h w' e

theorem add_rule {x y R : ByteArray} (h : R = x ++ y) (hs : x.size + y.size ≤ 1000) : ∀ W, (Op.stringOp .add x y).run Tryz.prog W = .ok (.string R) W := fun W => by rw [h]; exact run_string_add_sum W x y (by omega)

theorem ba_app (a b : List UInt8) : (⟨a.toArray⟩ : ByteArray) ++ (⟨b.toArray⟩ : ByteArray) = ⟨(a ++ b).toArray⟩ := by
  apply ByteArray.ext
  simp [ByteArray.data_append]

theorem itoa_any (n : Nat) (hn : n ≤ 9223372036854775807) (w : World) (hT : TabP w) : Calls Tryz.prog 106 #[.int .i64 (n : Int)] w fun e w' => e = .returned (.string ⟨(Lib.decDigits n).toArray⟩) ∧ Ext w w' := by
  refine (Tryz.strconv_Itoa (n : Int) (by omega) (by omega) w hT).mono ?_
  rintro e w' ⟨rfl, k, os, rfl⟩
  refine ⟨?_, rfl, rfl, rfl, by simp [grow], fun i hi => Array.getElem?_append_left hi⟩
  have : ¬ ((n : Int) < 0) := by omega
  unfold Lib.itoa
  rw [if_neg this, Int.toNat_natCast]

/-- What LongTime answers. -/
def GivesLong (t : Int) (w : World) (e : Ending) (w' : World) : Prop := ∃ y m d s : Nat, e = .returned (.tuple #[.string (longB y m d s), .bool true]) ∧ IsDay t y m d s ∧ Ext w w'

theorem s_parts {s : Nat} (h : s < 86400) : ∃ h r mi se : Nat, h = s / 3600 ∧ mi = s % 3600 / 60 ∧ se = s % 60 ∧ h ≤ 23 ∧ r < 3600 ∧ mi ≤ 59 ∧ se ≤ 59 ∧ Int.tdiv (s : Int) 3600 = (h : Int) ∧ Int.tmod (s : Int) 3600 = (r : Int) ∧ Int.tdiv (r : Int) 60 = (mi : Int) ∧ Int.tmod (s : Int) 60 = (se : Int) := by
  refine ⟨s / 3600, s % 3600, s % 3600 / 60, s % 60, rfl, rfl, rfl, by omega, by omega, by omega, by omega, ?_, ?_, ?_, ?_⟩
  · rw [Int.tdiv_eq_ediv_of_nonneg (by omega)]; omega
  · rw [Int.tmod_eq_emod_of_nonneg (by omega)]; omega
  · rw [Int.tdiv_eq_ediv_of_nonneg (by omega)]; omega
  · rw [Int.tmod_eq_emod_of_nonneg (by omega)]; omega

theorem w_small {n : Nat} (h : n ≤ 100000000000000) : wrap64 (n : Int) = n ∧ IntKind.i64.wrap (n : Int) = n := by
  refine ⟨by unfold wrap64; omega, by rw [IntKind.wrap_i64]; omega⟩

/-- The number when k parts are in it. -/
def nn (F : Nat → Nat) (y : Nat) : Nat → Nat
  | 0 => y
  | k + 1 => 100 * nn F y k + F k

theorem nn_le {F : Nat → Nat} {y : Nat} (hy : y ≤ 2099) (hF : ∀ i, F i ≤ 99) (k : Nat) : nn F y k + 1 ≤ 2100 * 100 ^ k := by
  induction k with
  | zero => simp [nn]; omega
  | succ k ih =>
    have := hF k
    rw [nn, Nat.pow_succ, ← Nat.mul_assoc]
    omega

theorem nn_lt {F : Nat → Nat} {y : Nat} (hy : y ≤ 2099) (hF : ∀ i, F i ≤ 99) {k : Nat} (hk : k ≤ 5) : nn F y k ≤ 21000000000000 := by
  have h1 := nn_le hy hF k
  have h2 : 100 ^ k ≤ 100 ^ 5 := Nat.pow_le_pow_right (by omega) hk
  have h3 : (100 : Nat) ^ 5 = 10000000000 := by decide
  rw [h3] at h2
  omega

def prt (m d h mi se : Nat) : Nat → Nat
  | 0 => m | 1 => d | 2 => h | 3 => mi | 4 => se | _ => 0

theorem n_step {n p : Nat} (h : n ≤ 21000000000000) (hp : p ≤ 99) : wrap64 (100 * (n : Int)) = ((100 * n : Nat) : Int) ∧ wrap64 (((100 * n : Nat) : Int) + (p : Int)) = ((100 * n + p : Nat) : Int) := by
  refine ⟨by unfold wrap64; omega, by unfold wrap64; omega⟩

theorem long_add {y m d s N5 : Nat} (h : DayOk y m d) (hs : s < 86400) (hN : N5 = numT y m d (s / 3600) (s % 3600 / 60) (s % 60)) : ∀ W, (Op.stringOp .add (⟨(Lib.decDigits N5).toArray⟩ : ByteArray) (⟨#[90]⟩ : ByteArray)).run Tryz.prog W = .ok (.string (longB y m d s)) W := by
  obtain ⟨y0, y1, m0, m1, d0, d1⟩ := tm_bounds h
  have HL : (⟨(Lib.decDigits N5).toArray⟩ : ByteArray) ++ (⟨#[90]⟩ : ByteArray) = longB y m d s := by
    rw [hN, show (⟨#[90]⟩ : ByteArray) = ⟨([90] : List UInt8).toArray⟩ from rfl, ba_app, dec_num y0 y1 m1 d1 hs]
    rfl
  refine add_rule HL.symm ?_
  have := congrArg ByteArray.size HL
  rw [ByteArray.size_append] at this
  have e2 : (longB y m d s).size = 15 := rfl
  omega

theorem ix5_0 (x0 x1 x2 x3 x4 : Int) (w : World) : (Instr.index 119 (.agg #[.int .i64 x0, .int .i64 x1, .int .i64 x2, .int .i64 x3, .int .i64 x4]) (.int .i64 0)).run Tryz.prog w = .ok (.int .i64 x0) w := by kernel_rfl

theorem ix5_1 (x0 x1 x2 x3 x4 : Int) (w : World) : (Instr.index 119 (.agg #[.int .i64 x0, .int .i64 x1, .int .i64 x2, .int .i64 x3, .int .i64 x4]) (.int .i64 1)).run Tryz.prog w = .ok (.int .i64 x1) w := by kernel_rfl

theorem ix5_2 (x0 x1 x2 x3 x4 : Int) (w : World) : (Instr.index 119 (.agg #[.int .i64 x0, .int .i64 x1, .int .i64 x2, .int .i64 x3, .int .i64 x4]) (.int .i64 2)).run Tryz.prog w = .ok (.int .i64 x2) w := by kernel_rfl

theorem ix5_3 (x0 x1 x2 x3 x4 : Int) (w : World) : (Instr.index 119 (.agg #[.int .i64 x0, .int .i64 x1, .int .i64 x2, .int .i64 x3, .int .i64 x4]) (.int .i64 3)).run Tryz.prog w = .ok (.int .i64 x3) w := by kernel_rfl

theorem ix5_4 (x0 x1 x2 x3 x4 : Int) (w : World) : (Instr.index 119 (.agg #[.int .i64 x0, .int .i64 x1, .int .i64 x2, .int .i64 x3, .int .i64 x4]) (.int .i64 4)).run Tryz.prog w = .ok (.int .i64 x4) w := by kernel_rfl

theorem ix5 (m d h mi se : Nat) (k : Nat) (hk : k < 5) (w : World) : (Instr.index 119 (.agg #[.int .i64 (m : Int), .int .i64 (d : Int), .int .i64 (h : Int), .int .i64 (mi : Int), .int .i64 (se : Int)]) (.int .i64 (k : Int))).run Tryz.prog w = .ok (.int .i64 (prt m d h mi se k : Int)) w := by
  have : k = 0 ∨ k = 1 ∨ k = 2 ∨ k = 3 ∨ k = 4 := by omega
  rcases this with rfl | rfl | rfl | rfl | rfl
  · exact ix5_0 _ _ _ _ _ w
  · exact ix5_1 _ _ _ _ _ w
  · exact ix5_2 _ _ _ _ _ w
  · exact ix5_3 _ _ _ _ _ w
  · exact ix5_4 _ _ _ _ _ w

set_option maxHeartbeats 1600000 in
set_option maxRecDepth 100000 in
theorem implLong_yes (t : Int) (h : inT t) (w : World) (hT : MTab w) (hP : TabP w) : Calls Tryz.prog 99 #[.int .i64 t] w fun e w' => GivesLong t w e w' := by
  have HO := hide (isTime_any t w)
  rw [decide_eq_true h] at HO
  have HD := hide (implDayOf_yes t h w hT)
  have HP := hide hP
  clear h hT hP
  go_enter Tryz.func99, Tryz.ntmps99
  go_wp2_with (first | (go_at_call 71; refine HO.out.mono ?_; rintro e w1 ⟨rfl, hw⟩; obtain rfl := hw.symm) | (go_at_call 105; fail))
  refine HD.out.mono ?_
  rintro e w1 ⟨y, m, d, s, rfl, hI, hE⟩
  have HI := hide hI
  have HE := hide hE
  obtain ⟨hh, r, mi, se, a1, a2, a3, b1, b2, b3, b4, c1, c2, c3, c4⟩ := s_parts hI.s1
  have HC := hide (And.intro c1 (And.intro c2 (And.intro c3 c4)))
  clear c1 c2 c3 c4
  have HW := hide (And.intro (w_small (n := hh) (by omega)) (And.intro (w_small (n := r) (by omega)) (And.intro (w_small (n := mi) (by omega)) (w_small (n := se) (by omega)))))
  have HF : Hid (∀ i, prt m d hh mi se i ≤ 99) := fun i => by
    have := hI.m1
    have := Nat.le_trans hI.d1 (md_le y m)
    unfold prt; split <;> omega
  have Hle : Hid (∀ k, k ≤ 5 → nn (prt m d hh mi se) y k ≤ 21000000000000) := fun k hk => nn_lt hI.y1 HF.out hk
  have hN : nn (prt m d hh mi se) y 5 = numT y m d (s / 3600) (s % 3600 / 60) (s % 60) := by rw [← a1, ← a2, ← a3]; rfl
  have HIt := hide (itoa_any (nn (prt m d hh mi se) y 5) (by have := Hle.out 5 (by omega); omega) w1 (HP.out.ext hE))
  have hadd := long_add hI.toDayOk hI.s1 hN
  have HS : Hid (∀ k, nn (prt m d hh mi se) y (k + 1) = 100 * nn (prt m d hh mi se) y k + prt m d hh mi se k) := fun k => rfl
  have H0 : Hid (nn (prt m d hh mi se) y 0 = y) := rfl
  have HX : Hid (∀ k : Nat, k < 5 → ∀ W, (Instr.index 119 (.agg #[.int .i64 (m : Int), .int .i64 (d : Int), .int .i64 (hh : Int), .int .i64 (mi : Int), .int .i64 (se : Int)]) (.int .i64 (k : Int))).run Tryz.prog W = .ok (.int .i64 (prt m d hh mi se k : Int)) W) := fun k hk W => ix5 m d hh mi se k hk W
  generalize (⟨(Lib.decDigits (nn (prt m d hh mi se) y 5)).toArray⟩ : ByteArray) = SN at *
  generalize hLL : longB y m d s = L at *
  have HLL := hide hLL
  generalize prt m d hh mi se = F at *
  generalize nn F y = NN at *
  clear HP hI hE hN hLL a1 a2 a3 b1 b2 b3 b4
  obtain ⟨c1, c2, c3, c4⟩ := HC.out
  obtain ⟨⟨p1, q1⟩, ⟨p2, q2⟩, ⟨p3, q3⟩, ⟨p4, q4⟩⟩ := HW.out
  clear HC HW
  go_wp2
  clear c1 c2 c3 c4 p1 q1 p2 q2 p3 q3 p4 q4
  go_loop [11, 38] (fun nv iv => ∃ k : Nat, k ≤ 5 ∧ iv = .int .i64 (k : Int) ∧ nv = .int .i64 (NN k : Int)) (fun _ iv => 5 - (intOf iv).toNat)
  case atStart => exact ⟨0, by omega, rfl, by rw [H0.out]⟩
  case round =>
    obtain ⟨k, hk, rfl, rfl⟩ := hrel
    by_cases hlt : k < 5
    · have hix := HX.out k hlt
      have hl5 : (k : Int) < 5 := by omega
      have hs := HS.out k
      obtain ⟨e1, e2⟩ := n_step (Hle.out k hk) (HF.out k)
      rw [← hs] at e2
      clear hs
      generalize hA : 100 * NN k = A at *
      generalize hB : NN (k + 1) = B at *
      have HB := hide hB
      clear hA hB
      generalize NN k = C at *
      generalize F k = f at *
      go_wp2
      go_round
      case rel => exact ⟨k + 1, hlt, by clear e1 e2; go_num, (by rw [HB.out, ← e2])⟩
      case measure => clear e1 e2; simp [intOf]; omega
    · obtain rfl : k = 5 := by omega
      generalize NN 5 = N5 at *
      go_wp2_with (go_at_call 106; refine HIt.out.mono ?_; rintro e w2 ⟨rfl, hE2⟩; have HE2 := hide hE2; clear hE2)
      go_ret2
      exact ⟨y, m, d, s, (by rw [HLL.out]; rfl), HI.out, Ext.trans HE.out HE2.out⟩

theorem implLong_no (t : Int) (h : ¬ inT t) (w : World) : Calls Tryz.prog 99 #[.int .i64 t] w fun e w' => e = .returned (.tuple #[.string ⟨#[]⟩, .bool false]) ∧ w' = w := by
  have HO := hide (isTime_any t w)
  rw [decide_eq_false h] at HO
  clear h
  go_enter Tryz.func99, Tryz.ntmps99
  go_wp2_with (go_at_call 71; refine HO.out.mono ?_; rintro e w1 ⟨rfl, hw⟩; obtain rfl := hw.symm)
  go_ret2
  exact ⟨rfl, rfl⟩

theorem IsDay.short {t : Int} {y m d s : Nat} (h : IsDay t y m d s) : y ≤ 2049 ↔ t ≤ 2524607999 := by
  have hs := h.s1
  have ht := h.t1
  obtain ⟨a1, a2, -, -⟩ := h.toDayOk.lt
  have y0 := h.y0
  unfold tmV at ht
  constructor
  · intro hy
    have := Yd_mono (k := y - 1950) (n := 100) (by omega)
    have e : Yd 100 = 36525 := rfl
    omega
  · intro hle
    by_cases hy : y ≤ 2049
    · exact hy
    · have := Yd_mono (k := 99) (n := y - 1950) (by omega)
      have e : Yd (99 + 1) = 36525 := rfl
      omega

def GivesShort (t : Int) (w : World) (e : Ending) (w' : World) : Prop := ∃ y m d s : Nat, e = .returned (.tuple #[.string (shortB y m d s), .bool true]) ∧ IsDay t y m d s ∧ Ext w w'

theorem long_cut (y m d s : Nat) : (longB y m d s).extract 2 15 = shortB y m d s := by
  apply ByteArray.ext
  rw [ByteArray.data_extract]
  show (longL y m d s).toArray.extract 2 15 = (shortL y m d s).toArray
  rw [List.extract_toArray]
  rfl

set_option maxHeartbeats 800000 in
theorem implShort_yes (t : Int) (h : inT t) (h2 : t ≤ 2524607999) (w : World) (hT : MTab w) (hP : TabP w) : Calls Tryz.prog 98 #[.int .i64 t] w fun e w' => GivesShort t w e w' := by
  have HD : Hid (∀ W, Ext w W → Calls Tryz.prog 105 #[.int .i64 t] W fun e w' => GivesDay t W e w') := fun W k => implDayOf_yes t h W (hT.ext k)
  have HL := hide (implLong_yes t h w hT hP)
  have H2 := hide h2
  clear h hT hP h2
  go_enter Tryz.func98, Tryz.ntmps98
  go_wp2_with fail
  refine HL.out.mono ?_
  rintro e w1 ⟨y, m, d, s, rfl, hI, hE⟩
  have HE := hide hE
  have HI := hide hI
  clear hI hE
  have hz : (longB y m d s).size = 15 := rfl
  have hx := long_cut y m d s
  generalize longB y m d s = L at *
  generalize hS : shortB y m d s = S at *
  have HS := hide hS
  clear hS
  go_wp2_with fail
  refine (HD.out _ HE.out).mono ?_
  rintro e w2 ⟨y2, m2, d2, s2, rfl, hI2, hE2⟩
  obtain ⟨hy, hm, hd, hs⟩ := HI.out.unique hI2
  subst hy hm hd hs
  have hle : ¬ (2049 : Int) < (y : Int) := by have := HI.out.short.2 H2.out; omega
  replace HE := hide (Ext.trans HE.out hE2)
  clear hI2 hE2
  go_wp2
  go_ret2
  exact ⟨y, m, d, s, (by rw [HS.out]; rfl), HI.out, HE.out⟩

set_option maxHeartbeats 800000 in
theorem implShort_no (t : Int) (h : ¬ (inT t ∧ t ≤ 2524607999)) (w : World) (hT : MTab w) (hP : TabP w) : Calls Tryz.prog 98 #[.int .i64 t] w fun e w' => e = .returned (.tuple #[.string ⟨#[]⟩, .bool false]) ∧ Ext w w' := by
  by_cases hi : inT t
  · have h2 : ¬ t ≤ 2524607999 := fun x => h ⟨hi, x⟩
    have HD : Hid (∀ W, Ext w W → Calls Tryz.prog 105 #[.int .i64 t] W fun e w' => GivesDay t W e w') := fun W k => implDayOf_yes t hi W (hT.ext k)
    have HL := hide (implLong_yes t hi w hT hP)
    have H2 := hide h2
    clear h hi hT hP h2
    go_enter Tryz.func98, Tryz.ntmps98
    go_wp2_with fail
    refine HL.out.mono ?_
    rintro e w1 ⟨y, m, d, s, rfl, hI, hE⟩
    have HE := hide hE
    have HI := hide hI
    clear hI hE
    generalize longB y m d s = L at *
    go_wp2_with fail
    refine (HD.out _ HE.out).mono ?_
    rintro e w2 ⟨y2, m2, d2, s2, rfl, hI2, hE2⟩
    have hle : (2049 : Int) < (y2 : Int) := by
      have := H2.out
      have h3 := hI2.short
      omega
    replace HE := hide (Ext.trans HE.out hE2)
    clear hI2 hE2
    go_wp2
    go_ret2
    exact ⟨rfl, HE.out⟩
  · have HL := hide (implLong_no t hi w)
    have HD := hide (implDayOf_no t hi w)
    clear h hi hT hP
    go_enter Tryz.func98, Tryz.ntmps98
    go_wp2_with fail
    refine HL.out.mono ?_
    rintro e w1 ⟨rfl, hw⟩
    obtain rfl := hw.symm
    go_wp2_with fail
    refine HD.out.mono ?_
    rintro e w1 ⟨rfl, hw⟩
    obtain rfl := hw.symm
    go_wp2
    go_ret2
    exact ⟨rfl, Ext.refl _⟩

/-! The model's texts. -/

theorem bseg_new2 (w : World) (x y : Int) : BSeg (w.alloc (.cells #[.int .u8 x, .int .u8 y] 5)) (some ⟨w.heap.size, 0, none⟩) w.heap.size 0 2 (fun i => if i = 0 then x else y) :=
  ⟨fun _ => rfl, fun i hi => by
    have : i = 0 ∨ i = 1 := by omega
    rcases this with rfl | rfl
    · exact (Blk.alloc w [.int .u8 x, .int .u8 y] 5 0 _ rfl).1
    · exact (Blk.alloc w [.int .u8 x, .int .u8 y] 5 1 _ rfl).1⟩

def twoB (n : Nat) : ByteArray := ⟨(two n).toArray⟩

theorem two_str (a b : Nat) : strOfNums (nums (fun i => if i = 0 then 48 + (a : Int) else 48 + (b : Int)) 2) = ⟨([UInt8.ofNat (48 + a), UInt8.ofNat (48 + b)] : List UInt8).toArray⟩ := by
  have e : (48 + (a : Int)).toNat = 48 + a := by omega
  have e' : (48 + (b : Int)).toNat = 48 + b := by omega
  show (⟨([UInt8.ofNat (48 + (a : Int)).toNat, UInt8.ofNat (48 + (b : Int)).toNat] : List UInt8).toArray⟩ : ByteArray) = _
  rw [e, e']

theorem two_nums {n : Nat} : ∃ q a b : Nat, a = n / 10 % 10 ∧ b = n % 10 ∧ Int.tdiv (n : Int) 10 = (q : Int) ∧ Int.tmod (q : Int) 10 = (a : Int) ∧ Int.tmod (n : Int) 10 = (b : Int) ∧ q = n / 10 := by
  refine ⟨n / 10, n / 10 % 10, n % 10, rfl, rfl, ?_, ?_, ?_, rfl⟩
  · rw [Int.tdiv_eq_ediv_of_nonneg (by omega)]; omega
  · rw [Int.tmod_eq_emod_of_nonneg (by omega)]; omega
  · rw [Int.tmod_eq_emod_of_nonneg (by omega)]; omega

theorem dig_wraps {k : Nat} (hk : k ≤ 10) : wrap64 (48 + (k : Int)) = 48 + k ∧ IntKind.i64.wrap (48 + (k : Int)) = 48 + k ∧ IntKind.u8.wrap (48 + (k : Int)) = 48 + k := by
  refine ⟨by unfold wrap64; omega, by rw [IntKind.wrap_i64]; omega, by rw [IntKind.wrap_u8]; omega⟩

set_option maxHeartbeats 800000 in
theorem l9Two_any (n : Nat) (hn : n ≤ 3000) (w : World) : Calls Tryz.prog 85 #[.int .i64 (n : Int)] w fun e w' => e = .returned (.string (twoB n)) ∧ Ext w w' := by
  obtain ⟨q, a, b, ha, hb, c1, c2, c3, hq⟩ := two_nums (n := n)
  have HR : Hid (strOfNums (nums (fun i => if i = 0 then 48 + (a : Int) else 48 + (b : Int)) 2) = twoB n) := by
    show _ = _
    rw [two_str, ha, hb]
    rfl
  have HW := hide (And.intro (dig_wraps (k := a) (by omega)) (And.intro (dig_wraps (k := b) (by omega)) (And.intro (w_small (n := q) (by omega)) (And.intro (w_small (n := a) (by omega)) (w_small (n := b) (by omega))))))
  clear ha hb hq
  obtain ⟨⟨e1, e2, e3⟩, ⟨f1, f2, f3⟩, ⟨g1, g2⟩, ⟨k1, k2⟩, ⟨l1, l2⟩⟩ := HW.out
  have hcv := conv_seg (cap := 2) (bseg_new2 w (48 + (a : Int)) (48 + (b : Int)))
  rw [HR.out] at hcv
  generalize twoB n = T at *
  clear HW HR
  go_enter Tryz.func85, Tryz.ntmps85
  go_wp2
  go_ret
  exact ⟨rfl, Ext.alloc _ _⟩
end

end Go.Proofs.YtgdjaapjdmancaaGreatDoor
