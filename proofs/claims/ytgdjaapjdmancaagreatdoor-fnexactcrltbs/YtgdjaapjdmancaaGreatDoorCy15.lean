/- Walks: days of months and years; whether a day is one. -/
import Derived.Test.YtgdjaapjdmancaaGreatDoorChecked
import Derived.Lib.LaidTab
import Derived.Lib.AppendIntMem
import Derived.Test.YtgdjaapjdmancaaGreatDoorCy01
import Derived.Test.YtgdjaapjdmancaaGreatDoorCy02
import Derived.Test.YtgdjaapjdmancaaGreatDoorCy03
import Derived.Test.YtgdjaapjdmancaaGreatDoorCy14
namespace Go.Proofs.YtgdjaapjdmancaaGreatDoor

section
set_option linter.unusedVariables false
set_option linter.unusedSimpArgs false

open Go.RowKit

/-- The days of months lie in their variable. -/
def MTab (w : World) : Prop := Lib.TabIs Tryz.prog w "loop.example/g00148/impl.monthDays" .i64 mTab

theorem MTab.ext {w w' : World} (h : MTab w) (e : Ext w w') : MTab w' := Lib.tabBelow_of_tabIs h w' e

theorem MTab.cell {w : World} (h : MTab w) {m k : Nat} (hk : m = k + 1) (hm : m ≤ 12) : w.cell? ⟨0, k, none⟩ = some (.int .i64 (mdt m : Int)) := by
  have hl : k < mTab.length := by show k < 12; omega
  rw [Lib.TabIs.cell h (by kernel_rfl) k hl]
  subst hk
  rcases month_cases (m := k + 1) (by omega) hm with e | e | e | e | e | e | e | e | e | e | e | e
  all_goals
    obtain rfl := Nat.succ.inj e
    rfl

theorem isLong_any (y : Nat) (hy : y ≤ 3000) (w : World) : Calls Tryz.prog 111 #[.int .i64 (y : Int)] w fun e w' => e = .returned (.bool (decide (y % 4 = 0))) ∧ w' = w := by
  have q : Int.tmod (y : Int) 4 = ((y % 4 : Nat) : Int) := by rw [Int.tmod_eq_emod_of_nonneg (by omega)]; omega
  have hr : y % 4 < 4 := Nat.mod_lt _ (by omega)
  generalize y % 4 = r at *
  have v : IntKind.i64.wrap (r : Int) = r := by rw [IntKind.wrap_i64]; omega
  have v' : wrap64 (r : Int) = r := by unfold wrap64; omega
  cases hd : decide (r = 0)
  · have h0 : ((r : Int) == 0) = false := by simp at hd; simp; omega
    go_enter Tryz.func111, Tryz.ntmps111
    go_wp2
    go_ret
    exact ⟨rfl, rfl⟩
  · have h0 : ((r : Int) == 0) = true := by simp at hd; simp; omega
    go_enter Tryz.func111, Tryz.ntmps111
    go_wp2
    go_ret
    exact ⟨rfl, rfl⟩

theorem daysOfYear_any (y : Nat) (hy : y ≤ 3000) (w : World) : Calls Tryz.prog 108 #[.int .i64 (y : Int)] w fun e w' => e = .returned (.int .i64 (yd y : Int)) ∧ w' = w := by
  have H := hide (isLong_any y hy w)
  by_cases h : y % 4 = 0
  · have e : yd y = 366 := by unfold yd; rw [if_pos h]
    rw [decide_eq_true h] at H
    rw [e]
    clear h
    go_enter Tryz.func108, Tryz.ntmps108
    go_wp2_with (go_at_call 111; refine H.out.mono ?_; rintro e w1 ⟨rfl, hw⟩; obtain rfl := hw.symm)
    go_ret
    exact ⟨rfl, rfl⟩
  · have e : yd y = 365 := by unfold yd; rw [if_neg h]
    rw [decide_eq_false h] at H
    rw [e]
    clear h
    go_enter Tryz.func108, Tryz.ntmps108
    go_wp2_with (go_at_call 111; refine H.out.mono ?_; rintro e w1 ⟨rfl, hw⟩; obtain rfl := hw.symm)
    go_ret
    exact ⟨rfl, rfl⟩

theorem l9Year_any (y : Nat) (hy : y ≤ 3000) (w : World) : Calls Tryz.prog 100 #[.int .i64 (y : Int)] w fun e w' => e = .returned (.int .i64 (yd y : Int)) ∧ w' = w := by
  have q : Int.tmod (y : Int) 4 = ((y % 4 : Nat) : Int) := by rw [Int.tmod_eq_emod_of_nonneg (by omega)]; omega
  have hr : y % 4 < 4 := Nat.mod_lt _ (by omega)
  have hyd : yd y = if y % 4 = 0 then 366 else 365 := rfl
  generalize yd y = Y at *
  generalize y % 4 = r at *
  have v : IntKind.i64.wrap (r : Int) = r := by rw [IntKind.wrap_i64]; omega
  have v' : wrap64 (r : Int) = r := by unfold wrap64; omega
  by_cases hd : r = 0
  · rw [if_pos hd] at hyd
    subst hyd
    have h0 : ((r : Int) == 0) = true := by simp; omega
    clear hd
    go_enter Tryz.func100, Tryz.ntmps100
    go_wp2
    go_ret
    exact ⟨rfl, rfl⟩
  · rw [if_neg hd] at hyd
    subst hyd
    have h0 : ((r : Int) == 0) = false := by simp; omega
    clear hd
    go_enter Tryz.func100, Tryz.ntmps100
    go_wp2
    go_ret
    exact ⟨rfl, rfl⟩

theorem daysOfMonth_any (y m : Nat) (hy : y ≤ 3000) (h1 : 1 ≤ m) (h2 : m ≤ 12) (w : World) (hT : MTab w) : Calls Tryz.prog 109 #[.int .i64 (y : Int), .int .i64 (m : Int)] w fun e w' => e = .returned (.int .i64 (md y m : Int)) ∧ w' = w := by
  have H := hide (isLong_any y hy w)
  obtain ⟨k, hk⟩ : ∃ k, m = k + 1 := ⟨m - 1, by omega⟩
  have hc := hT.cell hk h2
  have s1 : wrap64 ((m : Int) - 1) = (k : Int) := by unfold wrap64; omega
  have s2 : IntKind.i64.wrap ((m : Int) - 1) = (k : Int) := by rw [IntKind.wrap_i64]; omega
  have hk12 : k < 12 := by omega
  by_cases hm : m = 2
  · subst hm
    obtain rfl : k = 1 := by omega
    clear s1 s2 hk hk12
    replace hc : w.cell? ⟨0, 1, none⟩ = some (.int .i64 28) := hc
    by_cases h : y % 4 = 0
    · have e : md y 2 = 29 := by unfold md; rw [if_pos ⟨rfl, h⟩]
      rw [decide_eq_true h] at H
      rw [e]
      clear h
      go_enter Tryz.func109, Tryz.ntmps109
      go_wp2_with (go_at_call 111; refine H.out.mono ?_; rintro e w1 ⟨rfl, hw⟩; obtain rfl := hw.symm)
      go_ret
      exact ⟨rfl, rfl⟩
    · have e : md y 2 = 28 := by unfold md; rw [if_neg (fun x => h x.2)]; rfl
      rw [decide_eq_false h] at H
      rw [e]
      clear h
      go_enter Tryz.func109, Tryz.ntmps109
      go_wp2_with (go_at_call 111; refine H.out.mono ?_; rintro e w1 ⟨rfl, hw⟩; obtain rfl := hw.symm)
      go_ret
      exact ⟨rfl, rfl⟩
  · have e : md y m = mdt m := by unfold md; rw [if_neg (fun x => hm x.1)]
    have hb : ((m : Int) == 2) = false := by simp; omega
    rw [e]
    clear hm e hk
    generalize mdt m = D at *
    go_enter Tryz.func109, Tryz.ntmps109
    go_wp2
    go_ret
    exact ⟨rfl, rfl⟩

set_option maxHeartbeats 6400000 in
theorem l9Days_at (y m D : Nat) (w : World) (hD : md y m = D) (r : Nat) (hr : r < 4) (hyr : y % 4 = r) (h1 : 1 ≤ m) (h2 : m ≤ 12) : Calls Tryz.prog 101 #[.int .i64 (y : Int), .int .i64 (m : Int)] w fun e w' => e = .returned (.int .i64 (D : Int)) ∧ Ext w w' := by
  have q : Int.tmod (y : Int) 4 = (r : Int) := by rw [Int.tmod_eq_emod_of_nonneg (by omega)]; omega
  have v : IntKind.i64.wrap (r : Int) = r := by rw [IntKind.wrap_i64]; omega
  have v' : wrap64 (r : Int) = r := by unfold wrap64; omega
  by_cases h0 : r = 0
  · have hb : ((r : Int) == 0) = true := by simp; omega
    rcases month_cases h1 h2 with rfl | rfl | rfl | rfl | rfl | rfl | rfl | rfl | rfl | rfl | rfl | rfl
    all_goals
      simp [md, mdt, hyr, h0] at hD
      subst hD
      clear h0 hyr h1 h2
      go_enter Tryz.func101, Tryz.ntmps101
      go_wp2
      go_ret
      exact ⟨rfl, Ext.alloc _ _⟩
  · have hb : ((r : Int) == 0) = false := by simp; omega
    rcases month_cases h1 h2 with rfl | rfl | rfl | rfl | rfl | rfl | rfl | rfl | rfl | rfl | rfl | rfl
    all_goals
      simp [md, mdt, hyr, h0] at hD
      subst hD
      clear h0 hyr h1 h2
      go_enter Tryz.func101, Tryz.ntmps101
      go_wp2
      go_ret
      exact ⟨rfl, Ext.alloc _ _⟩

theorem l9Days_any (y m : Nat) (h1 : 1 ≤ m) (h2 : m ≤ 12) (w : World) : Calls Tryz.prog 101 #[.int .i64 (y : Int), .int .i64 (m : Int)] w fun e w' => e = .returned (.int .i64 (md y m : Int)) ∧ Ext w w' :=
  l9Days_at y m _ w rfl _ (Nat.mod_lt _ (by omega)) rfl h1 h2
end

end Go.Proofs.YtgdjaapjdmancaaGreatDoor
