/- Walks: days of months and years; whether a day is one. -/
import Derived.Lib.LaidTab
import Derived.Lib.AppendIntMem
import Derived.Test.YtkogbinfhoiggaaGreatDoorCx32
namespace Go.Proofs.YtkogbinfhoiggaaGreatDoor
set_option linter.unusedVariables false
set_option linter.unusedSimpArgs false
open Go.RowKit
def MTab (w : World) : Prop := Lib.TabIs Tryz.prog w "loop.example/g00148/impl.monthDays" .i64 mTab
theorem MTab.ext {w w' : World} (h : MTab w) (e : Ext w w') : MTab w' := Lib.tabBelow_of_tabIs h w' e
theorem MTab.cell {w : World} (h : MTab w) {m k : Nat} (hk : m = k + 1) (hm : m ≤ 12) : w.cell? ⟨1, k, none⟩ = some (.int .i64 (mdt m : Int)) := by
 have hl : k < mTab.length := by show k < 12; omega
 rw [Lib.TabIs.cell h (by kernel_rfl) k hl]
 subst hk
 rcases month_cases (m := k + 1) (by omega) hm with e | e | e | e | e | e | e | e | e | e | e | e
 all_goals
  obtain rfl := Nat.succ.inj e
  rfl
theorem isLong_any (y : Nat) (hy : y ≤ 3000) (w : World) : Calls Tryz.prog 164 #[.int .i64 (y : Int)] w fun e w' => e = .returned (.bool (decide (y % 4 = 0))) ∧ w' = w := by
 have q : Int.tmod (y : Int) 4 = ((y % 4 : Nat) : Int) := by rw [Int.tmod_eq_emod_of_nonneg (by omega)]; omega
 have hr : y % 4 < 4 := Nat.mod_lt _ (by omega)
 generalize y % 4 = r at *
 have v : IntKind.i64.wrap (r : Int) = r := by rw [IntKind.wrap_i64]; omega
 have v' : wrap64 (r : Int) = r := by unfold wrap64; omega
 cases hd : decide (r = 0)
 ·have h0 : ((r : Int) == 0) = false := by simp at hd; simp; omega
  go_enter Tryz.func164, Tryz.ntmps164
  go_wp2
  go_ret
  exact ⟨rfl, rfl⟩
 ·have h0 : ((r : Int) == 0) = true := by simp at hd; simp; omega
  go_enter Tryz.func164, Tryz.ntmps164
  go_wp2
  go_ret
  exact ⟨rfl, rfl⟩
theorem daysOfYear_any (y : Nat) (hy : y ≤ 3000) (w : World) : Calls Tryz.prog 158 #[.int .i64 (y : Int)] w fun e w' => e = .returned (.int .i64 (yd y : Int)) ∧ w' = w := by
 have H := hide (isLong_any y hy w)
 by_cases h : y % 4 = 0
 ·have e : yd y = 366 := by unfold yd; rw [if_pos h]
  rw [decide_eq_true h] at H
  rw [e]
  clear h
  go_enter Tryz.func158, Tryz.ntmps158
  go_wp2_with (go_at_call 164; refine H.out.mono ?_; rintro e w1 ⟨rfl, hw⟩; obtain rfl := hw.symm)
  go_ret
  exact ⟨rfl, rfl⟩
 ·have e : yd y = 365 := by unfold yd; rw [if_neg h]
  rw [decide_eq_false h] at H
  rw [e]
  clear h
  go_enter Tryz.func158, Tryz.ntmps158
  go_wp2_with (go_at_call 164; refine H.out.mono ?_; rintro e w1 ⟨rfl, hw⟩; obtain rfl := hw.symm)
  go_ret
  exact ⟨rfl, rfl⟩
theorem l9Year_any (y : Nat) (hy : y ≤ 3000) (w : World) : Calls Tryz.prog 67 #[.int .i64 (y : Int)] w fun e w' => e = .returned (.int .i64 (yd y : Int)) ∧ w' = w := by
 have q : Int.tmod (y : Int) 4 = ((y % 4 : Nat) : Int) := by rw [Int.tmod_eq_emod_of_nonneg (by omega)]; omega
 have hr : y % 4 < 4 := Nat.mod_lt _ (by omega)
 have hyd : yd y = if y % 4 = 0 then 366 else 365 := rfl
 generalize yd y = Y at *
 generalize y % 4 = r at *
 have v : IntKind.i64.wrap (r : Int) = r := by rw [IntKind.wrap_i64]; omega
 have v' : wrap64 (r : Int) = r := by unfold wrap64; omega
 by_cases hd : r = 0
 ·rw [if_pos hd] at hyd
  subst hyd
  have h0 : ((r : Int) == 0) = true := by simp; omega
  clear hd
  go_enter Tryz.func67, Tryz.ntmps67
  go_wp2
  go_ret
  exact ⟨rfl, rfl⟩
 ·rw [if_neg hd] at hyd
  subst hyd
  have h0 : ((r : Int) == 0) = false := by simp; omega
  clear hd
  go_enter Tryz.func67, Tryz.ntmps67
  go_wp2
  go_ret
  exact ⟨rfl, rfl⟩
theorem daysOfMonth_any (y m : Nat) (hy : y ≤ 3000) (h1 : 1 ≤ m) (h2 : m ≤ 12) (w : World) (hT : MTab w) : Calls Tryz.prog 159 #[.int .i64 (y : Int), .int .i64 (m : Int)] w fun e w' => e = .returned (.int .i64 (md y m : Int)) ∧ w' = w := by
 have H := hide (isLong_any y hy w)
 obtain ⟨k, hk⟩ : ∃ k, m = k + 1 := ⟨m - 1, by omega⟩
 have hc := hT.cell hk h2
 have s1 : wrap64 ((m : Int) - 1) = (k : Int) := by unfold wrap64; omega
 have s2 : IntKind.i64.wrap ((m : Int) - 1) = (k : Int) := by rw [IntKind.wrap_i64]; omega
 have hk12 : k < 12 := by omega
 by_cases hm : m = 2
 ·subst hm
  obtain rfl : k = 1 := by omega
  clear s1 s2 hk hk12
  replace hc : w.cell? ⟨1, 1, none⟩ = some (.int .i64 28) := hc
  by_cases h : y % 4 = 0
  ·have e : md y 2 = 29 := by unfold md; rw [if_pos ⟨rfl, h⟩]
   rw [decide_eq_true h] at H
   rw [e]
   clear h
   go_enter Tryz.func159, Tryz.ntmps159
   go_wp2_with (go_at_call 164; refine H.out.mono ?_; rintro e w1 ⟨rfl, hw⟩; obtain rfl := hw.symm)
   go_ret
   exact ⟨rfl, rfl⟩
  ·have e : md y 2 = 28 := by unfold md; rw [if_neg (fun x => h x.2)]; rfl
   rw [decide_eq_false h] at H
   rw [e]
   clear h
   go_enter Tryz.func159, Tryz.ntmps159
   go_wp2_with (go_at_call 164; refine H.out.mono ?_; rintro e w1 ⟨rfl, hw⟩; obtain rfl := hw.symm)
   go_ret
   exact ⟨rfl, rfl⟩
 ·have e : md y m = mdt m := by unfold md; rw [if_neg (fun x => hm x.1)]
  have hb : ((m : Int) == 2) = false := by simp; omega
  rw [e]
  clear hm e hk
  generalize mdt m = D at *
  go_enter Tryz.func159, Tryz.ntmps159
  go_wp2
  go_ret
  exact ⟨rfl, rfl⟩
set_option maxHeartbeats 6400000 in
theorem l9Days_at (y m D : Nat) (w : World) (hD : md y m = D) (r : Nat) (hr : r < 4) (hyr : y % 4 = r) (h1 : 1 ≤ m) (h2 : m ≤ 12) : Calls Tryz.prog 66 #[.int .i64 (y : Int), .int .i64 (m : Int)] w fun e w' => e = .returned (.int .i64 (D : Int)) ∧ Ext w w' := by
 have q : Int.tmod (y : Int) 4 = (r : Int) := by rw [Int.tmod_eq_emod_of_nonneg (by omega)]; omega
 have v : IntKind.i64.wrap (r : Int) = r := by rw [IntKind.wrap_i64]; omega
 have v' : wrap64 (r : Int) = r := by unfold wrap64; omega
 by_cases h0 : r = 0
 ·have hb : ((r : Int) == 0) = true := by simp; omega
  rcases month_cases h1 h2 with rfl | rfl | rfl | rfl | rfl | rfl | rfl | rfl | rfl | rfl | rfl | rfl
  all_goals
   simp [md, mdt, hyr, h0] at hD
   subst hD
   clear h0 hyr h1 h2
   go_enter Tryz.func66, Tryz.ntmps66
   go_wp2
   go_ret
   exact ⟨rfl, Ext.alloc _ _⟩
 ·have hb : ((r : Int) == 0) = false := by simp; omega
  rcases month_cases h1 h2 with rfl | rfl | rfl | rfl | rfl | rfl | rfl | rfl | rfl | rfl | rfl | rfl
  all_goals
   simp [md, mdt, hyr, h0] at hD
   subst hD
   clear h0 hyr h1 h2
   go_enter Tryz.func66, Tryz.ntmps66
   go_wp2
   go_ret
   exact ⟨rfl, Ext.alloc _ _⟩
theorem l9Days_any (y m : Nat) (h1 : 1 ≤ m) (h2 : m ≤ 12) (w : World) : Calls Tryz.prog 66 #[.int .i64 (y : Int), .int .i64 (m : Int)] w fun e w' => e = .returned (.int .i64 (md y m : Int)) ∧ Ext w w' :=
 l9Days_at y m _ w rfl _ (Nat.mod_lt _ (by omega)) rfl h1 h2
def dOk (y m d : Int) : Bool := decide (1950 ≤ y ∧ y ≤ 2099 ∧ 1 ≤ m ∧ m ≤ 12 ∧ 1 ≤ d ∧ d ≤ (md y.toNat m.toNat : Int))
theorem tOk_eq (y m d s : Int) : tOk y m d s = (dOk y m d && decide (0 ≤ s ∧ s < 86400)) := by
 unfold tOk dOk
 rw [← Bool.decide_and]
 apply decide_eq_decide.2
 constructor
 ·rintro ⟨a, b, c, d, e, f, g, h⟩; exact ⟨⟨a, b, c, d, e, f⟩, g, h⟩
 ·rintro ⟨⟨a, b, c, d, e, f⟩, g, h⟩; exact ⟨a, b, c, d, e, f, g, h⟩
set_option maxHeartbeats 800000 in
theorem dayOk_any (y m d : Int) (w : World) (hT : MTab w) : Calls Tryz.prog 157 #[.int .i64 y, .int .i64 m, .int .i64 d] w fun e w' => e = .returned (.bool (dOk y m d)) ∧ w' = w := by
 by_cases hr : 1950 ≤ y ∧ y ≤ 2099 ∧ 1 ≤ m ∧ m ≤ 12
 ·obtain ⟨a, b, c, e⟩ := hr
  obtain ⟨y', hy⟩ := Int.eq_ofNat_of_zero_le (show 0 ≤ y by omega)
  obtain ⟨m', hm⟩ := Int.eq_ofNat_of_zero_le (show 0 ≤ m by omega)
  subst hy hm
  have H := hide (daysOfMonth_any y' m' (by omega) (by omega) (by omega) w hT)
  have hd : dOk y' m' d = (decide (1 ≤ d) && decide (d ≤ (md y' m' : Int))) := by
   unfold dOk
   rw [← Bool.decide_and]
   apply decide_eq_decide.2
   simp only [Int.toNat_natCast]
   constructor
   ·rintro ⟨-, -, -, -, e, f⟩; exact ⟨e, f⟩
   ·rintro ⟨e', f⟩; exact ⟨a, b, c, e, e', f⟩
  rw [hd]
  generalize md y' m' = D at *
  have a' : ¬ (y' : Int) < 1950 := by omega
  have b' : ¬ 2099 < (y' : Int) := by omega
  have c' : ¬ (m' : Int) < 1 := by omega
  have e' : ¬ 12 < (m' : Int) := by omega
  clear hd hT a b c e
  by_cases f : 1 ≤ d
  ·by_cases g : d ≤ (D : Int)
   ·go_enter Tryz.func157, Tryz.ntmps157
    go_wp2_with (go_at_call 159; refine H.out.mono ?_; rintro e w1 ⟨rfl, hw⟩; obtain rfl := hw.symm)
    go_ret
    exact ⟨ret_bool (by simp [f, g]), rfl⟩
   ·go_enter Tryz.func157, Tryz.ntmps157
    go_wp2_with (go_at_call 159; refine H.out.mono ?_; rintro e w1 ⟨rfl, hw⟩; obtain rfl := hw.symm)
    go_ret
    exact ⟨ret_bool (by simp [f, g]), rfl⟩
  ·rw [decide_eq_false f]
   go_enter Tryz.func157, Tryz.ntmps157
   go_wp2
   go_ret
   exact ⟨rfl, rfl⟩
 ·have hd : dOk y m d = false := by
   unfold dOk
   exact decide_eq_false (fun x => hr ⟨x.1, x.2.1, x.2.2.1, x.2.2.2.1⟩)
  rw [hd]
  clear hd hT
  have hq : y < 1950 ∨ (¬ y < 1950 ∧ 2099 < y) ∨ (¬ y < 1950 ∧ ¬ 2099 < y ∧ m < 1) ∨ (¬ y < 1950 ∧ ¬ 2099 < y ∧ ¬ m < 1 ∧ 12 < m) := by omega
  clear hr
  rcases hq with h | ⟨h, h'⟩ | ⟨h, h', h''⟩ | ⟨h, h', h'', h'''⟩
  all_goals
   go_enter Tryz.func157, Tryz.ntmps157
   go_wp2
   go_ret
   exact ⟨rfl, rfl⟩
end Go.Proofs.YtkogbinfhoiggaaGreatDoor
