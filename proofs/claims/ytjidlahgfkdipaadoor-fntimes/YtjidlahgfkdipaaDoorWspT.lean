/- Walks: Within and Span of both, behind DayOf. -/
import Derived.Test.YtjidlahgfkdipaaDoorTid
namespace Go.Proofs.YtjidlahgfkdipaaDoor
set_option linter.unusedVariables false
set_option linter.unusedSimpArgs false
open Go.RowKit

/-- The answers. -/
def wiB (t a b : Int) : Bool := decide (inT a ∧ inT b ∧ a ≤ t ∧ t ≤ b)
def spV (a b : Int) : Int := if inT a ∧ inT b ∧ a ≤ b then (b - a + 86399) / 86400 else -1
theorem sp_num {a b : Int} (ha : inT a) (hb : inT b) (h : a ≤ b) : wrap64 (b - a) = b - a ∧ wrap64 (b - a + 86400) = b - a + 86400 ∧ wrap64 (b - a + 86400 - 1) = b - a + 86399 ∧ wrap64 (b - a + 86399) = b - a + 86399 ∧ Int.tdiv (b - a + 86399) 86400 = (b - a + 86399) / 86400 ∧ wrap64 ((b - a + 86399) / 86400) = (b - a + 86399) / 86400 := by
  unfold inT at ha hb
  refine ⟨by unfold wrap64; omega, by unfold wrap64; omega, by unfold wrap64; omega, by unfold wrap64; omega, by rw [Int.tdiv_eq_ediv_of_nonneg (by omega)], ?_⟩
  have h1 : 0 ≤ (b - a + 86399) / 86400 := by omega
  have h2 : (b - a + 86399) / 86400 ≤ 10000000000 := by omega
  generalize (b - a + 86399) / 86400 = q at *
  unfold wrap64; omega

set_option maxHeartbeats 800000 in
theorem implWithin_any (t a b : Int) (w : World) : Calls Tryd.prog 23 #[.int .i64 t, .int .i64 a, .int .i64 b] w fun e w' => e = .returned (.bool (wiB t a b)) ∧ w' = w := by
  have H : Hid (∀ x W, Calls Tryd.prog 31 #[.int .i64 x] W fun e w' => e = .returned (.bool (decide (inT x))) ∧ w' = W) := fun x W => isTime_any x W
  have hv : wiB t a b = (decide (inT a) && (decide (inT b) && (decide (a ≤ t) && decide (t ≤ b)))) := by
    unfold wiB
    simp only [Bool.decide_and]
  rw [hv]
  have ht : inT a → inT b → a ≤ t → t ≤ b → inT t := fun h1 h2 h3 h4 => ⟨by have := h1.1; omega, by have := h2.2; omega⟩
  have Ht := hide ht
  clear hv ht
  by_cases h0 : inT t
  all_goals by_cases h1 : inT a
  all_goals by_cases h2 : inT b
  all_goals by_cases h3 : a ≤ t
  all_goals by_cases h4 : t ≤ b
  all_goals
    have hx : inT t ∨ ¬ (inT a ∧ inT b ∧ a ≤ t ∧ t ≤ b) := by
      by_cases k : inT t
      · exact .inl k
      · exact .inr (fun x => k (Ht.out x.1 x.2.1 x.2.2.1 x.2.2.2))
    clear Ht
    simp only [h0, h1, h2, h3, h4, and_self, and_true, true_and, not_true, or_false, false_or, decide_true, decide_false, Bool.true_and, Bool.false_and, Bool.and_false, Bool.and_true] at hx ⊢
    try cases hx
  all_goals
    go_enter Tryd.func23, Tryd.ntmps23
    go_wp2_with (go_at_call 31; refine (H.out _ _).mono ?_; rintro e w1 ⟨rfl, hw⟩; obtain rfl := hw.symm)
    go_ret
    exact ⟨ret_bool (by simp [h0, h1, h2, h3, h4]), rfl⟩

set_option maxHeartbeats 800000 in
theorem implSpan_any (a b : Int) (w : World) : Calls Tryd.prog 22 #[.int .i64 a, .int .i64 b] w fun e w' => e = .returned (.int .i64 (spV a b)) ∧ w' = w := by
  have H : Hid (∀ x W, Calls Tryd.prog 31 #[.int .i64 x] W fun e w' => e = .returned (.bool (decide (inT x))) ∧ w' = W) := fun x W => isTime_any x W
  by_cases h1 : inT a
  · by_cases h2 : inT b
    · by_cases h3 : b < a
      · have hv : spV a b = -1 := by unfold spV; rw [if_neg (fun x => by have := x.2.2; omega)]
        rw [hv]
        clear hv
        go_enter Tryd.func22, Tryd.ntmps22
        go_wp2_with (go_at_call 31; refine (H.out _ _).mono ?_; rintro e w1 ⟨rfl, hw⟩; obtain rfl := hw.symm)
        go_ret
        exact ⟨rfl, rfl⟩
      · have hv : spV a b = (b - a + 86399) / 86400 := by unfold spV; rw [if_pos ⟨h1, h2, by omega⟩]
        rw [hv]
        obtain ⟨e1, e2, e3, e4, e5, e6⟩ := sp_num h1 h2 (by omega)
        clear hv
        generalize (b - a + 86399) / 86400 = V at *
        go_enter Tryd.func22, Tryd.ntmps22
        go_wp2_with (go_at_call 31; refine (H.out _ _).mono ?_; rintro e w1 ⟨rfl, hw⟩; obtain rfl := hw.symm)
        go_ret
        exact ⟨(show Ending.returned (.int .i64 (wrap64 V)) = _ by rw [e6]), rfl⟩
    · have hv : spV a b = -1 := by unfold spV; rw [if_neg (fun x => h2 x.2.1)]
      rw [hv]
      clear hv
      go_enter Tryd.func22, Tryd.ntmps22
      go_wp2_with (go_at_call 31; refine (H.out _ _).mono ?_; rintro e w1 ⟨rfl, hw⟩; obtain rfl := hw.symm)
      go_ret
      exact ⟨rfl, rfl⟩
  · have hv : spV a b = -1 := by unfold spV; rw [if_neg (fun x => h1 x.1)]
    rw [hv]
    clear hv
    go_enter Tryd.func22, Tryd.ntmps22
    go_wp2_with (go_at_call 31; refine (H.out _ _).mono ?_; rintro e w1 ⟨rfl, hw⟩; obtain rfl := hw.symm)
    go_ret
    exact ⟨rfl, rfl⟩

end Go.Proofs.YtjidlahgfkdipaaDoor
