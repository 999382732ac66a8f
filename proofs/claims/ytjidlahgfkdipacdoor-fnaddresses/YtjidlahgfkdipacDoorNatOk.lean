/- Walks: l1In and the two NatOk, each the plain test 'natOk', whatever slice of ints is handed in; nothing is written. -/
import Derived.Test.YtjidlahgfkdipacDoorChecked
import Derived.Test.YtjidlahgfkdipacDoorBase
namespace Go.Proofs.YtjidlahgfkdipacDoor
set_option linter.unusedVariables false
open Go.RowKit

theorem l1In_any (x lo hi : Int) (w : World) :
    Calls Tryd.prog 76 #[.int .i64 x, .int .i64 lo, .int .i64 hi] w fun e w' => e = .returned (.bool (decide (lo ≤ x) && decide (x ≤ hi))) ∧ w' = w := by
  by_cases h1 : lo ≤ x
  · by_cases h2 : x ≤ hi
    · go_enter Tryd.func76, Tryd.ntmps76
      go_wp2
      go_ret
      exact ⟨ret_bool (by simp [h1, h2]), rfl⟩
    · go_enter Tryd.func76, Tryd.ntmps76
      go_wp2
      go_ret
      exact ⟨ret_bool (by simp; omega), rfl⟩
  · go_enter Tryd.func76, Tryd.ntmps76
    go_wp2
    go_ret
    exact ⟨ret_bool (by simp; omega), rfl⟩

set_option maxHeartbeats 400000 in
theorem specNatOk_any (a : Option Addr) (b off n cap : Nat) (f : Nat → Int) (w : World) (hs : Seg w a b off n f) (hn : n ≤ 1048576) :
    Calls Tryd.prog 75 #[.slice a n cap] w fun e w' => e = .returned (.bool (natOk n f)) ∧ w' = w := by
  go_enter Tryd.func75, Tryd.ntmps75
  go_wp2
  go_loop [3] (fun i => ∃ k : Nat, k ≤ n ∧ i = .int .i64 k ∧ ∀ j, j < k → 0 ≤ f j ∧ f j ≤ 65535) (fun i => n - (intOf i).toNat)
  case atStart => exact ⟨0, Nat.zero_le _, rfl, fun j hj => absurd hj (Nat.not_lt_zero _)⟩
  case round =>
    obtain ⟨k, hk, rfl, hd⟩ := hrel
    by_cases hlt : k < n
    · obtain rfl := hs.at' (by omega)
      have hc := hs.cell k hlt
      by_cases hin : 0 ≤ f k ∧ f k ≤ 65535
      · obtain ⟨h0, h1⟩ := hin
        have hb : (decide (0 ≤ f k) && decide (f k ≤ 65535)) = true := by simp [h0, h1]
        go_wp2_with (go_at_call 76; refine (l1In_any _ _ _ _).mono ?_; rintro e w' ⟨rfl, rfl⟩)
        go_round
        case rel => exact ⟨k + 1, by omega, by go_num, fun j hj => by
                      by_cases e : j = k
                      · subst e; exact ⟨h0, h1⟩
                      · exact hd j (by omega)⟩
        case measure => simp [intOf]; omega
      · have hb : (decide (0 ≤ f k) && decide (f k ≤ 65535)) = false := by simp; omega
        go_wp2_with (go_at_call 76; refine (l1In_any _ _ _ _).mono ?_; rintro e w' ⟨rfl, rfl⟩)
        go_ret
        exact ⟨ret_bool (natOk_false hlt (by omega)).symm, rfl⟩
    · obtain rfl : k = n := by omega
      have Hfin : Hid (natOk k f = (decide (k ≤ 64) && (k == 0 || f (k - 1) != 0))) := natOk_end hd
      clear hd
      by_cases h64 : k ≤ 64
      · by_cases h0 : k = 0
        · subst h0
          go_wp2
          go_ret
          exact ⟨ret_bool (by rw [Hfin.out]; rfl), rfl⟩
        · obtain ⟨m, rfl⟩ : ∃ m, k = m + 1 := ⟨k - 1, by omega⟩
          obtain rfl := hs.at' (by omega)
          have hc := hs.cell m (by omega)
          have hz : ((m : Int) + 1 == 0) = false := by simp; omega
          go_wp2
          go_ret
          exact ⟨ret_bool (by rw [Hfin.out]; simp [h64]), rfl⟩
      · have hz : ¬ (k : Int) ≤ 64 := by omega
        go_wp2
        go_ret
        exact ⟨ret_bool (by rw [Hfin.out]; simp [h64]), rfl⟩

set_option maxHeartbeats 400000 in
theorem implNatOk_any (a : Option Addr) (b off n cap : Nat) (f : Nat → Int) (w : World) (hs : Seg w a b off n f) (hn : n ≤ 1048576) :
    Calls Tryd.prog 153 #[.slice a n cap] w fun e w' => e = .returned (.bool (natOk n f)) ∧ w' = w := by
  by_cases h64 : n ≤ 64
  · have hz64 : ¬ (64 : Int) < (n : Int) := by omega
    go_enter Tryd.func153, Tryd.ntmps153
    go_wp2
    go_loop [10] (fun i => ∃ k : Nat, k ≤ n ∧ i = .int .i64 k ∧ ∀ j, j < k → 0 ≤ f j ∧ f j ≤ 65535) (fun i => n - (intOf i).toNat)
    case atStart => exact ⟨0, Nat.zero_le _, rfl, fun j hj => absurd hj (Nat.not_lt_zero _)⟩
    case round =>
      obtain ⟨k, hk, rfl, hd⟩ := hrel
      by_cases hlt : k < n
      · obtain rfl := hs.at' (by omega)
        have hc := hs.cell k hlt
        by_cases h0 : f k < 0
        · go_wp2
          go_ret
          exact ⟨ret_bool (natOk_false hlt (by omega)).symm, rfl⟩
        · by_cases h1 : 65535 < f k
          · go_wp2
            go_ret
            exact ⟨ret_bool (natOk_false hlt (by omega)).symm, rfl⟩
          · go_wp2
            go_round
            case rel => exact ⟨k + 1, by omega, by go_num, fun j hj => by
                          by_cases e : j = k
                          · subst e; omega
                          · exact hd j (by omega)⟩
            case measure => simp [intOf]; omega
      · obtain rfl : k = n := by omega
        have Hfin : Hid (natOk k f = (decide (k ≤ 64) && (k == 0 || f (k - 1) != 0))) := natOk_end hd
        clear hd
        by_cases h0 : k = 0
        · subst h0
          go_wp2
          go_ret
          exact ⟨ret_bool (by rw [Hfin.out]; rfl), rfl⟩
        · obtain ⟨m, rfl⟩ : ∃ m, k = m + 1 := ⟨k - 1, by omega⟩
          obtain rfl := hs.at' (by omega)
          have hc := hs.cell m (by omega)
          have hz : ((m : Int) + 1 == 0) = false := by simp; omega
          go_wp2
          go_ret
          exact ⟨ret_bool (by rw [Hfin.out]; simp [h64]), rfl⟩
  · have hz64 : (64 : Int) < (n : Int) := by omega
    go_enter Tryd.func153, Tryd.ntmps153
    go_wp2
    go_ret
    exact ⟨ret_bool (natOk_long (by omega)).symm, rfl⟩

end Go.Proofs.YtjidlahgfkdipacDoor
