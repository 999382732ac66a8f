/- Walks: l1In and the two NatOk, each the plain test 'natOk', whatever slice of ints is handed in; nothing is written. -/
import Derived.Test.YtmkmojcefgcmlaaDoorChecked
import Derived.Test.YtmkmojcefgcmlaaDoorBase
namespace Go.Proofs.YtmkmojcefgcmlaaDoor
set_option linter.unusedVariables false
open Go.RowKit

set_option maxHeartbeats 400000 in
theorem implNatOk_any (a : Option Addr) (b off n cap : Nat) (f : Nat → Int) (w : World) (hs : Seg w a b off n f) (hn : n ≤ 1048576) :
    Calls Tryd.prog 18 #[.slice a n cap] w fun e w' => e = .returned (.bool (natOk n f)) ∧ w' = w := by
  by_cases h64 : n ≤ 64
  · have hz64 : ¬ (64 : Int) < (n : Int) := by omega
    go_enter Tryd.func18, Tryd.ntmps18
    go_wp2
    go_loop [10] (fun i => ∃ k : Nat, k ≤ n ∧ i = .int .i64 k ∧ ∀ j, j < k → 0 ≤ f j ∧ f j ≤ 65535) (fun i => n - (intOf i).toNat)
    case atStart => exact ⟨0, Nat.zero_le _, rfl, fun j hj => absurd hj (Nat.not_lt_zero _)⟩
    case round =>
      obtain ⟨k, hk, rfl, hd⟩ := hrel
      by_cases hlt : k < n
      · obtain rfl := hs.at' (by omega)
        have hc := hs.cell k hlt
        by_cases h0 : f k < 0
        · go_wp2
          go_ret
          exact ⟨ret_bool (natOk_false hlt (by omega)).symm, rfl⟩
        · by_cases h1 : 65535 < f k
          · go_wp2
            go_ret
            exact ⟨ret_bool (natOk_false hlt (by omega)).symm, rfl⟩
          · go_wp2
            go_round
            case rel => exact ⟨k + 1, by omega, by go_num, fun j hj => by
                          by_cases e : j = k
                          · subst e; omega
                          · exact hd j (by omega)⟩
            case measure => simp [intOf]; omega
      · obtain rfl : k = n := by omega
        have Hfin : Hid (natOk k f = (decide (k ≤ 64) && (k == 0 || f (k - 1) != 0))) := natOk_end hd
        clear hd
        by_cases h0 : k = 0
        · subst h0
          go_wp2
          go_ret
          exact ⟨ret_bool (by rw [Hfin.out]; rfl), rfl⟩
        · obtain ⟨m, rfl⟩ : ∃ m, k = m + 1 := ⟨k - 1, by omega⟩
          obtain rfl := hs.at' (by omega)
          have hc := hs.cell m (by omega)
          have hz : ((m : Int) + 1 == 0) = false := by simp; omega
          go_wp2
          go_ret
          exact ⟨ret_bool (by rw [Hfin.out]; simp [h64]), rfl⟩
  · have hz64 : (64 : Int) < (n : Int) := by omega
    go_enter Tryd.func18, Tryd.ntmps18
    go_wp2
    go_ret
    exact ⟨ret_bool (natOk_long (by omega)).symm, rfl⟩

end Go.Proofs.YtmkmojcefgcmlaaDoor
