/- Walk: the laws' sameInts: whether two lists of ints are alike. -/
import Derived.Test.YtjpdllhhganbpaaLists
namespace Go.Proofs.Ytjpdllhhganbpaa
set_option linter.unusedVariables false
open Go.RowKit

set_option maxHeartbeats 400000 in
theorem sameInts_any (a : Option Addr) (b off n cap : Nat) (f : Nat → Int) (a2 : Option Addr) (b2 off2 n2 cap2 : Nat) (g : Nat → Int) (w : World) (hs : Seg w a b off n f) (hs2 : Seg w a2 b2 off2 n2 g) (hn : n ≤ 1048576) :
    Calls Try.prog 15 #[.slice a n cap, .slice a2 n2 cap2] w fun e w' => e = .returned (.bool (n == n2 && alike f g n)) ∧ ∃ q, w' = w.drewN q := by
  by_cases hne : n = n2
  · subst hne
    go_enter Try.func15, Try.ntmps15
    go_wp2
    go_loopw [5] (fun i wr => ∃ k : Nat, k ≤ n ∧ i = .int .i64 k ∧ (∀ j, j < k → f j = g j) ∧ ∃ q, wr = w.drewN q) (fun i _ => n - (intOf i).toNat)
    case atStart => exact ⟨0, Nat.zero_le _, rfl, fun j hj => absurd hj (Nat.not_lt_zero _), 0, rfl⟩
    case round =>
      obtain ⟨k, hk, rfl, hd, q, rfl⟩ := hrel
      by_cases hlt : k < n
      · obtain rfl := hs.at' (by omega)
        obtain rfl := hs2.at' (by omega)
        have hc := hs.cell k hlt
        have hc2 := hs2.cell k hlt
        have hkn : (k : Int) < (n : Int) := by omega
        by_cases he : f k = g k
        · have hb : (f k != g k) = false := by simp [he]
          go_wp2
          go_quiet (fail)
          go_wp2
          go_roundw
          case rel => exact ⟨k + 1, by omega, by go_num, fun j hj => by
                        by_cases e : j = k
                        · subst e; exact he
                        · exact hd j (by omega), _, rfl⟩
          case measure => simp [intOf]; omega
        · have hb : (f k != g k) = true := by simp [he]
          go_wp2
          go_quiet (fail)
          go_wp2
          go_ret
          exact ⟨ret_bool (by simp [alike_false hlt he]), _, World.drewN_drewN ..⟩
      · obtain rfl : k = n := by omega
        go_wp2
        go_ret
        exact ⟨ret_bool (by simp [(alike_iff f g k).2 hd]), q, rfl⟩
  · have hb : ((n : Int) != (n2 : Int)) = true := by simp; omega
    go_enter Try.func15, Try.ntmps15
    go_wp2
    go_ret
    exact ⟨ret_bool (by simp [hne]), 0, rfl⟩

end Go.Proofs.Ytjpdllhhganbpaa
