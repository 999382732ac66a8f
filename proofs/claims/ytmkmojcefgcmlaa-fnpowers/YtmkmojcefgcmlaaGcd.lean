/- Walks: Gcd, of the model and of the program: the greatest number that both are multiples of. -/
import Derived.Test.YtmkmojcefgcmlaaChecked
import Derived.Test.YtmkmojcefgcmlaaBase
namespace Go.Proofs.Ytmkmojcefgcmlaa
set_option linter.unusedVariables false
open Go.RowKit

def gcdV (a b : Int) : Int := if a < 0 ∨ b < 0 then -1 else (Nat.gcd a.toNat b.toNat : Int)

theorem gcd_step (u v : Nat) : Nat.gcd v (u % v) = Nat.gcd u v := by
  rw [Nat.gcd_comm u v, Nat.gcd_rec v u, Nat.gcd_comm]

theorem rem_le {u v : Nat} : ((u : Int) % (v : Int)) = ((u % v : Nat) : Int) := by omega

set_option maxHeartbeats 400000 in
theorem implGcd_any (a b : Int) (w : World) (ha : a ≤ 9223372036854775807) (hb : b ≤ 9223372036854775807) :
    Calls Try.prog 31 #[.int .i64 a, .int .i64 b] w fun e w' => e = .returned (.int .i64 (gcdV a b)) ∧ Drawn w w' := by
  by_cases h : a < 0
  · have Hf : Hid (gcdV a b = -1) := by show _ = _; simp [gcdV, h]
    go_enter Try.func31, Try.ntmps31
    go_wp2
    go_ret
    exact ⟨ret_int Hf.out.symm, Drawn.refl _⟩
  · by_cases h2 : b < 0
    · have Hf : Hid (gcdV a b = -1) := by show _ = _; simp [gcdV, h2]
      go_enter Try.func31, Try.ntmps31
      go_wp2
      go_ret
      exact ⟨ret_int Hf.out.symm, Drawn.refl _⟩
    · obtain ⟨x, rfl⟩ := Int.eq_ofNat_of_zero_le (show 0 ≤ a by omega)
      obtain ⟨y, rfl⟩ := Int.eq_ofNat_of_zero_le (show 0 ≤ b by omega)
      have Hf : Hid (gcdV (x : Int) (y : Int) = (Nat.gcd x y : Int)) := by show _ = _; simp [gcdV]
      go_enter Try.func31, Try.ntmps31
      go_wp2
      go_loopw [0, 1] (fun a b wr => ∃ u v : Nat, a = .int .i64 u ∧ b = .int .i64 v ∧ Nat.gcd u v = Nat.gcd x y ∧ u ≤ 9223372036854775807 ∧ v ≤ 9223372036854775807 ∧ Drawn w wr) (fun _ b _ => (intOf b).toNat)
      case atStart => exact ⟨x, y, rfl, rfl, rfl, by omega, by omega, Drawn.refl _⟩
      case round =>
        obtain ⟨u, v, rfl, rfl, hg, hu, hv, hQ⟩ := hrel
        have Hg := hide hg
        clear hg
        by_cases h0 : v = 0
        · subst h0
          go_wp2
          go_ret
          exact ⟨ret_int (by rw [Hf.out, ← Hg.out, Nat.gcd_zero_right]), hQ⟩
        · have hp : 0 < (v : Int) := by omega
          have hm : u % v < v := Nat.mod_lt _ (by omega)
          have Hr := hide (rem_le (u := u) (v := v))
          have r0 := Int.emod_nonneg (u : Int) (show (v : Int) ≠ 0 by omega)
          have r1 := Int.emod_lt_of_pos (u : Int) hp
          go_wp2
          go_quiet (fail)
          go_wp2
          go_roundw
          case rel => exact ⟨v, u % v, rfl, by rw [Hr.out], by rw [gcd_step]; exact Hg.out, by omega, by omega, hQ.more _⟩
          case measure => simp [intOf]; omega

end Go.Proofs.Ytmkmojcefgcmlaa
