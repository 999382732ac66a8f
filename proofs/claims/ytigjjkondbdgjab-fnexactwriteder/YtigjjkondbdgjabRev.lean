/- Walk: slices.Reverse over bytes of one's own. -/
import Derived.Test.YtigjjkondbdgjabChecked
import Derived.Test.YtigjjkondbdgjabBBase
namespace Go.Proofs.Ytigjjkondbdgjab
set_option linter.unusedVariables false
set_option linter.unusedSimpArgs false
open Go.RowKit

/-- Turned about up to place i from each end. -/
def revF (f : Nat → Int) (n i : Nat) (k : Nat) : Int := if k < i ∨ n - i ≤ k then f (n - 1 - k) else f k

set_option maxHeartbeats 1600000 in
set_option maxRecDepth 100000 in
theorem rev_any (a : Option Addr) (g off n cap : Nat) (f : Nat → Int) (w : World) (hs : BOwn w a g off n f) (hn : n ≤ 1048576) :
    Calls Try.prog 98 #[.slice a n cap] w fun e w' => e = .returned (.tuple #[]) ∧ BOwn w' a g off n (fun i => f (n - 1 - i)) ∧ Touch g w w' := by
  go_enter Try.func98, Try.ntmps98
  go_wp2
  go_loopw [2, 3] (fun s2 s3 wr => ∃ i : Nat, 2 * i ≤ n + 1 ∧ s2 = .int .i64 i ∧ s3 = .int .i64 ((n : Int) - 1 - i) ∧ BOwn wr a g off n (revF f n i) ∧ Touch g w wr) (fun s2 _ _ => n - (intOf s2).toNat)
  case atStart => exact ⟨0, by omega, rfl, by go_num, hs.congr (fun k hk => by unfold revF; rw [if_neg (by omega)]), Touch.refl _ _⟩
  case round =>
    obtain ⟨i, hi, rfl, rfl, hO, hT⟩ := hrel
    by_cases hlt : (i : Int) < (n : Int) - 1 - i
    · obtain ⟨j, hj⟩ : ∃ j, n - 1 - i = j := ⟨_, rfl⟩
      have hjz : (n : Int) - 1 - i = (j : Int) := by omega
      have hij : (i : Int) < j := by omega
      obtain rfl := hs.at' (by omega)
      have ci := hO.cell i (by omega)
      have fi := hO.free i (by omega)
      have cj := hO.cell j (by omega)
      have fj := hO.free j (by omega)
      have hi' : (i : Int) < n := by omega
      have hj' : (j : Int) < n := by omega
      have HO := hide hO
      have HT := hide hT
      have Hj := hide hj
      have HC := hide ((hO.set (show i < n by omega) (revF f n i j)).set (show j < n by omega) (revF f n i i))
      have hT2 := hide ((hT.set (off + i) (.int .u8 (revF f n i j))).set (off + j) (.int .u8 (revF f n i i)))
      rw [hjz]
      clear hO hT hs hj hjz hlt
      go_wp2_with fail
      go_region
      go_wp2
      go_roundw
      case rel =>
        have h1 := Hj.out
        refine ⟨i + 1, by omega, by go_num, by go_num, (HC.out.congr (fun k hk => ?_)).of_all (Below.drew (Below.refl _ _)), hT2.out.drew 1⟩
        unfold revF
        by_cases e1 : k = j
        · subst e1
          rw [if_pos rfl, if_neg (by omega), if_pos (by omega)]
          congr 1; omega
        · rw [if_neg e1]
          by_cases e2 : k = i
          · subst e2
            rw [if_pos rfl, if_neg (by omega), if_pos (by omega)]
            congr 1; omega
          · rw [if_neg e2]
            by_cases e3 : k < i ∨ n - i ≤ k
            · rw [if_pos e3, if_pos (by omega)]
            · rw [if_neg e3, if_neg (by omega)]
      case measure => simp [intOf]; omega
    · go_wp2
      go_end0
      refine ⟨rfl, hO.congr (fun k hk => ?_), hT⟩
      unfold revF
      split
      · rfl
      · congr 1; omega

end Go.Proofs.Ytigjjkondbdgjab
