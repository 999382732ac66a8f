/- Walks of the law's marks: markIntS writes k, k+1, .. into a slice that may be written; heldIntS finds them there. -/
import Derived.Test.YtjpdllhhganbpaaChecked
import Derived.Test.YtjpdllhhganbpaaBase
namespace Go.Proofs.Ytjpdllhhganbpaa
set_option linter.unusedVariables false
open Go.RowKit

set_option maxHeartbeats 400000 in
theorem markIntS_any (a : Option Addr) (g off n cap : Nat) (f : Nat → Int) (k : Int) (w : World) (hs : Own w a g off n f) (hn : n ≤ 1048576) (hk0 : 0 ≤ k) (hk1 : k ≤ 1073741824) :
    Calls Try.prog 9 #[.slice a n cap, .int .i64 k] w fun e w' => e = .returned (.int .i64 (k + n)) ∧ Own w' a g off n (fun i => k + i) ∧ Touch g w w' := by
  go_enter Try.func9, Try.ntmps9
  go_wp2
  go_loopw [1, 5] (fun t i wr => ∃ j : Nat, j ≤ n ∧ i = .int .i64 j ∧ t = .int .i64 (k + j) ∧ Own wr a g off n (fun i => if i < j then k + i else f i) ∧ Touch g w wr) (fun _ i _ => n - (intOf i).toNat)
  case atStart => exact ⟨0, Nat.zero_le _, rfl, by go_num, hs.congr (fun i _ => by simp), Touch.refl _ _⟩
  case round =>
    obtain ⟨j, hj, rfl, rfl, hO, hT⟩ := hrel
    by_cases hlt : j < n
    · obtain rfl := hs.at' (by omega)
      have hc := hO.cell j hlt
      have hf := hO.free j hlt
      have hjn : (j : Int) < (n : Int) := by omega
      have hO' := (hO.set hlt (k + j)).congr (f' := fun i => if i < j + 1 then k + i else f i) (fun i _ => by
        by_cases e : i = j
        · subst e; simp
        · by_cases h : i < j
          · simp [e, h, show i < j + 1 by omega]
          · simp [e, h, show ¬ i < j + 1 by omega])
      have hT' := hT.set (off + j) (.int .i64 (k + j))
      clear hO hT
      go_wp2
      go_roundw
      case rel => exact ⟨j + 1, by omega, by go_num, by go_num, hO', hT'⟩
      case measure => simp [intOf]; omega
    · obtain rfl : j = n := by omega
      go_wp2
      go_ret
      exact ⟨rfl, hO.congr (fun i hi => by simp [hi]), hT⟩

set_option maxHeartbeats 400000 in
theorem heldIntS_any (a : Option Addr) (g off n cap : Nat) (k : Int) (w : World) (hs : Seg w a g off n (fun i => k + i)) (hn : n ≤ 1048576) (hk0 : 0 ≤ k) (hk1 : k ≤ 1073741824) :
    Calls Try.prog 10 #[.slice a n cap, .int .i64 k] w fun e w' => e = .returned (.int .i64 (k + n)) ∧ w' = w := by
  go_enter Try.func10, Try.ntmps10
  go_wp2
  go_loop [1, 5] (fun t i => ∃ j : Nat, j ≤ n ∧ i = .int .i64 j ∧ t = .int .i64 (k + j)) (fun _ i => n - (intOf i).toNat)
  case atStart => exact ⟨0, Nat.zero_le _, rfl, by go_num⟩
  case round =>
    obtain ⟨j, hj, rfl, rfl⟩ := hrel
    by_cases hlt : j < n
    · obtain rfl := hs.at' (by omega)
      have hc := hs.cell j hlt
      have hjn : (j : Int) < (n : Int) := by omega
      go_wp2
      go_round
      case rel => exact ⟨j + 1, by omega, by go_num, by go_num⟩
      case measure => simp [intOf]; omega
    · obtain rfl : j = n := by omega
      go_wp2
      go_ret
      exact ⟨rfl, rfl⟩

end Go.Proofs.Ytjpdllhhganbpaa
