/- Walk: withoutNoughts cuts the noughts at a list's end off, in place. -/
import Derived.Test.YtmkmojcefgcmlaaDoorChecked
import Derived.Test.YtmkmojcefgcmlaaDoorBase
import Derived.Test.YtmkmojcefgcmlaaDoorNum
import Derived.WalkLawsBesides
namespace Go.Proofs.YtmkmojcefgcmlaaDoor
set_option linter.unusedVariables false
open Go.RowKit

theorem val_noughts {f : Nat → Int} {m n : Nat} (hm : m ≤ n) (h : ∀ i, m ≤ i → i < n → f i = 0) : val f m = val f n := by
  induction n with
  | zero => obtain rfl : m = 0 := by omega
            rfl
  | succ n ih =>
    by_cases e : m = n + 1
    · subst e; rfl
    · rw [ih (by omega) (fun i h1 h2 => h i h1 (by omega))]
      simp [val, h n (by omega) (by omega)]

/-- The call hands back the list without the noughts at its end. -/
def GivesCut (a : Addr) (n : Nat) (f : Nat → Int) (w : World) (e : Ending) (w' : World) : Prop :=
  ∃ m : Nat, e = .returned (.slice (some a) m m) ∧ m ≤ n ∧ (∀ i, m ≤ i → i < n → f i = 0) ∧ (m = 0 ∨ f (m - 1) ≠ 0) ∧ w' = w

set_option maxHeartbeats 400000 in
theorem withoutNoughts_any (a : Addr) (b off n cap : Nat) (f : Nat → Int) (w : World) (hs : Seg w (some a) b off n f) (hn : n ≤ 1048576) (hcap : n ≤ cap) (hcap2 : cap ≤ 1048576) :
    Calls Tryd.prog 16 #[.slice (some a) n cap] w fun e w' => GivesCut a n f w e w' := by
  go_enter Tryd.func16, Tryd.ntmps16
  go_wp2
  go_loop [3] (fun i => ∃ k : Nat, k ≤ n ∧ i = .int .i64 k ∧ ∀ j, k ≤ j → j < n → f j = 0) (fun i => (intOf i).toNat)
  case atStart => exact ⟨n, Nat.le_refl _, rfl, fun j h1 h2 => by omega⟩
  case round =>
    obtain ⟨k, hk, rfl, hd⟩ := hrel
    by_cases h0 : k = 0
    · subst h0
      have hz : decide ((0 : Int) < ((0 : Nat) : Int)) = false := by simp
      go_wp2
      go_ret
      exact ⟨0, rfl, by omega, hd, .inl rfl, rfl⟩
    · obtain ⟨m, rfl⟩ : ∃ m, k = m + 1 := ⟨k - 1, by omega⟩
      obtain hA := hs.at' (by omega)
      simp only [Option.some.injEq] at hA
      subst hA
      have hc := hs.cell m (by omega)
      have hmn : (m : Int) < (n : Int) := by omega
      have hpos : (0 : Int) < (m : Int) + 1 := by omega
      by_cases hf : f m = 0
      · have hb : (f m == 0) = true := by simp [hf]
        go_wp2
        go_round
        case rel => exact ⟨m, by omega, by go_num, fun j h1 h2 => by
                      by_cases e : j = m
                      · subst e; exact hf
                      · exact hd j (by omega) h2⟩
        case measure => simp [intOf]
      · have hb : (f m == 0) = false := by simp [hf]
        go_wp2
        go_ret
        exact ⟨m + 1, rfl, by omega, hd, .inr (by simpa using hf), rfl⟩

end Go.Proofs.YtmkmojcefgcmlaaDoor
