/- Walks: l1New, l1PickInt of the model's draws, and the laws' own big and at. -/
import Derived.Test.YtjpdllhhganbpaaCursor
namespace Go.Proofs.Ytjpdllhhganbpaa
set_option linter.unusedVariables false
open Go.RowKit

set_option maxHeartbeats 800000 in
set_option maxRecDepth 100000 in
theorem l1New_any (a : Option Addr) (b off n cap : Nat) (f : Nat → Int) (w : World) (hs : BSeg w a b off n f) (hB : ∀ i, i < n → 0 ≤ f i ∧ f i ≤ 255) (hn : n ≤ 1048576) :
    Calls Try.prog 29 #[.slice a n cap] w fun e w' => e = .returned (.pointer (some ⟨w.heap.size, 0, none⟩)) ∧ Cur w' w.heap.size a n cap ∧ w.heap.size < w'.heap.size ∧ Below w.heap.size w w' := by
  go_enter Try.func29, Try.ntmps29
  go_wp2
  go_loop [3, 4] (fun sh si => ∃ (k : Nat) (h : Int), k ≤ n ∧ si = .int .i64 k ∧ sh = .int .i64 h) (fun _ si => n - (intOf si).toNat)
  case atStart => exact ⟨0, _, by omega, rfl, rfl⟩
  case round =>
    obtain ⟨k, h, hk, rfl, rfl⟩ := hrel
    by_cases hlt : k < n
    · by_cases h4 : k < 4000
      · obtain rfl := hs.at' (by omega)
        have hc := hs.cell k hlt
        obtain ⟨b0, b1⟩ := hB k hlt
        have hkn : (k : Int) < (n : Int) := by omega
        go_wp2
        go_round
        case rel => exact ⟨k + 1, _, by omega, by go_num, rfl⟩
        case measure => simp [intOf]; omega
      · have hkn : (k : Int) < (n : Int) := by omega
        have h4' : ¬ (k : Int) < 4000 := by omega
        go_wp2
        go_ret
        refine ⟨rfl, ⟨?_, ⟨0, by omega, ?_⟩, ⟨h, ?_⟩, ?_, ?_⟩, by simp, (Below.refl _ _).alloc (Nat.le_refl _) _⟩
        all_goals first | exact World.cell?_alloc_at _ _ _ _ _ rfl | simp
    · go_wp2
      go_ret
      refine ⟨rfl, ⟨?_, ⟨0, by omega, ?_⟩, ⟨h, ?_⟩, ?_, ?_⟩, by simp, (Below.refl _ _).alloc (Nat.le_refl _) _⟩
      all_goals first | exact World.cell?_alloc_at _ _ _ _ _ rfl | simp

theorem big_any (a : Option Addr) (n cap : Nat) (w : World) (hn : n ≤ 1048576) : Calls Try.prog 11 #[.slice a n cap] w fun e w' => e = .returned (.bool false) ∧ w' = w := by
  have h : ¬ (1048576 : Int) < (n : Int) := by omega
  go_enter Try.func11, Try.ntmps11
  go_wp2
  go_ret
  exact ⟨rfl, rfl⟩

theorem big_long (a : Option Addr) (n cap : Nat) (w : World) (hn : ¬ n ≤ 1048576) : Calls Try.prog 11 #[.slice a n cap] w fun e w' => e = .returned (.bool true) ∧ w' = w := by
  have h : (1048576 : Int) < (n : Int) := by omega
  go_enter Try.func11, Try.ntmps11
  go_wp2
  go_ret
  exact ⟨rfl, rfl⟩

/-- The call answers one of a list, told by its place, and turns the cursor alone. -/
def GivesAt (w : World) (C : Nat) (a : Option Addr) (n cap : Nat) (m : Nat) (g : Nat → Int) (e : Ending) (w' : World) : Prop :=
  ∃ i, i < m ∧ e = .returned (.int .i64 (g i)) ∧ Cur w' C a n cap ∧ Touch C w w'

set_option maxHeartbeats 400000 in
theorem l1PickInt_of (C : Nat) (a : Option Addr) (b off n cap : Nat) (f : Nat → Int) (a2 : Option Addr) (b2 off2 m cap2 : Nat) (g : Nat → Int) (w : World) (hC : Cur w C a n cap) (hK : Code w C a b off n f) (hn : n ≤ 1048576) (hs : Seg w a2 b2 off2 m g) (hm : 0 < m) (hm1 : m ≤ 100) (hne : b2 ≠ C) :
    Calls Try.prog 48 #[.pointer (some ⟨C, 0, none⟩), .slice a2 m cap2] w fun e w' => GivesAt w C a n cap m g e w' := by
  obtain rfl := hs.at' hm
  go_enter Try.func48, Try.ntmps48
  go_wp2_with fail
  refine (l1Below_any C a b off n cap f (m : Int) _ hC hK hn (by omega) (by omega)).mono ?_
  rintro e w1 ⟨x, rfl, x0, x1, hC1, T1⟩
  obtain ⟨i, rfl⟩ := Int.eq_ofNat_of_zero_le x0
  have hc := (hs.touch T1 (fun _ => hne)).cell i (by omega)
  have him : (i : Int) < (m : Int) := by omega
  go_wp2
  go_ret
  exact ⟨i, by omega, rfl, hC1, T1⟩

end Go.Proofs.Ytjpdllhhganbpaa
