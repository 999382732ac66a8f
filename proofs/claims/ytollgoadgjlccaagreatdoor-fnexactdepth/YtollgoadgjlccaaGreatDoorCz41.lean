/- Walks: four numbers, InNet of both. -/
import Derived.Deep.RegionWith
import Derived.Test.YtollgoadgjlccaaGreatDoorCz02
import Derived.Test.YtollgoadgjlccaaGreatDoorCz05
import Derived.Test.YtollgoadgjlccaaGreatDoorCz29
namespace Go.Proofs.YtollgoadgjlccaaGreatDoor

section
set_option linter.unusedVariables false
set_option linter.unusedSimpArgs false

open Go.RowKit

/-- Four numbers of 0 .. 255. -/
def octs (f : Nat → Int) : Nat → Bool
  | 0 => true
  | n + 1 => octs f n && (decide (0 ≤ f n) && decide (f n ≤ 255))

theorem octs_iff (f : Nat → Int) (n : Nat) : octs f n = true ↔ ∀ i, i < n → 0 ≤ f i ∧ f i ≤ 255 := by
  induction n with
  | zero => simp [octs]
  | succ n ih =>
    simp only [octs, Bool.and_eq_true, ih, decide_eq_true_eq]
    constructor
    · rintro ⟨h, h0, h1⟩ i hi
      by_cases e : i = n
      · subst e; exact ⟨h0, h1⟩
      · exact h i (by omega)
    · intro h
      exact ⟨fun i hi => h i (by omega), (h n (by omega)).1, (h n (by omega)).2⟩

def fourB (n : Nat) (f : Nat → Int) : Bool := octs f n && decide (n = 4)

theorem four_no {f : Nat → Int} {n k : Nat} (hk : k < n) (h : f k < 0 ∨ 255 < f k) : fourB n f = false := by
  unfold fourB
  cases e : octs f n with
  | false => rfl
  | true => have := (octs_iff f n).1 e k hk; omega

theorem four_end {f : Nat → Int} {n : Nat} (h : ∀ i, i < n → 0 ≤ f i ∧ f i ≤ 255) : fourB n f = decide (n = 4) := by
  unfold fourB
  rw [(octs_iff f n).2 h, Bool.true_and]

set_option maxHeartbeats 400000 in
theorem l8Four_any (a : Option Addr) (b off n cap : Nat) (f : Nat → Int) (w : World) (hs : Seg w a b off n f) (hn : n ≤ 1048576) :
    Calls Tryz.prog 77 #[.slice a n cap] w fun e w' => e = .returned (.bool (fourB n f)) ∧ w' = w := by
  go_enter Tryz.func77, Tryz.ntmps77
  go_wp2
  go_loop [3] (fun i => ∃ k : Nat, k ≤ n ∧ i = .int .i64 k ∧ ∀ j, j < k → 0 ≤ f j ∧ f j ≤ 255) (fun i => n - (intOf i).toNat)
  case atStart => exact ⟨0, Nat.zero_le _, rfl, fun j hj => absurd hj (Nat.not_lt_zero _)⟩
  case round =>
    obtain ⟨k, hk, rfl, hd⟩ := hrel
    by_cases hlt : k < n
    · obtain rfl := hs.at' (by omega)
      have hc := hs.cell k hlt
      by_cases hin : 0 ≤ f k ∧ f k ≤ 255
      · obtain ⟨h0, h1⟩ := hin
        have hb : (decide (0 ≤ f k) && decide (f k ≤ 255)) = true := by simp [h0, h1]
        go_wp2_with (go_at_call 32; refine (l1In_any _ _ _ _).mono ?_; rintro e w' ⟨rfl, rfl⟩)
        go_round
        case rel => exact ⟨k + 1, by omega, by go_num, fun j hj => by
                      by_cases e : j = k
                      · subst e; exact ⟨h0, h1⟩
                      · exact hd j (by omega)⟩
        case measure => simp [intOf]; omega
      · have hb : (decide (0 ≤ f k) && decide (f k ≤ 255)) = false := by simp; omega
        go_wp2_with (go_at_call 32; refine (l1In_any _ _ _ _).mono ?_; rintro e w' ⟨rfl, rfl⟩)
        go_ret
        exact ⟨ret_bool (four_no hlt (by omega)).symm, rfl⟩
    · obtain rfl : k = n := by omega
      have Hfin := hide (four_end hd)
      clear hd
      by_cases h4 : k = 4
      · have hz : ((k : Int) == 4) = true := by simp; omega
        have H4 := hide h4
        clear h4
        go_wp2
        go_ret
        exact ⟨ret_bool (by rw [Hfin.out]; simp [H4.out]), rfl⟩
      · have hz : ((k : Int) == 4) = false := by simp; omega
        go_wp2
        go_ret
        exact ⟨ret_bool (by rw [Hfin.out]; simp [h4]), rfl⟩

set_option maxHeartbeats 400000 in
theorem addressOk_any (a : Option Addr) (b off n cap : Nat) (f : Nat → Int) (w : World) (hs : Seg w a b off n f) (hn : n ≤ 1048576) :
    Calls Tryz.prog 91 #[.slice a n cap] w fun e w' => e = .returned (.bool (fourB n f)) ∧ w' = w := by
  by_cases h4 : n = 4
  · subst h4
    go_enter Tryz.func91, Tryz.ntmps91
    go_wp2
    go_loop [10] (fun i => ∃ k : Nat, k ≤ 4 ∧ i = .int .i64 k ∧ ∀ j, j < k → 0 ≤ f j ∧ f j ≤ 255) (fun i => 4 - (intOf i).toNat)
    case atStart => exact ⟨0, Nat.zero_le _, rfl, fun j hj => absurd hj (Nat.not_lt_zero _)⟩
    case round =>
      obtain ⟨k, hk, rfl, hd⟩ := hrel
      by_cases hlt : k < 4
      · have hkn : (k : Int) < 4 := by omega
        obtain rfl := hs.at' (by omega)
        have hc := hs.cell k hlt
        by_cases h0 : f k < 0
        · go_wp2
          go_ret
          exact ⟨ret_bool (four_no hlt (by omega)).symm, rfl⟩
        · by_cases h1 : 255 < f k
          · go_wp2
            go_ret
            exact ⟨ret_bool (four_no hlt (by omega)).symm, rfl⟩
          · go_wp2
            go_round
            case rel => exact ⟨k + 1, by omega, by go_num, fun j hj => by
                          by_cases e : j = k
                          · subst e; omega
                          · exact hd j (by omega)⟩
            case measure => simp [intOf]; omega
      · obtain rfl : k = 4 := by omega
        have Hfin := hide (four_end hd)
        clear hd
        go_wp2
        go_ret
        exact ⟨ret_bool (by rw [Hfin.out]; rfl), rfl⟩
  · have hz : ((n : Int) != 4) = true := by simp; omega
    go_enter Tryz.func91, Tryz.ntmps91
    go_wp2
    go_ret
    exact ⟨ret_bool (by simp [fourB, h4]), rfl⟩

/-- The number that an address is. -/
def whole (f : Nat → Int) : Int := f 0 * 16777216 + f 1 * 65536 + f 2 * 256 + f 3
end

end Go.Proofs.YtollgoadgjlccaaGreatDoor
