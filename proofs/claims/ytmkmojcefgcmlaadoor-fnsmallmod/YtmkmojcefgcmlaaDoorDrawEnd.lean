/- Walks: l1New, DrawNatMul, DrawNatDiv: some two lists of ints; and the laws' own big and at. -/
import Derived.Test.YtmkmojcefgcmlaaDoorDraws
namespace Go.Proofs.YtmkmojcefgcmlaaDoor
set_option linter.unusedVariables false
open Go.RowKit

set_option maxHeartbeats 800000 in
set_option maxRecDepth 100000 in
theorem l1New_any (a : Option Addr) (b off n cap : Nat) (f : Nat → Int) (w : World) (hs : BSeg w a b off n f) (hB : ∀ i, i < n → 0 ≤ f i ∧ f i ≤ 255) (hn : n ≤ 1048576) :
    Calls Tryd.prog 21 #[.slice a n cap] w fun e w' => e = .returned (.pointer (some ⟨w.heap.size, 0, none⟩)) ∧ Cur w' w.heap.size a n cap ∧ w.heap.size < w'.heap.size ∧ Below w.heap.size w w' := by
  go_enter Tryd.func21, Tryd.ntmps21
  go_wp2
  go_loop [3, 4] (fun sh si => ∃ (k : Nat) (h : Int), k ≤ n ∧ si = .int .i64 k ∧ sh = .int .i64 h) (fun _ si => n - (intOf si).toNat)
  case atStart => exact ⟨0, _, by omega, rfl, rfl⟩
  case round =>
    obtain ⟨k, h, hk, rfl, rfl⟩ := hrel
    by_cases hlt : k < n
    · by_cases h4 : k < 4000
      · obtain rfl := hs.at' (by omega)
        have hc := hs.cell k hlt
        obtain ⟨b0, b1⟩ := hB k hlt
        have hkn : (k : Int) < (n : Int) := by omega
        go_wp2
        go_round
        case rel => exact ⟨k + 1, _, by omega, by go_num, rfl⟩
        case measure => simp [intOf]; omega
      · have hkn : (k : Int) < (n : Int) := by omega
        have h4' : ¬ (k : Int) < 4000 := by omega
        go_wp2
        go_ret
        refine ⟨rfl, ⟨?_, ⟨0, by omega, ?_⟩, ⟨h, ?_⟩, ?_, ?_⟩, by simp, (Below.refl _ _).alloc (Nat.le_refl _) _⟩
        all_goals first | exact World.cell?_alloc_at _ _ _ _ _ rfl | simp
    · go_wp2
      go_ret
      refine ⟨rfl, ⟨?_, ⟨0, by omega, ?_⟩, ⟨h, ?_⟩, ?_, ?_⟩, by simp, (Below.refl _ _).alloc (Nat.le_refl _) _⟩
      all_goals first | exact World.cell?_alloc_at _ _ _ _ _ rfl | simp

/-- Two drawn lists. -/
def GivesPair (w : World) (e : Ending) (w' : World) : Prop :=
  ∃ a1 g1 c1 m1 f1 a2 g2 c2 m2 f2, e = .returned (.tuple #[.slice a1 m1 c1, .slice a2 m2 c2]) ∧ m1 ≤ 200 ∧ m2 ≤ 200 ∧ Seg w' a1 g1 0 m1 f1 ∧ Seg w' a2 g2 0 m2 f2 ∧ Below w.heap.size w w'

theorem grow_below {C : Nat} {w0 w w' : World} (hb : Below w0.heap.size w0 w) (hC : w0.heap.size ≤ C) (h : Grow C w w') : Below w0.heap.size w0 w' :=
  hb.grown h hb.size (fun k e => by simp at e; omega)

set_option maxHeartbeats 400000 in
theorem at_any (a : Option Addr) (b off n cap : Nat) (f : Nat → Int) (i : Nat) (w : World) (hs : BSeg w a b off n f) (hB : ∀ i, i < n → 0 ≤ f i ∧ f i ≤ 255) (hn : n ≤ 1048576) (hi : i ≤ 1000) :
    Calls Tryd.prog 5 #[.slice a n cap, .int .i64 i] w fun e w' => ∃ x, e = .returned (.int .i64 x) ∧ 0 ≤ x ∧ x ≤ 255 ∧ w' = w := by
  by_cases h : i < n
  · obtain rfl := hs.at' (by omega)
    have hc := hs.cell i h
    obtain ⟨b0, b1⟩ := hB i h
    have hin : (i : Int) < (n : Int) := by omega
    go_enter Tryd.func5, Tryd.ntmps5
    go_wp2
    go_ret
    exact ⟨f i, rfl, b0, b1, rfl⟩
  · have hin : ¬ (i : Int) < (n : Int) := by omega
    go_enter Tryd.func5, Tryd.ntmps5
    go_wp2
    go_ret
    exact ⟨_, rfl, by omega, by omega, rfl⟩

end Go.Proofs.YtmkmojcefgcmlaaDoor
