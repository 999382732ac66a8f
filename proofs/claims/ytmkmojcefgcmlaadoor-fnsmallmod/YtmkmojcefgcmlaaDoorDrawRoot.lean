/- Walks: the model's DrawRootInt: some two numbers; l1PickInt answers one of its list. -/
import Derived.Test.YtmkmojcefgcmlaaDoorDrawEnd
namespace Go.Proofs.YtmkmojcefgcmlaaDoor
set_option linter.unusedVariables false
open Go.RowKit

/-- The call answers one of a list, and turns the cursor alone. -/
def GivesIdx (w : World) (C : Nat) (a : Option Addr) (n cap : Nat) (m : Nat) (g : Nat → Int) (e : Ending) (w' : World) : Prop :=
  ∃ i : Nat, i < m ∧ e = .returned (.int .i64 (g i)) ∧ Cur w' C a n cap ∧ Touch C w w'

set_option maxHeartbeats 400000 in
theorem l1PickInt_of (C : Nat) (a : Option Addr) (b off n cap : Nat) (f : Nat → Int) (a2 : Option Addr) (b2 off2 m cap2 : Nat) (g : Nat → Int) (w : World) (hC : Cur w C a n cap) (hK : Code w C a b off n f) (hn : n ≤ 1048576) (hs : Seg w a2 b2 off2 m g) (hm : 0 < m) (hm1 : m ≤ 100) (hne : b2 ≠ C) :
    Calls Tryd.prog 22 #[.pointer (some ⟨C, 0, none⟩), .slice a2 m cap2] w fun e w' => GivesIdx w C a n cap m g e w' := by
  obtain rfl := hs.at' hm
  go_enter Tryd.func22, Tryd.ntmps22
  go_wp2_with fail
  refine (l1Below_any C a b off n cap f (m : Int) _ hC hK hn (by omega) (by omega)).mono ?_
  rintro e w1 ⟨x, rfl, x0, x1, hC1, T1⟩
  obtain ⟨i, rfl⟩ := Int.eq_ofNat_of_zero_le x0
  have hc := (hs.touch T1 (fun _ => hne)).cell i (by omega)
  have him : (i : Int) < (m : Int) := by omega
  go_wp2
  go_ret
  exact ⟨i, by omega, rfl, hC1, T1⟩

def rootNum (j : Nat) : Int := ([3, 5, 103, 1019, 1021, 10007, 2, 9, 1048573, 1048583, 101] : List Int).getD j 0

theorem root_row (w : World) : (w.alloc (.cells #[.int .i64 3, .int .i64 5, .int .i64 103, .int .i64 1019, .int .i64 1021, .int .i64 10007, .int .i64 2, .int .i64 9, .int .i64 1048573, .int .i64 1048583, .int .i64 101] 3)).rowIs w.heap.size 3 11 (fun j => .int .i64 (rootNum j)) :=
  World.rowIs_alloc w _ 3 _ (fun i hi => by
    have : i = 0 ∨ i = 1 ∨ i = 2 ∨ i = 3 ∨ i = 4 ∨ i = 5 ∨ i = 6 ∨ i = 7 ∨ i = 8 ∨ i = 9 ∨ i = 10 := by simp at hi; omega
    rcases this with rfl | rfl | rfl | rfl | rfl | rfl | rfl | rfl | rfl | rfl | rfl <;> rfl)

theorem root_bd {i : Nat} (hi : i < 11) : 2 ≤ rootNum i ∧ rootNum i ≤ 1048583 := by
  have : i = 0 ∨ i = 1 ∨ i = 2 ∨ i = 3 ∨ i = 4 ∨ i = 5 ∨ i = 6 ∨ i = 7 ∨ i = 8 ∨ i = 9 ∨ i = 10 := by omega
  rcases this with rfl | rfl | rfl | rfl | rfl | rfl | rfl | rfl | rfl | rfl | rfl <;> decide

theorem l1Min_any (x y : Int) (w : World) : Calls Tryd.prog 24 #[.int .i64 x, .int .i64 y] w fun e w' => e = .returned (.int .i64 (if x < y then x else y)) ∧ w' = w := by
  by_cases h : x < y
  · rw [if_pos h]
    go_enter Tryd.func24, Tryd.ntmps24
    go_wp2
    go_ret
    exact ⟨rfl, rfl⟩
  · rw [if_neg h]
    go_enter Tryd.func24, Tryd.ntmps24
    go_wp2
    go_ret
    exact ⟨rfl, rfl⟩

/-- Two drawn numbers for a root. -/
def GivesRootDraw (w : World) (e : Ending) (w' : World) : Prop :=
  ∃ x y : Int, e = .returned (.tuple #[.int .i64 x, .int .i64 y]) ∧ -1 ≤ x ∧ x ≤ 60000 ∧ 2 ≤ y ∧ y ≤ 1048583 ∧ Below w.heap.size w w'

set_option maxHeartbeats 800000 in
theorem drawRootInt_any (a : Option Addr) (b off n cap : Nat) (f : Nat → Int) (w : World) (hs : BSeg w a b off n f) (hB : ∀ i, i < n → 0 ≤ f i ∧ f i ≤ 255) (hn : n ≤ 1048576) :
    Calls Tryd.prog 12 #[.slice a n cap] w fun e w' => GivesRootDraw w e w' := by
  go_enter Tryd.func12, Tryd.ntmps12
  go_wp2_with fail
  refine (l1New_any a b off n cap f _ hs hB hn).mono ?_
  rintro e w1 ⟨rfl, hC1, hlt1, B1⟩
  have K1 : Code w1 w.heap.size a b off n f := ⟨hs.of_all B1, hB, fun h => by have := hs.lt h; omega⟩
  have B2 : Below w1.heap.size w1 (w1.alloc (.cells #[.int .i64 3, .int .i64 5, .int .i64 103, .int .i64 1019, .int .i64 1021, .int .i64 10007, .int .i64 2, .int .i64 9, .int .i64 1048573, .int .i64 1048583, .int .i64 101] 3)) := (Below.refl _ _).alloc (Nat.le_refl _) _
  have r2 := root_row w1
  have C2 := hC1.of_block (B2.block _ hlt1)
  have K2 := K1.grow (Grow.below B2 : Grow w.heap.size w1 _)
  have BB := B1.trans (B2.mono B1.size)
  have ne2 : w1.heap.size ≠ w.heap.size := by omega
  clear B1 B2 K1 hC1
  go_wp2_with fail
  refine (l1PickInt_of w.heap.size a b off n cap f _ w1.heap.size 0 11 11 rootNum _ C2 K2 hn (Seg.of_row r2 (Nat.le_refl _)) (by omega) (by omega) ne2).mono ?_
  rintro e w3 ⟨i, hi, rfl, hC3, T3⟩
  obtain ⟨p0, p1⟩ := root_bd hi
  have B3 := grow_below BB (Nat.le_refl _) (Grow.touch T3)
  have K3 := K2.touch T3
  clear BB K2 C2 T3 r2
  generalize rootNum i = p at *
  go_wp2_with fail
  refine (l1Min_any p 60000 _).mono ?_
  rintro e w' ⟨rfl, hw⟩
  obtain rfl := hw.symm
  obtain ⟨m, hm⟩ : ∃ m, m = if p < 60000 then p else 60000 := ⟨_, rfl⟩
  have m0 : 2 ≤ m := by rw [hm]; split <;> omega
  have m1 : m ≤ 60000 := by rw [hm]; split <;> omega
  rw [← hm]
  clear hm
  go_wp2_with fail
  refine (l1Below_any w.heap.size a b off n cap f (m + 1) _ hC3 K3 hn (by omega) (by omega)).mono ?_
  rintro e w4 ⟨z, rfl, z0, z1, hC4, T4⟩
  have B4 := grow_below B3 (Nat.le_refl _) (Grow.touch T4)
  have K4 := K3.touch T4
  clear hC3 K3 B3 T4
  go_wp2_with fail
  refine (l1Below_any w.heap.size a b off n cap f 20 _ hC4 K4 hn (by omega) (by omega)).mono ?_
  rintro e w5 ⟨v, rfl, v0, v1, hC5, T5⟩
  have B5 := grow_below B4 (Nat.le_refl _) (Grow.touch T5)
  have d0 : 0 ≤ v / 19 := by omega
  have d1 : v / 19 ≤ 1 := by omega
  clear hC4 K4 B4 T5 hC5
  go_wp2
  go_ret2
  exact ⟨z - v / 19, p, rfl, by omega, by omega, p0, p1, B5⟩

end Go.Proofs.YtmkmojcefgcmlaaDoor
