/- Walks: the model's l2DrawMod, DrawModInv, DrawGcd: some list of ints, some two lists, some two numbers. -/
import Derived.Test.YtmkmojcefgcmlaaDrawEnd
namespace Go.Proofs.Ytmkmojcefgcmlaa
set_option linter.unusedVariables false
open Go.RowKit

/-- The call hands back some list in new memory; of what was there the cursor alone has turned. -/
def GivesSome (w : World) (C : Nat) (c : Option Addr) (n cap : Nat) (e : Ending) (w' : World) : Prop :=
  ∃ a g cp m f, e = .returned (.slice a m cp) ∧ m ≤ 200 ∧ w.heap.size ≤ g ∧ Own w' a g 0 m f ∧ Cur w' C c n cap ∧ Grow C w w'

theorem own_lone (w : World) (x : Int) : Own (w.alloc (.cells #[.int .i64 x] 3)) (some ⟨w.heap.size, 0, none⟩) w.heap.size 0 1 (fun _ => x) := by
  have h : (w.alloc (.cells #[.int .i64 x] 3)).rowIs w.heap.size 3 1 (fun _ => .int .i64 x) := World.rowIs_alloc w _ 3 _ (fun i hi => by
    obtain rfl : i = 0 := by simp at hi; omega
    rfl)
  exact Own.of_row h (Nat.le_refl _)

set_option maxHeartbeats 800000 in
theorem l2DrawMod_any (C : Nat) (c : Option Addr) (b off n cap : Nat) (fb : Nat → Int) (w : World) (hC : Cur w C c n cap) (hK : Code w C c b off n fb) (hn : n ≤ 1048576) (hCw : C < w.heap.size) :
    Calls Try.prog 52 #[.pointer (some ⟨C, 0, none⟩)] w fun e w' => GivesSome w C c n cap e w' := by
  go_enter Try.func52, Try.ntmps52
  go_wp2_with fail
  refine (l1Once_any C c b off n cap fb 12 _ hC hK hn (by omega) (by omega)).mono ?_
  rintro e w1 ⟨t, rfl, hC1, T1⟩
  have G1 : Grow C w w1 := Grow.touch T1
  have K1 := hK.grow G1
  have sz1 : C < w1.heap.size := by have := G1.size; omega
  clear T1 hC hK
  cases t
  · go_wp2_with fail
    refine (l1DrawNat_any C c b off n cap fb 5 _ hC1 K1 hn (by omega) (by omega) sz1).mono ?_
    rintro e w2 ⟨g2, c2, m2, f2, rfl, hm2, hg2, hO2, _, hC2, Gr2⟩
    have G2 := G1.trans Gr2
    have K2 := K1.grow Gr2
    have sz2 : C < w2.heap.size := by have := Gr2.size; omega
    have ge2 : w.heap.size ≤ g2 := by have := G1.size; omega
    clear hC1 K1
    by_cases hm0 : m2 = 0
    · subst hm0
      have B3 : Below w2.heap.size w2 (w2.alloc (.cells #[.int .i64 1, .int .i64 2, .int .i64 7, .int .i64 65535] 3)) := (Below.refl _ _).alloc (Nat.le_refl _) _
      have r3 := four_row w2 1 2 7 65535
      have C3 := hC2.of_block (B3.block C sz2)
      have K3 := K2.grow (Grow.below B3 : Grow C w2 _)
      have G3 := G2.trans (Grow.below B3)
      have ne3 : w2.heap.size ≠ C := by omega
      clear B3 K2 hC2 Gr2 hO2
      go_wp2_with fail
      refine (l1PickInt_any C c b off n cap fb _ w2.heap.size 0 4 4 _ _ C3 K3 hn (Seg.of_row r3 (Nat.le_refl _)) (by omega) (by omega) ne3).mono ?_
      rintro e w4 ⟨y, rfl, hC4, T4⟩
      have G4 := G3.trans (Grow.touch T4)
      have B5 : Below w4.heap.size w4 (w4.alloc (.cells #[.int .i64 y] 3)) := (Below.refl _ _).alloc (Nat.le_refl _) _
      have o5 := own_lone w4 y
      have sz4 : C < w4.heap.size := by have := (Grow.touch T4).size; simp at this; omega
      have C5 := hC4.of_block (B5.block C sz4)
      have G5 := G4.trans (Grow.below B5)
      have ge5 : w.heap.size ≤ w4.heap.size := G4.size
      clear B5 T4 hC4 r3 K3 C3 G3
      go_wp2
      go_ret
      exact ⟨_, w4.heap.size, _, 1, _, rfl, by omega, ge5, o5, C5, G5⟩
    · have hb : ((m2 : Int) == 0) = false := by simp; omega
      go_wp2
      go_ret
      exact ⟨_, g2, c2, m2, f2, rfl, by omega, ge2, hO2, hC2, G2⟩
  · go_wp2_with fail
    refine (l1DrawAny_any C c b off n cap fb _ hC1 K1 hn sz1).mono ?_
    rintro e w2 ⟨a2, g2, c2, m2, f2, rfl, hm2, hg2, hO2, hC2, Gr2⟩
    have G2 := G1.trans Gr2
    have ge2 : w.heap.size ≤ g2 := by have := G1.size; omega
    go_wp2
    go_ret
    exact ⟨a2, g2, c2, m2, f2, rfl, hm2, ge2, hO2, hC2, G2⟩

set_option maxHeartbeats 800000 in
theorem drawModInv_any (a : Option Addr) (b off n cap : Nat) (f : Nat → Int) (w : World) (hs : BSeg w a b off n f) (hB : ∀ i, i < n → 0 ≤ f i ∧ f i ≤ 255) (hn : n ≤ 1048576) :
    Calls Try.prog 26 #[.slice a n cap] w fun e w' => GivesPair w e w' := by
  go_enter Try.func26, Try.ntmps26
  go_wp2_with fail
  refine (l1New_any a b off n cap f _ hs hB hn).mono ?_
  rintro e w1 ⟨rfl, hC1, hlt1, B1⟩
  have K1 : Code w1 w.heap.size a b off n f := ⟨hs.of_all B1, hB, fun h => by have := hs.lt h; omega⟩
  go_wp2_with fail
  refine (l1DrawNat_any w.heap.size a b off n cap f 5 _ hC1 K1 hn (by omega) (by omega) hlt1).mono ?_
  rintro e w2 ⟨g2, c2, m2, f2, rfl, hm2, hg2, hO2, _, hC2, Gr2⟩
  have B2 := grow_below B1 (Nat.le_refl _) Gr2
  have K2 := K1.grow Gr2
  have sz2 : w.heap.size < w2.heap.size := by have := Gr2.size; omega
  clear Gr2 hC1 K1 B1
  go_wp2_with fail
  refine (l2DrawMod_any w.heap.size a b off n cap f _ hC2 K2 hn sz2).mono ?_
  rintro e w3 ⟨a3, g3, c3, m3, f3, rfl, hm3, hg3, hO3, hC3, Gr3⟩
  have B3 := grow_below B2 (Nat.le_refl _) Gr3
  have s3 := hO2.grow Gr3 (fun _ => by omega)
  go_wp2
  go_ret2
  exact ⟨_, g2, c2, m2, f2, a3, g3, c3, m3, f3, rfl, by omega, hm3, s3.toSeg, hO3.toSeg, B3⟩

/-- Two drawn numbers. -/
def GivesInts (w : World) (e : Ending) (w' : World) : Prop :=
  ∃ x y : Int, e = .returned (.tuple #[.int .i64 x, .int .i64 y]) ∧ 0 ≤ x ∧ x ≤ 8000 ∧ -1 ≤ y ∧ y ≤ 8000 ∧ Below w.heap.size w w'

theorem mul_draw {x y : Int} (x0 : 0 ≤ x) (x1 : x ≤ 39) (y0 : 0 ≤ y) (y1 : y ≤ 199) : 0 ≤ (1 + x) * y ∧ (1 + x) * y ≤ 7960 := by
  have h1 := Int.mul_le_mul_of_nonneg_right (show 1 + x ≤ 40 by omega) y0
  exact ⟨Int.mul_nonneg (by omega) y0, by omega⟩

set_option maxHeartbeats 800000 in
theorem drawGcd_any (a : Option Addr) (b off n cap : Nat) (f : Nat → Int) (w : World) (hs : BSeg w a b off n f) (hB : ∀ i, i < n → 0 ≤ f i ∧ f i ≤ 255) (hn : n ≤ 1048576) :
    Calls Try.prog 30 #[.slice a n cap] w fun e w' => GivesInts w e w' := by
  go_enter Try.func30, Try.ntmps30
  go_wp2_with fail
  refine (l1New_any a b off n cap f _ hs hB hn).mono ?_
  rintro e w1 ⟨rfl, hC1, hlt1, B1⟩
  have K1 : Code w1 w.heap.size a b off n f := ⟨hs.of_all B1, hB, fun h => by have := hs.lt h; omega⟩
  go_wp2_with fail
  refine (l1Below_any w.heap.size a b off n cap f 40 _ hC1 K1 hn (by omega) (by omega)).mono ?_
  rintro e w2 ⟨x, rfl, x0, x1, hC2, T2⟩
  have B2 := grow_below B1 (Nat.le_refl _) (Grow.touch T2)
  have K2 := K1.touch T2
  clear hC1 K1 B1 T2
  go_wp2_with fail
  refine (l1Below_any w.heap.size a b off n cap f 200 _ hC2 K2 hn (by omega) (by omega)).mono ?_
  rintro e w3 ⟨y, rfl, y0, y1, hC3, T3⟩
  have B3 := grow_below B2 (Nat.le_refl _) (Grow.touch T3)
  have K3 := K2.touch T3
  obtain ⟨p0, p1⟩ := mul_draw x0 (by omega) y0 (by omega)
  clear hC2 K2 B2 T3
  generalize hp : (1 + x) * y = P at *
  go_wp2_with fail
  refine (l1Below_any w.heap.size a b off n cap f 200 _ hC3 K3 hn (by omega) (by omega)).mono ?_
  rintro e w4 ⟨z, rfl, z0, z1, hC4, T4⟩
  have B4 := grow_below B3 (Nat.le_refl _) (Grow.touch T4)
  have K4 := K3.touch T4
  obtain ⟨q0, q1⟩ := mul_draw x0 (by omega) z0 (by omega)
  clear hC3 K3 B3 T4
  generalize hq : (1 + x) * z = Q at *
  go_wp2_with fail
  refine (l1Below_any w.heap.size a b off n cap f 20 _ hC4 K4 hn (by omega) (by omega)).mono ?_
  rintro e w5 ⟨v, rfl, v0, v1, hC5, T5⟩
  have B5 := grow_below B4 (Nat.le_refl _) (Grow.touch T5)
  have d0 : 0 ≤ v / 19 := by omega
  have d1 : v / 19 ≤ 1 := by omega
  clear hC4 K4 B4 T5 hC5
  go_wp2
  go_ret2
  exact ⟨P, Q - v / 19, rfl, p0, by omega, by omega, by omega, B5⟩

end Go.Proofs.Ytmkmojcefgcmlaa
