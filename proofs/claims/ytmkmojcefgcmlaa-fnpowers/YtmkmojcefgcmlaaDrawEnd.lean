/- Walks: l1New, DrawNatMul, DrawNatDiv: some two lists of ints; and the laws' own big and at. -/
import Derived.Test.YtmkmojcefgcmlaaDraws
namespace Go.Proofs.Ytmkmojcefgcmlaa
set_option linter.unusedVariables false
open Go.RowKit

set_option maxHeartbeats 800000 in
set_option maxRecDepth 100000 in
theorem l1New_any (a : Option Addr) (b off n cap : Nat) (f : Nat → Int) (w : World) (hs : BSeg w a b off n f) (hB : ∀ i, i < n → 0 ≤ f i ∧ f i ≤ 255) (hn : n ≤ 1048576) :
    Calls Try.prog 38 #[.slice a n cap] w fun e w' => e = .returned (.pointer (some ⟨w.heap.size, 0, none⟩)) ∧ Cur w' w.heap.size a n cap ∧ w.heap.size < w'.heap.size ∧ Below w.heap.size w w' := by
  go_enter Try.func38, Try.ntmps38
  go_wp2
  go_loop [3, 4] (fun sh si => ∃ (k : Nat) (h : Int), k ≤ n ∧ si = .int .i64 k ∧ sh = .int .i64 h) (fun _ si => n - (intOf si).toNat)
  case atStart => exact ⟨0, _, by omega, rfl, rfl⟩
  case round =>
    obtain ⟨k, h, hk, rfl, rfl⟩ := hrel
    by_cases hlt : k < n
    · by_cases h4 : k < 4000
      · obtain rfl := hs.at' (by omega)
        have hc := hs.cell k hlt
        obtain ⟨b0, b1⟩ := hB k hlt
        have hkn : (k : Int) < (n : Int) := by omega
        go_wp2
        go_round
        case rel => exact ⟨k + 1, _, by omega, by go_num, rfl⟩
        case measure => simp [intOf]; omega
      · have hkn : (k : Int) < (n : Int) := by omega
        have h4' : ¬ (k : Int) < 4000 := by omega
        go_wp2
        go_ret
        refine ⟨rfl, ⟨?_, ⟨0, by omega, ?_⟩, ⟨h, ?_⟩, ?_, ?_⟩, by simp, (Below.refl _ _).alloc (Nat.le_refl _) _⟩
        all_goals first | exact World.cell?_alloc_at _ _ _ _ _ rfl | simp
    · go_wp2
      go_ret
      refine ⟨rfl, ⟨?_, ⟨0, by omega, ?_⟩, ⟨h, ?_⟩, ?_, ?_⟩, by simp, (Below.refl _ _).alloc (Nat.le_refl _) _⟩
      all_goals first | exact World.cell?_alloc_at _ _ _ _ _ rfl | simp

/-- Two drawn lists. -/
def GivesPair (w : World) (e : Ending) (w' : World) : Prop :=
  ∃ a1 g1 c1 m1 f1 a2 g2 c2 m2 f2, e = .returned (.tuple #[.slice a1 m1 c1, .slice a2 m2 c2]) ∧ m1 ≤ 200 ∧ m2 ≤ 200 ∧ Seg w' a1 g1 0 m1 f1 ∧ Seg w' a2 g2 0 m2 f2 ∧ Below w.heap.size w w'

theorem grow_below {C : Nat} {w0 w w' : World} (hb : Below w0.heap.size w0 w) (hC : w0.heap.size ≤ C) (h : Grow C w w') : Below w0.heap.size w0 w' :=
  hb.grown h hb.size (fun k e => by simp at e; omega)

set_option maxHeartbeats 800000 in
theorem drawNatMul_any (a : Option Addr) (b off n cap : Nat) (f : Nat → Int) (w : World) (hs : BSeg w a b off n f) (hB : ∀ i, i < n → 0 ≤ f i ∧ f i ≤ 255) (hn : n ≤ 1048576) :
    Calls Try.prog 9 #[.slice a n cap] w fun e w' => GivesPair w e w' := by
  go_enter Try.func9, Try.ntmps9
  go_wp2_with fail
  refine (l1New_any a b off n cap f _ hs hB hn).mono ?_
  rintro e w1 ⟨rfl, hC1, hlt1, B1⟩
  have K1 : Code w1 w.heap.size a b off n f := ⟨hs.of_all B1, hB, fun h => by have := hs.lt h; omega⟩
  go_wp2_with fail
  refine (l1DrawAny_any w.heap.size a b off n cap f _ hC1 K1 hn hlt1).mono ?_
  rintro e w2 ⟨a2, g2, c2, m2, f2, rfl, hm2, hg2, hO2, hC2, Gr2⟩
  have B2 := grow_below B1 (Nat.le_refl _) Gr2
  have sz2 := Gr2.size
  go_wp2_with fail
  refine (l1DrawAny_any w.heap.size a b off n cap f _ hC2 (K1.grow Gr2) hn (by omega)).mono ?_
  rintro e w3 ⟨a3, g3, c3, m3, f3, rfl, hm3, hg3, hO3, hC3, Gr3⟩
  have B3 := grow_below B2 (Nat.le_refl _) Gr3
  have s3 := hO2.grow Gr3 (fun _ => by omega)
  go_wp2
  go_ret2
  exact ⟨a2, g2, c2, m2, f2, a3, g3, c3, m3, f3, rfl, hm2, hm3, s3.toSeg, hO3.toSeg, B3⟩

set_option maxHeartbeats 800000 in
theorem drawNatDiv_any (a : Option Addr) (b off n cap : Nat) (f : Nat → Int) (w : World) (hs : BSeg w a b off n f) (hB : ∀ i, i < n → 0 ≤ f i ∧ f i ≤ 255) (hn : n ≤ 1048576) :
    Calls Try.prog 19 #[.slice a n cap] w fun e w' => GivesPair w e w' := by
  go_enter Try.func19, Try.ntmps19
  go_wp2_with fail
  refine (l1New_any a b off n cap f _ hs hB hn).mono ?_
  rintro e w1 ⟨rfl, hC1, hlt1, B1⟩
  have K1 : Code w1 w.heap.size a b off n f := ⟨hs.of_all B1, hB, fun h => by have := hs.lt h; omega⟩
  go_wp2_with fail
  refine (l1DrawNat_any w.heap.size a b off n cap f 4 _ hC1 K1 hn (by omega) (by omega) hlt1).mono ?_
  rintro e w2 ⟨g2, c2, m2, f2, rfl, hm2, hg2, hO2, _, hC2, Gr2⟩
  have B2 := grow_below B1 (Nat.le_refl _) Gr2
  have K2 := K1.grow Gr2
  have sz2 : w.heap.size < w2.heap.size := by have := Gr2.size; omega
  clear Gr2 hC1 K1 B1
  go_wp2_with fail
  refine (l1Once_any w.heap.size a b off n cap f 20 _ hC2 K2 hn (by omega) (by omega)).mono ?_
  rintro e w3 ⟨t, rfl, hC3, T3⟩
  have B3 := grow_below B2 (Nat.le_refl _) (Grow.touch T3)
  have K3 := K2.grow (Grow.touch T3)
  have s3 := hO2.grow (Grow.touch T3) (fun _ => by omega)
  have sz3 : w.heap.size < w3.heap.size := by have := (Grow.touch T3).size; omega
  clear hC2 K2 B2 hO2 T3
  cases t
  · go_wp2_with fail
    refine (l1DrawAny_any w.heap.size a b off n cap f _ hC3 K3 hn sz3).mono ?_
    rintro e w4 ⟨a4, g4, c4, m4, f4, rfl, hm4, hg4, hO4, hC4, Gr4⟩
    have B4 := grow_below B3 (Nat.le_refl _) Gr4
    have s4 := s3.grow Gr4 (fun _ => by omega)
    go_wp2
    go_ret2
    exact ⟨a4, g4, c4, m4, f4, _, g2, c2, m2, f2, rfl, hm4, by omega, hO4.toSeg, s4.toSeg, B4⟩
  · go_wp2_with fail
    refine (l1DrawAny_any w.heap.size a b off n cap f _ hC3 K3 hn sz3).mono ?_
    rintro e w4 ⟨a4, g4, c4, m4, f4, rfl, hm4, hg4, hO4, hC4, Gr4⟩
    have B4 := grow_below B3 (Nat.le_refl _) Gr4
    have K4 := K3.grow Gr4
    have sz4 : w.heap.size < w4.heap.size := by have := Gr4.size; omega
    go_wp2_with fail
    refine (l1DrawAny_any w.heap.size a b off n cap f _ hC4 K4 hn sz4).mono ?_
    rintro e w5 ⟨a5, g5, c5, m5, f5, rfl, hm5, hg5, hO5, hC5, Gr5⟩
    have B5 := grow_below B4 (Nat.le_refl _) Gr5
    have s5 := hO4.grow Gr5 (fun _ => by omega)
    go_wp2
    go_ret2
    exact ⟨a5, g5, c5, m5, f5, a4, g4, c4, m4, f4, rfl, hm5, hm4, hO5.toSeg, s5.toSeg, B5⟩

set_option maxHeartbeats 400000 in
theorem at_any (a : Option Addr) (b off n cap : Nat) (f : Nat → Int) (i : Nat) (w : World) (hs : BSeg w a b off n f) (hB : ∀ i, i < n → 0 ≤ f i ∧ f i ≤ 255) (hn : n ≤ 1048576) (hi : i ≤ 1000) :
    Calls Try.prog 15 #[.slice a n cap, .int .i64 i] w fun e w' => ∃ x, e = .returned (.int .i64 x) ∧ 0 ≤ x ∧ x ≤ 255 ∧ w' = w := by
  by_cases h : i < n
  · obtain rfl := hs.at' (by omega)
    have hc := hs.cell i h
    obtain ⟨b0, b1⟩ := hB i h
    have hin : (i : Int) < (n : Int) := by omega
    go_enter Try.func15, Try.ntmps15
    go_wp2
    go_ret
    exact ⟨f i, rfl, b0, b1, rfl⟩
  · have hin : ¬ (i : Int) < (n : Int) := by omega
    go_enter Try.func15, Try.ntmps15
    go_wp2
    go_ret
    exact ⟨_, rfl, by omega, by omega, rfl⟩

end Go.Proofs.Ytmkmojcefgcmlaa
