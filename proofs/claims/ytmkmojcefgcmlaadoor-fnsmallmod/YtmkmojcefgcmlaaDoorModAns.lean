/- Walks: the program's modAnswer: what no operation takes is refused; else the operation of that kind is called. -/
import Derived.Test.YtmkmojcefgcmlaaDoorModMul
namespace Go.Proofs.YtmkmojcefgcmlaaDoor
set_option linter.unusedVariables false
open Go.RowKit

theorem opsMap_at (w : World) : (w.alloc (.map opsMap 3)).heap[w.heap.size]? = some (.map opsMap 3) := (MapKept.heap_alloc w _).1

theorem below_map (w : World) : Below w.heap.size w (w.alloc (.map opsMap 3)) := (Below.refl _ _).alloc (Nat.le_refl _) _

set_option maxHeartbeats 800000 in
theorem modAnswer_bad (k : Int) (a : Option Addr) (b off n cap : Nat) (f : Nat → Int) (a2 : Option Addr) (b2 off2 n2 cap2 : Nat) (g : Nat → Int) (a3 : Option Addr) (b3 off3 n3 cap3 : Nat) (h : Nat → Int) (w : World)
    (hs : Seg w a b off n f) (hs2 : Seg w a2 b2 off2 n2 g) (hs3 : Seg w a3 b3 off3 n3 h) (hn : n ≤ 1048576) (hn2 : n2 ≤ 1048576) (hn3 : n3 ≤ 1048576) (hb : threeB n f n2 g n3 h = false) :
    Calls Tryd.prog 17 #[.int .i64 k, .slice a n cap, .slice a2 n2 cap2, .slice a3 n3 cap3] w fun e w' => GivesQ w none e w' := by
  cases k1 : natOk n f with
  | false =>
    clear hb
    go_enter Tryd.func17, Tryd.ntmps17
    go_wp2_with fail
    refine (implNatOk_any a b off n cap f _ hs hn).mono ?_
    rintro e w' ⟨rfl, hw⟩
    obtain rfl := hw.symm
    rw [k1]
    clear k1
    go_wp2
    go_ret2
    exact GivesQ.none rfl rfl ((Below.refl _ _).alloc (Nat.le_refl _) _)
  | true =>
    cases k2 : natOk n2 g with
    | false =>
      clear hb
      go_enter Tryd.func17, Tryd.ntmps17
      go_wp2_with fail
      refine (implNatOk_any a b off n cap f _ hs hn).mono ?_
      rintro e w' ⟨rfl, hw⟩
      obtain rfl := hw.symm
      rw [k1]
      clear k1
      go_wp2_with fail
      refine (implNatOk_any a2 b2 off2 n2 cap2 g _ hs2 hn2).mono ?_
      rintro e w' ⟨rfl, hw⟩
      obtain rfl := hw.symm
      rw [k2]
      clear k2
      go_wp2
      go_ret2
      exact GivesQ.none rfl rfl ((Below.refl _ _).alloc (Nat.le_refl _) _)
    | true =>
      cases k3 : natOk n3 h with
      | false =>
        clear hb
        go_enter Tryd.func17, Tryd.ntmps17
        go_wp2_with fail
        refine (implNatOk_any a b off n cap f _ hs hn).mono ?_
        rintro e w' ⟨rfl, hw⟩
        obtain rfl := hw.symm
        rw [k1]
        clear k1
        go_wp2_with fail
        refine (implNatOk_any a2 b2 off2 n2 cap2 g _ hs2 hn2).mono ?_
        rintro e w' ⟨rfl, hw⟩
        obtain rfl := hw.symm
        rw [k2]
        clear k2
        go_wp2_with fail
        refine (implNatOk_any a3 b3 off3 n3 cap3 h _ hs3 hn3).mono ?_
        rintro e w' ⟨rfl, hw⟩
        obtain rfl := hw.symm
        rw [k3]
        clear k3
        go_wp2
        go_ret2
        exact GivesQ.none rfl rfl ((Below.refl _ _).alloc (Nat.le_refl _) _)
      | true =>
        obtain rfl : n3 = 0 := by
          simp only [threeB, k1, k2, k3, Bool.true_and, Bool.not_eq_false', beq_iff_eq] at hb
          exact hb
        clear hb
        go_enter Tryd.func17, Tryd.ntmps17
        go_wp2_with fail
        refine (implNatOk_any a b off n cap f _ hs hn).mono ?_
        rintro e w' ⟨rfl, hw⟩
        obtain rfl := hw.symm
        rw [k1]
        clear k1
        go_wp2_with fail
        refine (implNatOk_any a2 b2 off2 n2 cap2 g _ hs2 hn2).mono ?_
        rintro e w' ⟨rfl, hw⟩
        obtain rfl := hw.symm
        rw [k2]
        clear k2
        go_wp2_with fail
        refine (implNatOk_any a3 b3 off3 0 cap3 h _ hs3 hn3).mono ?_
        rintro e w' ⟨rfl, hw⟩
        obtain rfl := hw.symm
        rw [k3]
        clear k3
        go_wp2
        go_ret2
        exact GivesQ.none rfl rfl ((Below.refl _ _).alloc (Nat.le_refl _) _)

set_option maxHeartbeats 800000 in
theorem modAnswer_times (a : Option Addr) (b off n cap : Nat) (f : Nat → Int) (a2 : Option Addr) (b2 off2 n2 cap2 : Nat) (g : Nat → Int) (a3 : Option Addr) (b3 off3 n3 cap3 : Nat) (h : Nat → Int) (w : World)
    (hs : Seg w a b off n f) (hs2 : Seg w a2 b2 off2 n2 g) (hs3 : Seg w a3 b3 off3 n3 h) (hn : n ≤ 1048576) (hn2 : n2 ≤ 1048576) (hn3 : n3 ≤ 1048576) (hb : threeB n f n2 g n3 h = true) (q : Option Int)
    (Hop : Hid (∀ w', Below w.heap.size w w' → Calls Tryd.prog 34 #[.slice a3 n3 cap3, .slice a n cap, .slice a2 n2 cap2] w' fun e w'' => GivesQ w' q e w'')) :
    Calls Tryd.prog 17 #[.int .i64 0, .slice a n cap, .slice a2 n2 cap2, .slice a3 n3 cap3] w fun e w' => GivesQ w q e w' := by
  obtain ⟨_, _, _, _, _, _, h0, k1, k2, k3⟩ := threeB_iff hb
  have hz : ((n3 : Int) == 0) = false := by simp; omega
  have hl := run_mapGet (P := Tryd.prog) (w.alloc (.map opsMap 3)) w.heap.size 53 40 52 opsMap 3 0 0 (.func (.func 34) #[] #[]) Tryd.underlying53 Tryd.underlying40 (opsMap_at w) rfl
  clear hb h0
  go_enter Tryd.func17, Tryd.ntmps17
  go_wp2_with fail
  refine (implNatOk_any a b off n cap f _ hs hn).mono ?_
  rintro e w' ⟨rfl, hw⟩
  obtain rfl := hw.symm
  rw [k1]
  clear k1
  go_wp2_with fail
  refine (implNatOk_any a2 b2 off2 n2 cap2 g _ hs2 hn2).mono ?_
  rintro e w' ⟨rfl, hw⟩
  obtain rfl := hw.symm
  rw [k2]
  clear k2
  go_wp2_with fail
  refine (implNatOk_any a3 b3 off3 n3 cap3 h _ hs3 hn3).mono ?_
  rintro e w' ⟨rfl, hw⟩
  obtain rfl := hw.symm
  rw [k3]
  clear k3
  go_wp2_with fail
  refine (modOperations_any _).mono ?_
  rintro e w1 ⟨rfl, hw⟩
  subst hw
  have B1 := below_map w
  go_wp2_with fail
  refine (Hop.out _ B1).mono ?_
  rintro e w2 ⟨a4, g4, cap4, n4, f4, ok4, rfl, k4, k5, k6, k7, k8⟩
  have B2 := B1.trans (k8.mono B1.size)
  have ge := B1.size
  clear hl B1 k8
  go_wp2
  go_ret2
  exact ⟨a4, g4, cap4, n4, f4, ok4, rfl, k4, k5, by omega, k7, B2⟩

set_option maxHeartbeats 800000 in
theorem modAnswer_power (a : Option Addr) (b off n cap : Nat) (f : Nat → Int) (a2 : Option Addr) (b2 off2 n2 cap2 : Nat) (g : Nat → Int) (a3 : Option Addr) (b3 off3 n3 cap3 : Nat) (h : Nat → Int) (w : World)
    (hs : Seg w a b off n f) (hs2 : Seg w a2 b2 off2 n2 g) (hs3 : Seg w a3 b3 off3 n3 h) (hn : n ≤ 1048576) (hn2 : n2 ≤ 1048576) (hn3 : n3 ≤ 1048576) (hb : threeB n f n2 g n3 h = true) (q : Option Int)
    (Hop : Hid (∀ w', Below w.heap.size w w' → Calls Tryd.prog 35 #[.slice a3 n3 cap3, .slice a n cap, .slice a2 n2 cap2] w' fun e w'' => GivesQ w' q e w'')) :
    Calls Tryd.prog 17 #[.int .i64 1, .slice a n cap, .slice a2 n2 cap2, .slice a3 n3 cap3] w fun e w' => GivesQ w q e w' := by
  obtain ⟨_, _, _, _, _, _, h0, k1, k2, k3⟩ := threeB_iff hb
  have hz : ((n3 : Int) == 0) = false := by simp; omega
  have hl := run_mapGet (P := Tryd.prog) (w.alloc (.map opsMap 3)) w.heap.size 53 40 52 opsMap 3 1 1 (.func (.func 35) #[] #[]) Tryd.underlying53 Tryd.underlying40 (opsMap_at w) rfl
  clear hb h0
  go_enter Tryd.func17, Tryd.ntmps17
  go_wp2_with fail
  refine (implNatOk_any a b off n cap f _ hs hn).mono ?_
  rintro e w' ⟨rfl, hw⟩
  obtain rfl := hw.symm
  rw [k1]
  clear k1
  go_wp2_with fail
  refine (implNatOk_any a2 b2 off2 n2 cap2 g _ hs2 hn2).mono ?_
  rintro e w' ⟨rfl, hw⟩
  obtain rfl := hw.symm
  rw [k2]
  clear k2
  go_wp2_with fail
  refine (implNatOk_any a3 b3 off3 n3 cap3 h _ hs3 hn3).mono ?_
  rintro e w' ⟨rfl, hw⟩
  obtain rfl := hw.symm
  rw [k3]
  clear k3
  go_wp2_with fail
  refine (modOperations_any _).mono ?_
  rintro e w1 ⟨rfl, hw⟩
  subst hw
  have B1 := below_map w
  go_wp2_with fail
  refine (Hop.out _ B1).mono ?_
  rintro e w2 ⟨a4, g4, cap4, n4, f4, ok4, rfl, k4, k5, k6, k7, k8⟩
  have B2 := B1.trans (k8.mono B1.size)
  have ge := B1.size
  clear hl B1 k8
  go_wp2
  go_ret2
  exact ⟨a4, g4, cap4, n4, f4, ok4, rfl, k4, k5, by omega, k7, B2⟩

set_option maxHeartbeats 800000 in
theorem modAnswer_inverse (a : Option Addr) (b off n cap : Nat) (f : Nat → Int) (a2 : Option Addr) (b2 off2 n2 cap2 : Nat) (g : Nat → Int) (a3 : Option Addr) (b3 off3 n3 cap3 : Nat) (h : Nat → Int) (w : World)
    (hs : Seg w a b off n f) (hs2 : Seg w a2 b2 off2 n2 g) (hs3 : Seg w a3 b3 off3 n3 h) (hn : n ≤ 1048576) (hn2 : n2 ≤ 1048576) (hn3 : n3 ≤ 1048576) (hb : threeB n f n2 g n3 h = true) (q : Option Int)
    (Hop : Hid (∀ w', Below w.heap.size w w' → Calls Tryd.prog 36 #[.slice a3 n3 cap3, .slice a n cap, .slice a2 n2 cap2] w' fun e w'' => GivesQ w' q e w'')) :
    Calls Tryd.prog 17 #[.int .i64 2, .slice a n cap, .slice a2 n2 cap2, .slice a3 n3 cap3] w fun e w' => GivesQ w q e w' := by
  obtain ⟨_, _, _, _, _, _, h0, k1, k2, k3⟩ := threeB_iff hb
  have hz : ((n3 : Int) == 0) = false := by simp; omega
  have hl := run_mapGet (P := Tryd.prog) (w.alloc (.map opsMap 3)) w.heap.size 53 40 52 opsMap 3 2 2 (.func (.func 36) #[] #[]) Tryd.underlying53 Tryd.underlying40 (opsMap_at w) rfl
  clear hb h0
  go_enter Tryd.func17, Tryd.ntmps17
  go_wp2_with fail
  refine (implNatOk_any a b off n cap f _ hs hn).mono ?_
  rintro e w' ⟨rfl, hw⟩
  obtain rfl := hw.symm
  rw [k1]
  clear k1
  go_wp2_with fail
  refine (implNatOk_any a2 b2 off2 n2 cap2 g _ hs2 hn2).mono ?_
  rintro e w' ⟨rfl, hw⟩
  obtain rfl := hw.symm
  rw [k2]
  clear k2
  go_wp2_with fail
  refine (implNatOk_any a3 b3 off3 n3 cap3 h _ hs3 hn3).mono ?_
  rintro e w' ⟨rfl, hw⟩
  obtain rfl := hw.symm
  rw [k3]
  clear k3
  go_wp2_with fail
  refine (modOperations_any _).mono ?_
  rintro e w1 ⟨rfl, hw⟩
  subst hw
  have B1 := below_map w
  go_wp2_with fail
  refine (Hop.out _ B1).mono ?_
  rintro e w2 ⟨a4, g4, cap4, n4, f4, ok4, rfl, k4, k5, k6, k7, k8⟩
  have B2 := B1.trans (k8.mono B1.size)
  have ge := B1.size
  clear hl B1 k8
  go_wp2
  go_ret2
  exact ⟨a4, g4, cap4, n4, f4, ok4, rfl, k4, k5, by omega, k7, B2⟩

end Go.Proofs.YtmkmojcefgcmlaaDoor
