/- Walks: NatAdd, the model's and the program's. -/
import Derived.Test.YtmkmojcefgcmlaaDSum
namespace Go.Proofs.Ytmkmojcefgcmlaa
set_option linter.unusedVariables false
open Go.RowKit

/-- NatAdd's answer. -/
def addQ (n : Nat) (f : Nat → Int) (n2 : Nat) (g : Nat → Int) : Option Int := if natOk n f && natOk n2 g then fitQ (val f n + val g n2) else none

set_option maxHeartbeats 800000 in
theorem specNatAdd_any (a : Option Addr) (b off n cap : Nat) (f : Nat → Int) (a2 : Option Addr) (b2 off2 n2 cap2 : Nat) (g : Nat → Int) (w : World) (hs : Seg w a b off n f) (hs2 : Seg w a2 b2 off2 n2 g)
    (hn : n ≤ 1048576) (hn2 : n2 ≤ 1048576) :
    Calls Try.prog 32 #[.slice a n cap, .slice a2 n2 cap2] w fun e w' => GivesQ w (addQ n f n2 g) e w' := by
  cases hok : natOk n f with
  | false =>
    have Hv : Hid (addQ n f n2 g = none) := by show _ = _; simp [addQ, hok]
    go_enter Try.func32, Try.ntmps32
    go_wp2_with fail
    refine (specNatOk_any a b off n cap f _ hs hn).mono ?_
    rintro e w' ⟨rfl, hw⟩
    obtain rfl := hw.symm
    rw [hok]
    clear hok
    go_wp2
    go_ret2
    exact GivesQ.none Hv.out rfl ((Below.refl _ _).alloc (Nat.le_refl _) _)
  | true =>
    cases hok2 : natOk n2 g with
    | false =>
      have Hv : Hid (addQ n f n2 g = none) := by show _ = _; simp [addQ, hok2]
      go_enter Try.func32, Try.ntmps32
      go_wp2_with fail
      refine (specNatOk_any a b off n cap f _ hs hn).mono ?_
      rintro e w' ⟨rfl, hw⟩
      obtain rfl := hw.symm
      rw [hok]
      clear hok
      go_wp2_with fail
      refine (specNatOk_any a2 b2 off2 n2 cap2 g _ hs2 hn2).mono ?_
      rintro e w' ⟨rfl, hw⟩
      obtain rfl := hw.symm
      rw [hok2]
      clear hok2
      go_wp2
      go_ret2
      exact GivesQ.none Hv.out rfl ((Below.refl _ _).alloc (Nat.le_refl _) _)
    | true =>
      have c1 : Canon n f := ⟨((natOk_iff n f).1 hok).1, ((natOk_iff n f).1 hok).2.2⟩
      have c2 : Canon n2 g := ⟨((natOk_iff n2 g).1 hok2).1, ((natOk_iff n2 g).1 hok2).2.2⟩
      have l1 : n ≤ 64 := ((natOk_iff n f).1 hok).2.1
      have l2 : n2 ≤ 64 := ((natOk_iff n2 g).1 hok2).2.1
      have Hv : Hid (addQ n f n2 g = fitQ (val f n + val g n2)) := by show _ = _; simp [addQ, hok, hok2]
      go_enter Try.func32, Try.ntmps32
      go_wp2_with fail
      refine (specNatOk_any a b off n cap f _ hs hn).mono ?_
      rintro e w' ⟨rfl, hw⟩
      obtain rfl := hw.symm
      rw [hok]
      clear hok
      go_wp2_with fail
      refine (specNatOk_any a2 b2 off2 n2 cap2 g _ hs2 hn2).mono ?_
      rintro e w' ⟨rfl, hw⟩
      obtain rfl := hw.symm
      rw [hok2]
      clear hok2
      go_wp2_with fail
      refine (l1Add_any a b off n cap f a2 b2 off2 n2 cap2 g _ hs hs2 (by omega) (by omega) c1.digs c2.digs).mono ?_
      rintro e w1 ⟨g1, cap1, m, f1, rfl, hm, hc, hC, hV, hg1, hO1, hB1⟩
      have HV : Hid (val f1 m = val f n + val g n2) := hV
      clear hV
      go_wp2_with fail
      refine (l1Fits_any w _ g1 m cap1 f1 _ hO1 hm hC hg1 hB1).mono ?_
      rintro e w2 hG
      rw [HV.out, ← Hv.out] at hG
      obtain ⟨a3, g3, cap3, n3, f3, ok3, rfl, hG⟩ := hG
      go_wp2
      go_ret2
      exact ⟨a3, g3, cap3, n3, f3, ok3, rfl, hG⟩

set_option maxHeartbeats 800000 in
theorem implNatAdd_any (a : Option Addr) (b off n cap : Nat) (f : Nat → Int) (a2 : Option Addr) (b2 off2 n2 cap2 : Nat) (g : Nat → Int) (w : World) (hs : Seg w a b off n f) (hs2 : Seg w a2 b2 off2 n2 g)
    (hn : n ≤ 1048576) (hn2 : n2 ≤ 1048576) :
    Calls Try.prog 11 #[.slice a n cap, .slice a2 n2 cap2] w fun e w' => GivesQ w (addQ n f n2 g) e w' := by
  cases hok : natOk n f with
  | false =>
    have Hv : Hid (addQ n f n2 g = none) := by show _ = _; simp [addQ, hok]
    go_enter Try.func11, Try.ntmps11
    go_wp2_with fail
    refine (implNatOk_any a b off n cap f _ hs hn).mono ?_
    rintro e w' ⟨rfl, hw⟩
    obtain rfl := hw.symm
    rw [hok]
    clear hok
    go_wp2
    go_ret2
    exact GivesQ.none Hv.out rfl ((Below.refl _ _).alloc (Nat.le_refl _) _)
  | true =>
    cases hok2 : natOk n2 g with
    | false =>
      have Hv : Hid (addQ n f n2 g = none) := by show _ = _; simp [addQ, hok2]
      go_enter Try.func11, Try.ntmps11
      go_wp2_with fail
      refine (implNatOk_any a b off n cap f _ hs hn).mono ?_
      rintro e w' ⟨rfl, hw⟩
      obtain rfl := hw.symm
      rw [hok]
      clear hok
      go_wp2_with fail
      refine (implNatOk_any a2 b2 off2 n2 cap2 g _ hs2 hn2).mono ?_
      rintro e w' ⟨rfl, hw⟩
      obtain rfl := hw.symm
      rw [hok2]
      clear hok2
      go_wp2
      go_ret2
      exact GivesQ.none Hv.out rfl ((Below.refl _ _).alloc (Nat.le_refl _) _)
    | true =>
      have c1 : Canon n f := ⟨((natOk_iff n f).1 hok).1, ((natOk_iff n f).1 hok).2.2⟩
      have c2 : Canon n2 g := ⟨((natOk_iff n2 g).1 hok2).1, ((natOk_iff n2 g).1 hok2).2.2⟩
      have l1 : n ≤ 64 := ((natOk_iff n f).1 hok).2.1
      have l2 : n2 ≤ 64 := ((natOk_iff n2 g).1 hok2).2.1
      have Hv : Hid (addQ n f n2 g = fitQ (val f n + val g n2)) := by show _ = _; simp [addQ, hok, hok2]
      go_enter Try.func11, Try.ntmps11
      go_wp2_with fail
      refine (implNatOk_any a b off n cap f _ hs hn).mono ?_
      rintro e w' ⟨rfl, hw⟩
      obtain rfl := hw.symm
      rw [hok]
      clear hok
      go_wp2_with fail
      refine (implNatOk_any a2 b2 off2 n2 cap2 g _ hs2 hn2).mono ?_
      rintro e w' ⟨rfl, hw⟩
      obtain rfl := hw.symm
      rw [hok2]
      clear hok2
      go_wp2_with fail
      refine (digitsSum_any a b off n cap f a2 b2 off2 n2 cap2 g _ hs hs2 (by omega) (by omega) c1.digs c2.digs).mono ?_
      rintro e w1 ⟨g1, cap1, m, f1, rfl, hm, hc, hC, hV, hg1, hO1, hB1⟩
      have HV := hide hV
      clear hV
      go_wp2_with fail
      refine (withinMaxDigits_any w _ g1 m cap1 f1 _ hO1 hm hC hg1 hB1).mono ?_
      rintro e w2 hG
      rw [HV.out, ← Hv.out] at hG
      obtain ⟨a3, g3, cap3, n3, f3, ok3, rfl, hG⟩ := hG
      go_wp2
      go_ret2
      exact ⟨a3, g3, cap3, n3, f3, ok3, rfl, hG⟩

end Go.Proofs.Ytmkmojcefgcmlaa
