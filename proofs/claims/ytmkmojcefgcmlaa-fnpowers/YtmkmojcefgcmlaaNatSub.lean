/- Walks: NatSub, the model's and the program's. -/
import Derived.Test.YtmkmojcefgcmlaaDDiff
import Derived.Test.YtmkmojcefgcmlaaCmp
namespace Go.Proofs.Ytmkmojcefgcmlaa
set_option linter.unusedVariables false
open Go.RowKit

/-- NatSub's answer. -/
def subQ (n : Nat) (f : Nat → Int) (n2 : Nat) (g : Nat → Int) : Option Int := if natOk n f && natOk n2 g && !decide (val f n < val g n2) then some (val f n - val g n2) else none

set_option maxHeartbeats 800000 in
theorem specNatSub_any (a : Option Addr) (b off n cap : Nat) (f : Nat → Int) (a2 : Option Addr) (b2 off2 n2 cap2 : Nat) (g : Nat → Int) (w : World) (hs : Seg w a b off n f) (hs2 : Seg w a2 b2 off2 n2 g)
    (hn : n ≤ 1048576) (hn2 : n2 ≤ 1048576) :
    Calls Try.prog 37 #[.slice a n cap, .slice a2 n2 cap2] w fun e w' => GivesQ w (subQ n f n2 g) e w' := by
  cases hok : natOk n f with
  | false =>
    have Hv : Hid (subQ n f n2 g = none) := by show _ = _; simp [subQ, hok]
    go_enter Try.func37, Try.ntmps37
    go_wp2_with fail
    refine (specNatOk_any a b off n cap f _ hs hn).mono ?_
    rintro e w' ⟨rfl, hw⟩
    obtain rfl := hw.symm
    rw [hok]
    clear hok
    go_wp2
    go_ret2
    exact GivesQ.none Hv.out rfl ((Below.refl _ _).alloc (Nat.le_refl _) _)
  | true =>
    cases hok2 : natOk n2 g with
    | false =>
      have Hv : Hid (subQ n f n2 g = none) := by show _ = _; simp [subQ, hok2]
      go_enter Try.func37, Try.ntmps37
      go_wp2_with fail
      refine (specNatOk_any a b off n cap f _ hs hn).mono ?_
      rintro e w' ⟨rfl, hw⟩
      obtain rfl := hw.symm
      rw [hok]
      clear hok
      go_wp2_with fail
      refine (specNatOk_any a2 b2 off2 n2 cap2 g _ hs2 hn2).mono ?_
      rintro e w' ⟨rfl, hw⟩
      obtain rfl := hw.symm
      rw [hok2]
      clear hok2
      go_wp2
      go_ret2
      exact GivesQ.none Hv.out rfl ((Below.refl _ _).alloc (Nat.le_refl _) _)
    | true =>
      have c1 : Canon n f := ⟨((natOk_iff n f).1 hok).1, ((natOk_iff n f).1 hok).2.2⟩
      have c2 : Canon n2 g := ⟨((natOk_iff n2 g).1 hok2).1, ((natOk_iff n2 g).1 hok2).2.2⟩
      have l1 : n ≤ 64 := ((natOk_iff n f).1 hok).2.1
      have l2 : n2 ≤ 64 := ((natOk_iff n2 g).1 hok2).2.1
      by_cases hlt : val f n < val g n2
      · have Hv : Hid (subQ n f n2 g = none) := by show _ = _; simp [subQ, hlt]
        go_enter Try.func37, Try.ntmps37
        go_wp2_with fail
        refine (specNatOk_any a b off n cap f _ hs hn).mono ?_
        rintro e w' ⟨rfl, hw⟩
        obtain rfl := hw.symm
        rw [hok]
        clear hok
        go_wp2_with fail
        refine (specNatOk_any a2 b2 off2 n2 cap2 g _ hs2 hn2).mono ?_
        rintro e w' ⟨rfl, hw⟩
        obtain rfl := hw.symm
        rw [hok2]
        clear hok2
        go_wp2_with fail
        refine (l1Compare_any a b off n cap f a2 b2 off2 n2 cap2 g _ hs hs2 hn hn2 c1 c2).mono ?_
        rintro e w1 ⟨rfl, hQ⟩
        rw [cmpV_lt hlt]
        have B1 := hQ.below w.heap.size
        clear hlt hQ
        go_wp2
        go_ret2
        exact GivesQ.none Hv.out rfl (B1.alloc B1.size _)
      · have Hv : Hid (subQ n f n2 g = some (val f n - val g n2)) := by show _ = _; simp [subQ, hok, hok2]; omega
        have hle : val g n2 ≤ val f n := by omega
        have hcl := canon_le c1 c2 hle
        have h0 : ¬ cmpV (val f n) (val g n2) < 0 := by simp only [cmpV, if_neg hlt]; split <;> omega
        go_enter Try.func37, Try.ntmps37
        go_wp2_with fail
        refine (specNatOk_any a b off n cap f _ hs hn).mono ?_
        rintro e w' ⟨rfl, hw⟩
        obtain rfl := hw.symm
        rw [hok]
        clear hok
        go_wp2_with fail
        refine (specNatOk_any a2 b2 off2 n2 cap2 g _ hs2 hn2).mono ?_
        rintro e w' ⟨rfl, hw⟩
        obtain rfl := hw.symm
        rw [hok2]
        clear hok2
        go_wp2_with fail
        refine (l1Compare_any a b off n cap f a2 b2 off2 n2 cap2 g _ hs hs2 hn hn2 c1 c2).mono ?_
        rintro e w1 ⟨rfl, hQ⟩
        have B1 := hQ.below w.heap.size
        have s1 := hs.of_all B1
        have t1 := hs2.of_all B1
        generalize cmpV (val f n) (val g n2) = cc at *
        clear hlt hQ
        go_wp2_with fail
        refine (l1Sub_any a b off n cap f a2 b2 off2 n2 cap2 g _ s1 t1 (by omega) hcl c1.digs c2.digs hle).mono ?_
        rintro e w2 ⟨g3, cap3, m, f3, rfl, hm, hc, hC, hV, hg3, hO3, hB3⟩
        have HV : Hid (val f3 m = val f n - val g n2) := hV
        have B2 := B1.trans (hB3.mono B1.size)
        have G2 : w.heap.size ≤ g3 := by have := B1.size; omega
        clear hV hB3 hg3 B1 s1 t1
        go_wp2
        go_ret2
        refine ⟨_, g3, cap3, m, f3, true, rfl, hm, ?_, G2, hO3, B2⟩
        rw [Hv.out]
        exact ⟨hC, HV.out, rfl⟩

set_option maxHeartbeats 800000 in
theorem implNatSub_any (a : Option Addr) (b off n cap : Nat) (f : Nat → Int) (a2 : Option Addr) (b2 off2 n2 cap2 : Nat) (g : Nat → Int) (w : World) (hs : Seg w a b off n f) (hs2 : Seg w a2 b2 off2 n2 g)
    (hn : n ≤ 1048576) (hn2 : n2 ≤ 1048576) :
    Calls Try.prog 16 #[.slice a n cap, .slice a2 n2 cap2] w fun e w' => GivesQ w (subQ n f n2 g) e w' := by
  cases hok : natOk n f with
  | false =>
    have Hv : Hid (subQ n f n2 g = none) := by show _ = _; simp [subQ, hok]
    go_enter Try.func16, Try.ntmps16
    go_wp2_with fail
    refine (implNatOk_any a b off n cap f _ hs hn).mono ?_
    rintro e w' ⟨rfl, hw⟩
    obtain rfl := hw.symm
    rw [hok]
    clear hok
    go_wp2
    go_ret2
    exact GivesQ.none Hv.out rfl ((Below.refl _ _).alloc (Nat.le_refl _) _)
  | true =>
    cases hok2 : natOk n2 g with
    | false =>
      have Hv : Hid (subQ n f n2 g = none) := by show _ = _; simp [subQ, hok2]
      go_enter Try.func16, Try.ntmps16
      go_wp2_with fail
      refine (implNatOk_any a b off n cap f _ hs hn).mono ?_
      rintro e w' ⟨rfl, hw⟩
      obtain rfl := hw.symm
      rw [hok]
      clear hok
      go_wp2_with fail
      refine (implNatOk_any a2 b2 off2 n2 cap2 g _ hs2 hn2).mono ?_
      rintro e w' ⟨rfl, hw⟩
      obtain rfl := hw.symm
      rw [hok2]
      clear hok2
      go_wp2
      go_ret2
      exact GivesQ.none Hv.out rfl ((Below.refl _ _).alloc (Nat.le_refl _) _)
    | true =>
      have c1 : Canon n f := ⟨((natOk_iff n f).1 hok).1, ((natOk_iff n f).1 hok).2.2⟩
      have c2 : Canon n2 g := ⟨((natOk_iff n2 g).1 hok2).1, ((natOk_iff n2 g).1 hok2).2.2⟩
      have l1 : n ≤ 64 := ((natOk_iff n f).1 hok).2.1
      have l2 : n2 ≤ 64 := ((natOk_iff n2 g).1 hok2).2.1
      by_cases hlt : val f n < val g n2
      · have Hv : Hid (subQ n f n2 g = none) := by show _ = _; simp [subQ, hlt]
        go_enter Try.func16, Try.ntmps16
        go_wp2_with fail
        refine (implNatOk_any a b off n cap f _ hs hn).mono ?_
        rintro e w' ⟨rfl, hw⟩
        obtain rfl := hw.symm
        rw [hok]
        clear hok
        go_wp2_with fail
        refine (implNatOk_any a2 b2 off2 n2 cap2 g _ hs2 hn2).mono ?_
        rintro e w' ⟨rfl, hw⟩
        obtain rfl := hw.symm
        rw [hok2]
        clear hok2
        go_wp2_with fail
        refine (compareDigits_any a b off n cap f a2 b2 off2 n2 cap2 g _ hs hs2 hn hn2 c1 c2).mono ?_
        rintro e w1 ⟨rfl, hQ⟩
        rw [cmpV_lt hlt]
        have B1 := hQ.below w.heap.size
        clear hlt hQ
        go_wp2
        go_ret2
        exact GivesQ.none Hv.out rfl (B1.alloc B1.size _)
      · have Hv : Hid (subQ n f n2 g = some (val f n - val g n2)) := by show _ = _; simp [subQ, hok, hok2]; omega
        have hle : val g n2 ≤ val f n := by omega
        have hcl := canon_le c1 c2 hle
        have h0 : ¬ cmpV (val f n) (val g n2) < 0 := by simp only [cmpV, if_neg hlt]; split <;> omega
        go_enter Try.func16, Try.ntmps16
        go_wp2_with fail
        refine (implNatOk_any a b off n cap f _ hs hn).mono ?_
        rintro e w' ⟨rfl, hw⟩
        obtain rfl := hw.symm
        rw [hok]
        clear hok
        go_wp2_with fail
        refine (implNatOk_any a2 b2 off2 n2 cap2 g _ hs2 hn2).mono ?_
        rintro e w' ⟨rfl, hw⟩
        obtain rfl := hw.symm
        rw [hok2]
        clear hok2
        go_wp2_with fail
        refine (compareDigits_any a b off n cap f a2 b2 off2 n2 cap2 g _ hs hs2 hn hn2 c1 c2).mono ?_
        rintro e w1 ⟨rfl, hQ⟩
        have B1 := hQ.below w.heap.size
        have s1 := hs.of_all B1
        have t1 := hs2.of_all B1
        generalize cmpV (val f n) (val g n2) = cc at *
        clear hlt hQ
        go_wp2_with fail
        refine (digitsDifference_any a b off n cap f a2 b2 off2 n2 cap2 g _ s1 t1 (by omega) hcl c1.digs c2.digs hle).mono ?_
        rintro e w2 ⟨g3, cap3, m, f3, rfl, hm, hc, hC, hV, hg3, hO3, hB3⟩
        have HV : Hid (val f3 m = val f n - val g n2) := hV
        have B2 := B1.trans (hB3.mono B1.size)
        have G2 : w.heap.size ≤ g3 := by have := B1.size; omega
        clear hV hB3 hg3 B1 s1 t1
        go_wp2
        go_ret2
        refine ⟨_, g3, cap3, m, f3, true, rfl, hm, ?_, G2, hO3, B2⟩
        rw [Hv.out]
        exact ⟨hC, HV.out, rfl⟩

end Go.Proofs.Ytmkmojcefgcmlaa
