/- Walks: the model's NatCompare and NatBits, and the program's. -/
import Derived.Test.YtmkmojcefgcmlaaCmp
import Derived.Test.YtmkmojcefgcmlaaL1Bits
namespace Go.Proofs.Ytmkmojcefgcmlaa
set_option linter.unusedVariables false
open Go.RowKit

theorem natOk_canon {n : Nat} {f : Nat → Int} (h : natOk n f = true) : Canon n f :=
  ⟨((natOk_iff n f).1 h).1, ((natOk_iff n f).1 h).2.2⟩

/-- NatCompare's answer. -/
def cmpQ (n : Nat) (f : Nat → Int) (n2 : Nat) (g : Nat → Int) : Int := if natOk n f && natOk n2 g then cmpV (val f n) (val g n2) else -2

set_option maxHeartbeats 800000 in
theorem implNatCompare_any (a : Option Addr) (b off n cap : Nat) (f : Nat → Int) (a2 : Option Addr) (b2 off2 n2 cap2 : Nat) (g : Nat → Int) (w : World) (hs : Seg w a b off n f) (hs2 : Seg w a2 b2 off2 n2 g)
    (hn : n ≤ 1048576) (hn2 : n2 ≤ 1048576) :
    Calls Try.prog 13 #[.slice a n cap, .slice a2 n2 cap2] w fun e w' => e = .returned (.int .i64 (cmpQ n f n2 g)) ∧ Drawn w w' := by
  cases hok : natOk n f with
  | false =>
    have Hv : Hid (cmpQ n f n2 g = -2) := by show _ = _; simp [cmpQ, hok]
    go_enter Try.func13, Try.ntmps13
    go_wp2_with fail
    refine (implNatOk_any a b off n cap f _ hs hn).mono ?_
    rintro e w' ⟨rfl, hw⟩
    subst hw
    rw [hok]
    clear hok
    go_wp2
    go_ret
    exact ⟨ret_int Hv.out.symm, Drawn.refl _⟩
  | true =>
    cases hok2 : natOk n2 g with
    | false =>
      have Hv : Hid (cmpQ n f n2 g = -2) := by show _ = _; simp [cmpQ, hok2]
      go_enter Try.func13, Try.ntmps13
      go_wp2_with fail
      refine (implNatOk_any a b off n cap f _ hs hn).mono ?_
      rintro e w' ⟨rfl, hw⟩
      subst hw
      rw [hok]
      clear hok
      go_wp2_with fail
      refine (implNatOk_any a2 b2 off2 n2 cap2 g _ hs2 hn2).mono ?_
      rintro e w' ⟨rfl, hw⟩
      subst hw
      rw [hok2]
      clear hok2
      go_wp2
      go_ret
      exact ⟨ret_int Hv.out.symm, Drawn.refl _⟩
    | true =>
      have Hv : Hid (cmpQ n f n2 g = cmpV (val f n) (val g n2)) := by show _ = _; simp [cmpQ, hok, hok2]
      have c1 := natOk_canon hok
      have c2 := natOk_canon hok2
      go_enter Try.func13, Try.ntmps13
      go_wp2_with fail
      refine (implNatOk_any a b off n cap f _ hs hn).mono ?_
      rintro e w' ⟨rfl, hw⟩
      subst hw
      rw [hok]
      clear hok
      go_wp2_with fail
      refine (implNatOk_any a2 b2 off2 n2 cap2 g _ hs2 hn2).mono ?_
      rintro e w' ⟨rfl, hw⟩
      subst hw
      rw [hok2]
      clear hok2
      go_wp2_with fail
      refine (compareDigits_any a b off n cap f a2 b2 off2 n2 cap2 g _ hs hs2 hn hn2 c1 c2).mono ?_
      rintro e w' ⟨rfl, hQ⟩
      go_wp2
      go_ret
      exact ⟨ret_int Hv.out.symm, hQ⟩

/-- NatBits' answer. -/
def bitsQ (n : Nat) (f : Nat → Int) : Int := if natOk n f then bitsOf n f else -1

set_option maxHeartbeats 400000 in
theorem implNatBits_any (a : Option Addr) (b off n cap : Nat) (f : Nat → Int) (w : World) (hs : Seg w a b off n f) (hn : n ≤ 1048576) :
    Calls Try.prog 22 #[.slice a n cap] w fun e w' => e = .returned (.int .i64 (bitsQ n f)) ∧ w' = w := by
  cases hok : natOk n f with
  | false =>
    have Hv : Hid (bitsQ n f = -1) := by show _ = _; simp [bitsQ, hok]
    go_enter Try.func22, Try.ntmps22
    go_wp2_with fail
    refine (implNatOk_any a b off n cap f _ hs hn).mono ?_
    rintro e w' ⟨rfl, hw⟩
    subst hw
    rw [hok]
    clear hok
    go_wp2
    go_ret
    exact ⟨ret_int Hv.out.symm, rfl⟩
  | true =>
    have Hv : Hid (bitsQ n f = bitsOf n f) := by show _ = _; simp [bitsQ, hok]
    have ht := ok_top hok
    go_enter Try.func22, Try.ntmps22
    go_wp2_with fail
    refine (implNatOk_any a b off n cap f _ hs hn).mono ?_
    rintro e w' ⟨rfl, hw⟩
    subst hw
    rw [hok]
    clear hok
    go_wp2_with fail
    refine (digitsBits_any a b off n cap f _ hs hn ht).mono ?_
    rintro e w' ⟨rfl, hw⟩
    subst hw
    go_wp2
    go_ret
    exact ⟨ret_int Hv.out.symm, rfl⟩

end Go.Proofs.Ytmkmojcefgcmlaa
