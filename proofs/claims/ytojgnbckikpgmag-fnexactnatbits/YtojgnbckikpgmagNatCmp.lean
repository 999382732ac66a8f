/- Walks: the model's NatCompare and NatBits, and the program's. -/
import Derived.Test.YtojgnbckikpgmagCmp
import Derived.Test.YtojgnbckikpgmagBitLen
namespace Go.Proofs.Ytojgnbckikpgmag
set_option linter.unusedVariables false
open Go.RowKit

theorem natOk_canon {n : Nat} {f : Nat → Int} (h : natOk n f = true) : Canon n f :=
  ⟨((natOk_iff n f).1 h).1, ((natOk_iff n f).1 h).2.2⟩

/-- NatCompare's answer. -/
def cmpQ (n : Nat) (f : Nat → Int) (n2 : Nat) (g : Nat → Int) : Int := if natOk n f && natOk n2 g then cmpV (val f n) (val g n2) else -2

set_option maxHeartbeats 800000 in
theorem specNatCompare_any (a : Option Addr) (b off n cap : Nat) (f : Nat → Int) (a2 : Option Addr) (b2 off2 n2 cap2 : Nat) (g : Nat → Int) (w : World) (hs : Seg w a b off n f) (hs2 : Seg w a2 b2 off2 n2 g)
    (hn : n ≤ 1048576) (hn2 : n2 ≤ 1048576) :
    Calls Try.prog 9 #[.slice a n cap, .slice a2 n2 cap2] w fun e w' => e = .returned (.int .i64 (cmpQ n f n2 g)) ∧ Drawn w w' := by
  cases hok : natOk n f with
  | false =>
    have Hv : Hid (cmpQ n f n2 g = -2) := by show _ = _; simp [cmpQ, hok]
    go_enter Try.func9, Try.ntmps9
    go_wp2_with fail
    refine (specNatOk_any a b off n cap f _ hs hn).mono ?_
    rintro e w' ⟨rfl, hw⟩
    subst hw
    rw [hok]
    clear hok
    go_wp2
    go_ret
    exact ⟨ret_int Hv.out.symm, Drawn.refl _⟩
  | true =>
    cases hok2 : natOk n2 g with
    | false =>
      have Hv : Hid (cmpQ n f n2 g = -2) := by show _ = _; simp [cmpQ, hok2]
      go_enter Try.func9, Try.ntmps9
      go_wp2_with fail
      refine (specNatOk_any a b off n cap f _ hs hn).mono ?_
      rintro e w' ⟨rfl, hw⟩
      subst hw
      rw [hok]
      clear hok
      go_wp2_with fail
      refine (specNatOk_any a2 b2 off2 n2 cap2 g _ hs2 hn2).mono ?_
      rintro e w' ⟨rfl, hw⟩
      subst hw
      rw [hok2]
      clear hok2
      go_wp2
      go_ret
      exact ⟨ret_int Hv.out.symm, Drawn.refl _⟩
    | true =>
      have Hv : Hid (cmpQ n f n2 g = cmpV (val f n) (val g n2)) := by show _ = _; simp [cmpQ, hok, hok2]
      have c1 := natOk_canon hok
      have c2 := natOk_canon hok2
      go_enter Try.func9, Try.ntmps9
      go_wp2_with fail
      refine (specNatOk_any a b off n cap f _ hs hn).mono ?_
      rintro e w' ⟨rfl, hw⟩
      subst hw
      rw [hok]
      clear hok
      go_wp2_with fail
      refine (specNatOk_any a2 b2 off2 n2 cap2 g _ hs2 hn2).mono ?_
      rintro e w' ⟨rfl, hw⟩
      subst hw
      rw [hok2]
      clear hok2
      go_wp2_with fail
      refine (l1Compare_any a b off n cap f a2 b2 off2 n2 cap2 g _ hs hs2 hn hn2 c1 c2).mono ?_
      rintro e w' ⟨rfl, hQ⟩
      go_wp2
      go_ret
      exact ⟨ret_int Hv.out.symm, hQ⟩

set_option maxHeartbeats 800000 in
theorem implNatCompare_any (a : Option Addr) (b off n cap : Nat) (f : Nat → Int) (a2 : Option Addr) (b2 off2 n2 cap2 : Nat) (g : Nat → Int) (w : World) (hs : Seg w a b off n f) (hs2 : Seg w a2 b2 off2 n2 g)
    (hn : n ≤ 1048576) (hn2 : n2 ≤ 1048576) :
    Calls Try.prog 11 #[.slice a n cap, .slice a2 n2 cap2] w fun e w' => e = .returned (.int .i64 (cmpQ n f n2 g)) ∧ Drawn w w' := by
  cases hok : natOk n f with
  | false =>
    have Hv : Hid (cmpQ n f n2 g = -2) := by show _ = _; simp [cmpQ, hok]
    go_enter Try.func11, Try.ntmps11
    go_wp2_with fail
    refine (implNatOk_any a b off n cap f _ hs hn).mono ?_
    rintro e w' ⟨rfl, hw⟩
    subst hw
    rw [hok]
    clear hok
    go_wp2
    go_ret
    exact ⟨ret_int Hv.out.symm, Drawn.refl _⟩
  | true =>
    cases hok2 : natOk n2 g with
    | false =>
      have Hv : Hid (cmpQ n f n2 g = -2) := by show _ = _; simp [cmpQ, hok2]
      go_enter Try.func11, Try.ntmps11
      go_wp2_with fail
      refine (implNatOk_any a b off n cap f _ hs hn).mono ?_
      rintro e w' ⟨rfl, hw⟩
      subst hw
      rw [hok]
      clear hok
      go_wp2_with fail
      refine (implNatOk_any a2 b2 off2 n2 cap2 g _ hs2 hn2).mono ?_
      rintro e w' ⟨rfl, hw⟩
      subst hw
      rw [hok2]
      clear hok2
      go_wp2
      go_ret
      exact ⟨ret_int Hv.out.symm, Drawn.refl _⟩
    | true =>
      have Hv : Hid (cmpQ n f n2 g = cmpV (val f n) (val g n2)) := by show _ = _; simp [cmpQ, hok, hok2]
      have c1 := natOk_canon hok
      have c2 := natOk_canon hok2
      go_enter Try.func11, Try.ntmps11
      go_wp2_with fail
      refine (implNatOk_any a b off n cap f _ hs hn).mono ?_
      rintro e w' ⟨rfl, hw⟩
      subst hw
      rw [hok]
      clear hok
      go_wp2_with fail
      refine (implNatOk_any a2 b2 off2 n2 cap2 g _ hs2 hn2).mono ?_
      rintro e w' ⟨rfl, hw⟩
      subst hw
      rw [hok2]
      clear hok2
      go_wp2_with fail
      refine (compareDigits_any a b off n cap f a2 b2 off2 n2 cap2 g _ hs hs2 hn hn2 c1 c2).mono ?_
      rintro e w' ⟨rfl, hQ⟩
      go_wp2
      go_ret
      exact ⟨ret_int Hv.out.symm, hQ⟩

set_option maxHeartbeats 400000 in
theorem l1Bits_any (a : Option Addr) (b off n cap : Nat) (f : Nat → Int) (w : World) (hs : Seg w a b off n f) (hn : n ≤ 1048576) (hd : n = 0 ∨ (0 ≤ f (n - 1) ∧ f (n - 1) ≤ 65535)) :
    Calls Try.prog 41 #[.slice a n cap] w fun e w' => e = .returned (.int .i64 (bitsOf n f)) ∧ w' = w := by
  by_cases h0 : n = 0
  · subst h0
    go_enter Try.func41, Try.ntmps41
    go_wp2
    go_ret
    exact ⟨rfl, rfl⟩
  · obtain ⟨m, rfl⟩ : ∃ m, n = m + 1 := ⟨n - 1, by omega⟩
    obtain rfl := hs.at' (by omega)
    have hc := hs.cell m (by omega)
    have hdm : 0 ≤ f m ∧ f m ≤ 65535 := by simpa using hd.resolve_left h0
    obtain ⟨d0, d1⟩ := hdm
    clear hd
    have hz : ((m : Int) + 1 == 0) = false := by simp; omega
    have Hfin : Hid (bitsOf (m + 1) f = 16 * (m : Int) + Lib.bitLen (f m).toNat) := by
      show bitsOf (m + 1) f = _
      simp [bitsOf]
    have hl := bitLen_le16 (f m) d0 d1
    generalize f m = top at *
    obtain ⟨t, rfl⟩ := Int.eq_ofNat_of_zero_le d0
    have Ht : Hid (((t : Int)).toNat = t) := Int.toNat_natCast t
    go_enter Try.func41, Try.ntmps41
    go_wp2
    go_loop [3, 4] (fun c x => ∃ y : Nat, y ≤ t ∧ Lib.bitLen y ≤ Lib.bitLen t ∧ x = .int .i64 y ∧ c = .int .i64 (16 * (m : Int) + (Lib.bitLen t - Lib.bitLen y : Nat))) (fun _ x => (intOf x).toNat)
    case atStart => exact ⟨t, by omega, by omega, rfl, by go_num⟩
    case round =>
      obtain ⟨y, hy, hb, rfl, rfl⟩ := hrel
      by_cases hy0 : y = 0
      · subst hy0
        have Hz : Hid (Lib.bitLen 0 = 0) := by show _ = _; decide
        go_wp2
        go_ret
        exact ⟨ret_int (by rw [Hfin.out, Ht.out, Hz.out]; omega), rfl⟩
      · have Hh : Hid (Lib.bitLen y = 1 + Lib.bitLen (y / 2)) := Lib.bitLen_half y hy0 (by omega)
        have hh := Hh.out
        have hb2 : Lib.bitLen t ≤ 16 := by simpa using hl
        have hm0 : 16 * (m : Int) + ((Lib.bitLen t - Lib.bitLen y : Nat) : Int) ≤ 16777300 := by omega
        have hm1 : 0 ≤ 16 * (m : Int) + ((Lib.bitLen t - Lib.bitLen y : Nat) : Int) := by omega
        have Hn : Hid (16 * (m : Int) + ((Lib.bitLen t - Lib.bitLen y : Nat) : Int) + 1 = 16 * (m : Int) + ((Lib.bitLen t - Lib.bitLen (y / 2) : Nat) : Int)) := by show _ = _; omega
        have hb3 : Lib.bitLen (y / 2) ≤ Lib.bitLen t := by omega
        have hyp : 0 < (y : Int) := by omega
        clear hh
        generalize 16 * (m : Int) + ((Lib.bitLen t - Lib.bitLen y : Nat) : Int) = c at *
        go_wp2
        go_round
        case rel => exact ⟨y / 2, by omega, hb3, by go_num, by rw [← Hn.out]⟩
        case measure => simp [intOf]; omega

/-- NatBits' answer. -/
def bitsQ (n : Nat) (f : Nat → Int) : Int := if natOk n f then bitsOf n f else -1

theorem ok_top {n : Nat} {f : Nat → Int} (h : natOk n f = true) : n = 0 ∨ (0 ≤ f (n - 1) ∧ f (n - 1) ≤ 65535) := by
  by_cases h0 : n = 0
  · exact .inl h0
  · exact .inr (((natOk_iff n f).1 h).1 _ (by omega))

set_option maxHeartbeats 400000 in
theorem specNatBits_any (a : Option Addr) (b off n cap : Nat) (f : Nat → Int) (w : World) (hs : Seg w a b off n f) (hn : n ≤ 1048576) :
    Calls Try.prog 23 #[.slice a n cap] w fun e w' => e = .returned (.int .i64 (bitsQ n f)) ∧ w' = w := by
  cases hok : natOk n f with
  | false =>
    have Hv : Hid (bitsQ n f = -1) := by show _ = _; simp [bitsQ, hok]
    go_enter Try.func23, Try.ntmps23
    go_wp2_with fail
    refine (specNatOk_any a b off n cap f _ hs hn).mono ?_
    rintro e w' ⟨rfl, hw⟩
    subst hw
    rw [hok]
    clear hok
    go_wp2
    go_ret
    exact ⟨ret_int Hv.out.symm, rfl⟩
  | true =>
    have Hv : Hid (bitsQ n f = bitsOf n f) := by show _ = _; simp [bitsQ, hok]
    have ht := ok_top hok
    go_enter Try.func23, Try.ntmps23
    go_wp2_with fail
    refine (specNatOk_any a b off n cap f _ hs hn).mono ?_
    rintro e w' ⟨rfl, hw⟩
    subst hw
    rw [hok]
    clear hok
    go_wp2_with fail
    refine (l1Bits_any a b off n cap f _ hs hn ht).mono ?_
    rintro e w' ⟨rfl, hw⟩
    subst hw
    go_wp2
    go_ret
    exact ⟨ret_int Hv.out.symm, rfl⟩

set_option maxHeartbeats 400000 in
theorem implNatBits_any (a : Option Addr) (b off n cap : Nat) (f : Nat → Int) (w : World) (hs : Seg w a b off n f) (hn : n ≤ 1048576) :
    Calls Try.prog 24 #[.slice a n cap] w fun e w' => e = .returned (.int .i64 (bitsQ n f)) ∧ w' = w := by
  cases hok : natOk n f with
  | false =>
    have Hv : Hid (bitsQ n f = -1) := by show _ = _; simp [bitsQ, hok]
    go_enter Try.func24, Try.ntmps24
    go_wp2_with fail
    refine (implNatOk_any a b off n cap f _ hs hn).mono ?_
    rintro e w' ⟨rfl, hw⟩
    subst hw
    rw [hok]
    clear hok
    go_wp2
    go_ret
    exact ⟨ret_int Hv.out.symm, rfl⟩
  | true =>
    have Hv : Hid (bitsQ n f = bitsOf n f) := by show _ = _; simp [bitsQ, hok]
    have ht := ok_top hok
    go_enter Try.func24, Try.ntmps24
    go_wp2_with fail
    refine (implNatOk_any a b off n cap f _ hs hn).mono ?_
    rintro e w' ⟨rfl, hw⟩
    subst hw
    rw [hok]
    clear hok
    go_wp2_with fail
    refine (digitsBits_any a b off n cap f _ hs hn ht).mono ?_
    rintro e w' ⟨rfl, hw⟩
    subst hw
    go_wp2
    go_ret
    exact ⟨ret_int Hv.out.symm, rfl⟩
end Go.Proofs.Ytojgnbckikpgmag
