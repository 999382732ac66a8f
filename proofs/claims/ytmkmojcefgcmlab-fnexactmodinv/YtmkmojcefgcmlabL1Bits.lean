/- Walk: the model's l1Bits. -/
import Derived.Test.YtmkmojcefgcmlabNatOk
import Derived.Test.YtmkmojcefgcmlabBitLen
namespace Go.Proofs.Ytmkmojcefgcmlab
set_option linter.unusedVariables false
open Go.RowKit

set_option maxHeartbeats 400000 in
theorem l1Bits_any (a : Option Addr) (b off n cap : Nat) (f : Nat → Int) (w : World) (hs : Seg w a b off n f) (hn : n ≤ 1048576) (hd : n = 0 ∨ (0 ≤ f (n - 1) ∧ f (n - 1) ≤ 65535)) :
    Calls Try.prog 29 #[.slice a n cap] w fun e w' => e = .returned (.int .i64 (bitsOf n f)) ∧ w' = w := by
  by_cases h0 : n = 0
  · subst h0
    go_enter Try.func29, Try.ntmps29
    go_wp2
    go_ret
    exact ⟨rfl, rfl⟩
  · obtain ⟨m, rfl⟩ : ∃ m, n = m + 1 := ⟨n - 1, by omega⟩
    obtain rfl := hs.at' (by omega)
    have hc := hs.cell m (by omega)
    have hdm : 0 ≤ f m ∧ f m ≤ 65535 := by simpa using hd.resolve_left h0
    obtain ⟨d0, d1⟩ := hdm
    clear hd
    have hz : ((m : Int) + 1 == 0) = false := by simp; omega
    have Hfin : Hid (bitsOf (m + 1) f = 16 * (m : Int) + Lib.bitLen (f m).toNat) := by
      show bitsOf (m + 1) f = _
      simp [bitsOf]
    have hl := bitLen_le16 (f m) d0 d1
    generalize f m = top at *
    obtain ⟨t, rfl⟩ := Int.eq_ofNat_of_zero_le d0
    have Ht : Hid (((t : Int)).toNat = t) := Int.toNat_natCast t
    go_enter Try.func29, Try.ntmps29
    go_wp2
    go_loop [3, 4] (fun c x => ∃ y : Nat, y ≤ t ∧ Lib.bitLen y ≤ Lib.bitLen t ∧ x = .int .i64 y ∧ c = .int .i64 (16 * (m : Int) + (Lib.bitLen t - Lib.bitLen y : Nat))) (fun _ x => (intOf x).toNat)
    case atStart => exact ⟨t, by omega, by omega, rfl, by go_num⟩
    case round =>
      obtain ⟨y, hy, hb, rfl, rfl⟩ := hrel
      by_cases hy0 : y = 0
      · subst hy0
        have Hz : Hid (Lib.bitLen 0 = 0) := by show _ = _; decide
        go_wp2
        go_ret
        exact ⟨ret_int (by rw [Hfin.out, Ht.out, Hz.out]; omega), rfl⟩
      · have Hh : Hid (Lib.bitLen y = 1 + Lib.bitLen (y / 2)) := Lib.bitLen_half y hy0 (by omega)
        have hh := Hh.out
        have hb2 : Lib.bitLen t ≤ 16 := by simpa using hl
        have hm0 : 16 * (m : Int) + ((Lib.bitLen t - Lib.bitLen y : Nat) : Int) ≤ 16777300 := by omega
        have hm1 : 0 ≤ 16 * (m : Int) + ((Lib.bitLen t - Lib.bitLen y : Nat) : Int) := by omega
        have Hn : Hid (16 * (m : Int) + ((Lib.bitLen t - Lib.bitLen y : Nat) : Int) + 1 = 16 * (m : Int) + ((Lib.bitLen t - Lib.bitLen (y / 2) : Nat) : Int)) := by show _ = _; omega
        have hb3 : Lib.bitLen (y / 2) ≤ Lib.bitLen t := by omega
        have hyp : 0 < (y : Int) := by omega
        clear hh
        generalize 16 * (m : Int) + ((Lib.bitLen t - Lib.bitLen y : Nat) : Int) = c at *
        go_wp2
        go_round
        case rel => exact ⟨y / 2, by omega, hb3, by go_num, by rw [← Hn.out]⟩
        case measure => simp [intOf]; omega

theorem ok_top {n : Nat} {f : Nat → Int} (h : natOk n f = true) : n = 0 ∨ (0 ≤ f (n - 1) ∧ f (n - 1) ≤ 65535) := by
  by_cases h0 : n = 0
  · exact .inl h0
  · exact .inr (((natOk_iff n f).1 h).1 _ (by omega))

end Go.Proofs.Ytmkmojcefgcmlab
