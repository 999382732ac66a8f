/- Walk: the program's NatInt: the number of a natural below 2^62. -/
import Derived.Test.YtmkmojcefgcmlaaDoorNatInt
namespace Go.Proofs.YtmkmojcefgcmlaaDoor
set_option linter.unusedVariables false
open Go.RowKit

theorem bitLen_14 (x : Int) (h0 : 0 ≤ x) (h1 : x ≤ 65535) : (14 < (Lib.bitLen x.toNat : Int)) ↔ 16384 ≤ x := by
  by_cases h : 16384 ≤ x
  · have := Lib.bitLen_shift 14 x.toNat (by omega) (by omega)
    rw [Lib.bitLen_half (x.toNat / 2 ^ 14) (by omega) (by omega)] at this
    omega
  · constructor
    · intro hl
      by_cases h8 : 256 ≤ x
      · have s := Lib.bitLen_shift8 x.toNat (by omega) (by omega)
        have key : ∀ y : Fin 64, Lib.bitLen y.val ≤ 6 := by decide +kernel
        have := key ⟨x.toNat / 256, by omega⟩
        simp only at this
        omega
      · have := Lib.bitLen_le8' x h0 (by omega)
        omega
    · omega

theorem bitLen_1 (x : Int) (h0 : 0 < x) (h1 : x ≤ 65535) : 1 ≤ Lib.bitLen x.toNat := by
  rw [Lib.bitLen_half x.toNat (by omega) (by omega)]; omega

/-- More than 62 bits, or not below 2^62: the same. -/
theorem bits62 {n : Nat} {f : Nat → Int} (hok : natOk n f = true) : (62 < bitsOf n f) ↔ smallB n f = false := by
  obtain ⟨hd, h64, hl⟩ := (natOk_iff n f).1 hok
  by_cases h0 : n = 0
  · subst h0; simp [bitsOf, smallB]
  · have d := hd (n - 1) (by omega)
    have hl' := hl.resolve_left h0
    have b1 := bitLen_1 (f (n - 1)) (by omega) d.2
    have b16 := bitLen_le16 (f (n - 1)) d.1 d.2
    simp only [bitsOf, if_neg h0, smallB, Bool.or_eq_false_iff, decide_eq_false_iff_not, Bool.and_eq_false_iff, beq_eq_false_iff_ne]
    by_cases h4 : n = 4
    · subst h4
      have := bitLen_14 (f 3) d.1 d.2
      simp only [show 4 - 1 = 3 from rfl] at *
      omega
    · omega

set_option maxHeartbeats 800000 in
theorem implNatInt_any (a : Option Addr) (b off n cap : Nat) (f : Nat → Int) (w : World) (hs : Seg w a b off n f) (hn : n ≤ 1048576) :
    Calls Tryd.prog 9 #[.slice a n cap] w fun e w' => e = .returned (.tuple #[.int .i64 (intV n f), .bool (intB n f)]) ∧ w' = w := by
  cases hok : natOk n f with
  | false =>
    have Hok : Hid (natOk n f = false) := hok
    go_enter Tryd.func9, Tryd.ntmps9
    go_wp2_with fail
    refine (implNatOk_any a b off n cap f _ hs hn).mono ?_
    rintro e w' ⟨rfl, hw⟩
    subst hw
    rw [hok]
    clear hok
    go_wp2
    go_ret2
    exact ⟨ret_ib (by simp [intV, Hok.out]) (by simp [intB, Hok.out]), rfl⟩
  | true =>
    have Hok : Hid (natOk n f = true) := hok
    have hd : Digs f n := ((natOk_iff n f).1 hok).1
    have hdl : n = 0 ∨ (0 ≤ f (n - 1) ∧ f (n - 1) ≤ 65535) := by
      by_cases h0 : n = 0
      · exact .inl h0
      · exact .inr (hd _ (by omega))
    have h62 := bits62 hok
    cases hsm : smallB n f with
    | false =>
      have hb : 62 < bitsOf n f := h62.2 hsm
      have Hfin : Hid (intV n f = 0 ∧ intB n f = false) := ⟨by simp [intV, hsm], by simp [intB, hsm]⟩
      clear h62 hsm
      go_enter Tryd.func9, Tryd.ntmps9
      go_wp2_with fail
      refine (implNatOk_any a b off n cap f _ hs hn).mono ?_
      rintro e w' ⟨rfl, hw⟩
      subst hw
      rw [hok]
      clear hok
      go_wp2_with fail
      refine (digitsBits_any a b off n cap f _ hs hn hdl).mono ?_
      rintro e w' ⟨rfl, hw⟩
      subst hw
      go_wp2
      go_ret2
      exact ⟨ret_ib Hfin.out.1.symm Hfin.out.2.symm, rfl⟩
    | true =>
      have hb : ¬ 62 < bitsOf n f := fun h => by have := h62.1 h; rw [hsm] at this; exact absurd this (by decide)
      obtain ⟨h4, hv⟩ := small_val hd hsm
      have Hfin : Hid (intV n f = val f n ∧ intB n f = true) := ⟨by simp [intV, hok, hsm], by simp [intB, hok, hsm]⟩
      clear h62 hsm
      go_enter Tryd.func9, Tryd.ntmps9
      go_wp2_with fail
      refine (implNatOk_any a b off n cap f _ hs hn).mono ?_
      rintro e w' ⟨rfl, hw⟩
      subst hw
      rw [hok]
      clear hok Hok
      go_wp2_with fail
      refine (digitsBits_any a b off n cap f _ hs hn hdl).mono ?_
      rintro e w' ⟨rfl, hw⟩
      subst hw
      clear hdl
      go_wp2
      go_loop [4, 17] (fun t i => ∃ k : Nat, k ≤ n ∧ i = .int .i64 k ∧ t = .int .i64 (val f k)) (fun _ i => n - (intOf i).toNat)
      case atStart => exact ⟨0, by omega, rfl, rfl⟩
      case round =>
        obtain ⟨k, hk, rfl, rfl⟩ := hrel
        by_cases hlt : k < n
        · obtain rfl := hs.at' (by omega)
          have hc := hs.cell k hlt
          have hkn : (k : Int) < (n : Int) := by omega
          obtain ⟨d0, d1⟩ := hd k hlt
          have l0 := low_le hd (show k ≤ n by omega)
          have l1 := low_le hd (show k + 1 ≤ n by omega)
          have Hs : Hid (val f k + f k * 2 ^ (16 * k) = val f (k + 1)) := by show _ = _; rw [pow_pw]; rfl
          have p0 : 0 ≤ f k * 2 ^ (16 * k) := by rw [pow_pw]; exact Int.mul_nonneg d0 (Int.le_of_lt (pw_pos k))
          have p1 : val f k + f k * 2 ^ (16 * k) ≤ 4611686018427387904 := by rw [Hs.out]; omega
          obtain ⟨l00, _⟩ := l0
          clear l1
          go_wp2
          go_round
          case rel => exact ⟨k + 1, by omega, by go_num, by rw [← Hs.out]⟩
          case measure => simp [intOf]; omega
        · obtain rfl : k = n := by omega
          go_wp2
          go_ret2
          exact ⟨ret_ib Hfin.out.1.symm Hfin.out.2.symm, rfl⟩

end Go.Proofs.YtmkmojcefgcmlaaDoor
