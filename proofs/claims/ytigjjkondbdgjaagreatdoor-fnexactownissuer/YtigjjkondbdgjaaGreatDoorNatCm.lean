/- Walks: l1In and the two NatOk, each the plain test 'natOk', whatever slice of ints is handed in; nothing is written. Walks: comparing: cmp.Compare at int, the model's l1Compare and the program's compareDigits: which of two naturals is less. Walk: the model's l1Bits. Walks: the model's NatCompare and NatBits, and the program's. -/
import Derived.Test.YtigjjkondbdgjaaGreatDoorChecked
import Derived.Test.YtigjjkondbdgjaaGreatDoorMgA
import Derived.Test.YtigjjkondbdgjaaGreatDoorMgN
import Derived.Deep.QuietTactic
import Derived.BigQuiet
namespace Go.Proofs.YtigjjkondbdgjaaGreatDoor

section
set_option linter.unusedVariables false
open Go.RowKit

theorem l1In_any (x lo hi : Int) (w : World) :
    Calls Tryz.prog 22 #[.int .i64 x, .int .i64 lo, .int .i64 hi] w fun e w' => e = .returned (.bool (decide (lo ≤ x) && decide (x ≤ hi))) ∧ w' = w := by
  by_cases h1 : lo ≤ x
  · by_cases h2 : x ≤ hi
    · go_enter Tryz.func22, Tryz.ntmps22
      go_wp2
      go_ret
      exact ⟨ret_bool (by simp [h1, h2]), rfl⟩
    · go_enter Tryz.func22, Tryz.ntmps22
      go_wp2
      go_ret
      exact ⟨ret_bool (by simp; omega), rfl⟩
  · go_enter Tryz.func22, Tryz.ntmps22
    go_wp2
    go_ret
    exact ⟨ret_bool (by simp; omega), rfl⟩

set_option maxHeartbeats 400000 in
theorem specNatOk_any (a : Option Addr) (b off n cap : Nat) (f : Nat → Int) (w : World) (hs : Seg w a b off n f) (hn : n ≤ 1048576) :
    Calls Tryz.prog 50 #[.slice a n cap] w fun e w' => e = .returned (.bool (natOk n f)) ∧ w' = w := by
  go_enter Tryz.func50, Tryz.ntmps50
  go_wp2
  go_loop [3] (fun i => ∃ k : Nat, k ≤ n ∧ i = .int .i64 k ∧ ∀ j, j < k → 0 ≤ f j ∧ f j ≤ 65535) (fun i => n - (intOf i).toNat)
  case atStart => exact ⟨0, Nat.zero_le _, rfl, fun j hj => absurd hj (Nat.not_lt_zero _)⟩
  case round =>
    obtain ⟨k, hk, rfl, hd⟩ := hrel
    by_cases hlt : k < n
    · obtain rfl := hs.at' (by omega)
      have hc := hs.cell k hlt
      by_cases hin : 0 ≤ f k ∧ f k ≤ 65535
      · obtain ⟨h0, h1⟩ := hin
        have hb : (decide (0 ≤ f k) && decide (f k ≤ 65535)) = true := by simp [h0, h1]
        go_wp2_with (go_at_call 22; refine (l1In_any _ _ _ _).mono ?_; rintro e w' ⟨rfl, rfl⟩)
        go_round
        case rel => exact ⟨k + 1, by omega, by go_num, fun j hj => by
                      by_cases e : j = k
                      · subst e; exact ⟨h0, h1⟩
                      · exact hd j (by omega)⟩
        case measure => simp [intOf]; omega
      · have hb : (decide (0 ≤ f k) && decide (f k ≤ 65535)) = false := by simp; omega
        go_wp2_with (go_at_call 22; refine (l1In_any _ _ _ _).mono ?_; rintro e w' ⟨rfl, rfl⟩)
        go_ret
        exact ⟨ret_bool (natOk_false hlt (by omega)).symm, rfl⟩
    · obtain rfl : k = n := by omega
      have Hfin : Hid (natOk k f = (decide (k ≤ 64) && (k == 0 || f (k - 1) != 0))) := natOk_end hd
      clear hd
      by_cases h64 : k ≤ 64
      · by_cases h0 : k = 0
        · subst h0
          go_wp2
          go_ret
          exact ⟨ret_bool (by rw [Hfin.out]; rfl), rfl⟩
        · obtain ⟨m, rfl⟩ : ∃ m, k = m + 1 := ⟨k - 1, by omega⟩
          obtain rfl := hs.at' (by omega)
          have hc := hs.cell m (by omega)
          have hz : ((m : Int) + 1 == 0) = false := by simp; omega
          go_wp2
          go_ret
          exact ⟨ret_bool (by rw [Hfin.out]; simp [h64]), rfl⟩
      · have hz : ¬ (k : Int) ≤ 64 := by omega
        go_wp2
        go_ret
        exact ⟨ret_bool (by rw [Hfin.out]; simp [h64]), rfl⟩

set_option maxHeartbeats 400000 in
theorem implNatOk_any (a : Option Addr) (b off n cap : Nat) (f : Nat → Int) (w : World) (hs : Seg w a b off n f) (hn : n ≤ 1048576) :
    Calls Tryz.prog 134 #[.slice a n cap] w fun e w' => e = .returned (.bool (natOk n f)) ∧ w' = w := by
  by_cases h64 : n ≤ 64
  · have hz64 : ¬ (64 : Int) < (n : Int) := by omega
    go_enter Tryz.func134, Tryz.ntmps134
    go_wp2
    go_loop [10] (fun i => ∃ k : Nat, k ≤ n ∧ i = .int .i64 k ∧ ∀ j, j < k → 0 ≤ f j ∧ f j ≤ 65535) (fun i => n - (intOf i).toNat)
    case atStart => exact ⟨0, Nat.zero_le _, rfl, fun j hj => absurd hj (Nat.not_lt_zero _)⟩
    case round =>
      obtain ⟨k, hk, rfl, hd⟩ := hrel
      by_cases hlt : k < n
      · obtain rfl := hs.at' (by omega)
        have hc := hs.cell k hlt
        by_cases h0 : f k < 0
        · go_wp2
          go_ret
          exact ⟨ret_bool (natOk_false hlt (by omega)).symm, rfl⟩
        · by_cases h1 : 65535 < f k
          · go_wp2
            go_ret
            exact ⟨ret_bool (natOk_false hlt (by omega)).symm, rfl⟩
          · go_wp2
            go_round
            case rel => exact ⟨k + 1, by omega, by go_num, fun j hj => by
                          by_cases e : j = k
                          · subst e; omega
                          · exact hd j (by omega)⟩
            case measure => simp [intOf]; omega
      · obtain rfl : k = n := by omega
        have Hfin : Hid (natOk k f = (decide (k ≤ 64) && (k == 0 || f (k - 1) != 0))) := natOk_end hd
        clear hd
        by_cases h0 : k = 0
        · subst h0
          go_wp2
          go_ret
          exact ⟨ret_bool (by rw [Hfin.out]; rfl), rfl⟩
        · obtain ⟨m, rfl⟩ : ∃ m, k = m + 1 := ⟨k - 1, by omega⟩
          obtain rfl := hs.at' (by omega)
          have hc := hs.cell m (by omega)
          have hz : ((m : Int) + 1 == 0) = false := by simp; omega
          go_wp2
          go_ret
          exact ⟨ret_bool (by rw [Hfin.out]; simp [h64]), rfl⟩
  · have hz64 : (64 : Int) < (n : Int) := by omega
    go_enter Tryz.func134, Tryz.ntmps134
    go_wp2
    go_ret
    exact ⟨ret_bool (natOk_long (by omega)).symm, rfl⟩
end

section
set_option linter.unusedVariables false
open Go.RowKit

/-- -1, 0 or 1. -/
def cmpV (a b : Int) : Int := if a < b then -1 else if b < a then 1 else 0

theorem cmpV_lt {a b : Int} (h : a < b) : cmpV a b = -1 := by simp [cmpV, h]
theorem cmpV_gt {a b : Int} (h : b < a) : cmpV a b = 1 := by simp [cmpV, h, show ¬ a < b by omega]
theorem cmpV_eq {a b : Int} (h : a = b) : cmpV a b = 0 := by simp [cmpV, h]

/-- The highest place at which two lists of one length part decides. -/
theorem val_part {f g : Nat → Int} {n k : Nat} (hk : k < n) (hf : Digs f n) (hg : Digs g n) (h : ∀ j, k < j → j < n → f j = g j) (hlt : f k < g k) : val f n < val g n := by
  obtain ⟨r, rfl⟩ : ∃ r, n = (k + 1) + r := ⟨n - (k + 1), by omega⟩
  rw [val_split f (k + 1) r, val_split g (k + 1) r, val_congr (f := fun j => f (k + 1 + j)) (g := fun j => g (k + 1 + j)) (fun i hi => h _ (by omega) (by omega))]
  have b := (val_bd (hf.mono (show k ≤ k + 1 + r by omega))).2
  have c := (val_bd (hg.mono (show k ≤ k + 1 + r by omega))).1
  have p := Int.mul_le_mul_of_nonneg_right (show f k + 1 ≤ g k by omega) (Int.le_of_lt (pw_pos k))
  rw [Int.add_mul, Int.one_mul] at p
  simp only [val]
  omega

theorem cmp_len {f g : Nat → Int} {n m : Nat} (hf : Canon n f) (hg : Canon m g) (h : n ≠ m) : cmpV (val f n) (val g m) = cmpV n m := by
  by_cases hl : n < m
  · rw [cmpV_lt (canon_lt hf.digs hg hl), cmpV_lt (by omega)]
  · rw [cmpV_gt (canon_lt hg.digs hf (by omega)), cmpV_gt (by omega)]
end

section
set_option linter.unusedVariables false
open Go.RowKit

set_option maxHeartbeats 400000 in
theorem l1Bits_any (a : Option Addr) (b off n cap : Nat) (f : Nat → Int) (w : World) (hs : Seg w a b off n f) (hn : n ≤ 1048576) (hd : n = 0 ∨ (0 ≤ f (n - 1) ∧ f (n - 1) ≤ 65535)) :
    Calls Tryz.prog 51 #[.slice a n cap] w fun e w' => e = .returned (.int .i64 (bitsOf n f)) ∧ w' = w := by
  by_cases h0 : n = 0
  · subst h0
    go_enter Tryz.func51, Tryz.ntmps51
    go_wp2
    go_ret
    exact ⟨rfl, rfl⟩
  · obtain ⟨m, rfl⟩ : ∃ m, n = m + 1 := ⟨n - 1, by omega⟩
    obtain rfl := hs.at' (by omega)
    have hc := hs.cell m (by omega)
    have hdm : 0 ≤ f m ∧ f m ≤ 65535 := by simpa using hd.resolve_left h0
    obtain ⟨d0, d1⟩ := hdm
    clear hd
    have hz : ((m : Int) + 1 == 0) = false := by simp; omega
    have Hfin : Hid (bitsOf (m + 1) f = 16 * (m : Int) + Lib.bitLen (f m).toNat) := by
      show bitsOf (m + 1) f = _
      simp [bitsOf]
    have hl := bitLen_le16 (f m) d0 d1
    generalize f m = top at *
    obtain ⟨t, rfl⟩ := Int.eq_ofNat_of_zero_le d0
    have Ht : Hid (((t : Int)).toNat = t) := Int.toNat_natCast t
    go_enter Tryz.func51, Tryz.ntmps51
    go_wp2
    go_loop [3, 4] (fun c x => ∃ y : Nat, y ≤ t ∧ Lib.bitLen y ≤ Lib.bitLen t ∧ x = .int .i64 y ∧ c = .int .i64 (16 * (m : Int) + (Lib.bitLen t - Lib.bitLen y : Nat))) (fun _ x => (intOf x).toNat)
    case atStart => exact ⟨t, by omega, by omega, rfl, by go_num⟩
    case round =>
      obtain ⟨y, hy, hb, rfl, rfl⟩ := hrel
      by_cases hy0 : y = 0
      · subst hy0
        have Hz : Hid (Lib.bitLen 0 = 0) := by show _ = _; decide
        go_wp2
        go_ret
        exact ⟨ret_int (by rw [Hfin.out, Ht.out, Hz.out]; omega), rfl⟩
      · have Hh : Hid (Lib.bitLen y = 1 + Lib.bitLen (y / 2)) := Lib.bitLen_half y hy0 (by omega)
        have hh := Hh.out
        have hb2 : Lib.bitLen t ≤ 16 := by simpa using hl
        have hm0 : 16 * (m : Int) + ((Lib.bitLen t - Lib.bitLen y : Nat) : Int) ≤ 16777300 := by omega
        have hm1 : 0 ≤ 16 * (m : Int) + ((Lib.bitLen t - Lib.bitLen y : Nat) : Int) := by omega
        have Hn : Hid (16 * (m : Int) + ((Lib.bitLen t - Lib.bitLen y : Nat) : Int) + 1 = 16 * (m : Int) + ((Lib.bitLen t - Lib.bitLen (y / 2) : Nat) : Int)) := by show _ = _; omega
        have hb3 : Lib.bitLen (y / 2) ≤ Lib.bitLen t := by omega
        have hyp : 0 < (y : Int) := by omega
        clear hh
        generalize 16 * (m : Int) + ((Lib.bitLen t - Lib.bitLen y : Nat) : Int) = c at *
        go_wp2
        go_round
        case rel => exact ⟨y / 2, by omega, hb3, by go_num, by rw [← Hn.out]⟩
        case measure => simp [intOf]; omega

theorem ok_top {n : Nat} {f : Nat → Int} (h : natOk n f = true) : n = 0 ∨ (0 ≤ f (n - 1) ∧ f (n - 1) ≤ 65535) := by
  by_cases h0 : n = 0
  · exact .inl h0
  · exact .inr (((natOk_iff n f).1 h).1 _ (by omega))
end

section
set_option linter.unusedVariables false
open Go.RowKit

theorem natOk_canon {n : Nat} {f : Nat → Int} (h : natOk n f = true) : Canon n f :=
  ⟨((natOk_iff n f).1 h).1, ((natOk_iff n f).1 h).2.2⟩

/-- NatCompare's answer. -/
def cmpQ (n : Nat) (f : Nat → Int) (n2 : Nat) (g : Nat → Int) : Int := if natOk n f && natOk n2 g then cmpV (val f n) (val g n2) else -2

/-- NatBits' answer. -/
def bitsQ (n : Nat) (f : Nat → Int) : Int := if natOk n f then bitsOf n f else -1

set_option maxHeartbeats 400000 in
theorem implNatBits_any (a : Option Addr) (b off n cap : Nat) (f : Nat → Int) (w : World) (hs : Seg w a b off n f) (hn : n ≤ 1048576) :
    Calls Tryz.prog 106 #[.slice a n cap] w fun e w' => e = .returned (.int .i64 (bitsQ n f)) ∧ w' = w := by
  cases hok : natOk n f with
  | false =>
    have Hv : Hid (bitsQ n f = -1) := by show _ = _; simp [bitsQ, hok]
    go_enter Tryz.func106, Tryz.ntmps106
    go_wp2_with fail
    refine (implNatOk_any a b off n cap f _ hs hn).mono ?_
    rintro e w' ⟨rfl, hw⟩
    subst hw
    rw [hok]
    clear hok
    go_wp2
    go_ret
    exact ⟨ret_int Hv.out.symm, rfl⟩
  | true =>
    have Hv : Hid (bitsQ n f = bitsOf n f) := by show _ = _; simp [bitsQ, hok]
    have ht := ok_top hok
    go_enter Tryz.func106, Tryz.ntmps106
    go_wp2_with fail
    refine (implNatOk_any a b off n cap f _ hs hn).mono ?_
    rintro e w' ⟨rfl, hw⟩
    subst hw
    rw [hok]
    clear hok
    go_wp2_with fail
    refine (digitsBits_any a b off n cap f _ hs hn ht).mono ?_
    rintro e w' ⟨rfl, hw⟩
    subst hw
    go_wp2
    go_ret
    exact ⟨ret_int Hv.out.symm, rfl⟩
end

end Go.Proofs.YtigjjkondbdgjaaGreatDoor
