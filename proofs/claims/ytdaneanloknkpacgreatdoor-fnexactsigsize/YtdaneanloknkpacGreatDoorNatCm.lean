/- Walks: l1In and the two NatOk, each the plain test 'natOk', whatever slice of ints is handed in; nothing is written. Walks: comparing: cmp.Compare at int, the model's l1Compare and the program's compareDigits: which of two naturals is less. Walk: the model's l1Bits. Walks: the model's NatCompare and NatBits, and the program's. Walks of the law's own helpers over slices of ints: toIntS makes a copy in new memory; eqIntS tells whether two slices read alike. -/
import Derived.Test.YtdaneanloknkpacGreatDoorChecked
import Derived.Test.YtdaneanloknkpacGreatDoorNumAll
import Derived.Deep.QuietTactic
import Derived.BigQuiet
namespace Go.Proofs.YtdaneanloknkpacGreatDoor
set_option linter.unusedVariables false
open Go.RowKit

theorem l1In_any (x lo hi : Int) (w : World) :
    Calls Tryz.prog 84 #[.int .i64 x, .int .i64 lo, .int .i64 hi] w fun e w' => e = .returned (.bool (decide (lo ≤ x) && decide (x ≤ hi))) ∧ w' = w := by
  by_cases h1 : lo ≤ x
  · by_cases h2 : x ≤ hi
    · go_enter Tryz.func84, Tryz.ntmps84
      go_wp2
      go_ret
      exact ⟨ret_bool (by simp [h1, h2]), rfl⟩
    · go_enter Tryz.func84, Tryz.ntmps84
      go_wp2
      go_ret
      exact ⟨ret_bool (by simp; omega), rfl⟩
  · go_enter Tryz.func84, Tryz.ntmps84
    go_wp2
    go_ret
    exact ⟨ret_bool (by simp; omega), rfl⟩

set_option maxHeartbeats 400000 in
theorem specNatOk_any (a : Option Addr) (b off n cap : Nat) (f : Nat → Int) (w : World) (hs : Seg w a b off n f) (hn : n ≤ 1048576) :
    Calls Tryz.prog 83 #[.slice a n cap] w fun e w' => e = .returned (.bool (natOk n f)) ∧ w' = w := by
  go_enter Tryz.func83, Tryz.ntmps83
  go_wp2
  go_loop [3] (fun i => ∃ k : Nat, k ≤ n ∧ i = .int .i64 k ∧ ∀ j, j < k → 0 ≤ f j ∧ f j ≤ 65535) (fun i => n - (intOf i).toNat)
  case atStart => exact ⟨0, Nat.zero_le _, rfl, fun j hj => absurd hj (Nat.not_lt_zero _)⟩
  case round =>
    obtain ⟨k, hk, rfl, hd⟩ := hrel
    by_cases hlt : k < n
    · obtain rfl := hs.at' (by omega)
      have hc := hs.cell k hlt
      by_cases hin : 0 ≤ f k ∧ f k ≤ 65535
      · obtain ⟨h0, h1⟩ := hin
        have hb : (decide (0 ≤ f k) && decide (f k ≤ 65535)) = true := by simp [h0, h1]
        go_wp2_with (go_at_call 84; refine (l1In_any _ _ _ _).mono ?_; rintro e w' ⟨rfl, rfl⟩)
        go_round
        case rel => exact ⟨k + 1, by omega, by go_num, fun j hj => by
                      by_cases e : j = k
                      · subst e; exact ⟨h0, h1⟩
                      · exact hd j (by omega)⟩
        case measure => simp [intOf]; omega
      · have hb : (decide (0 ≤ f k) && decide (f k ≤ 65535)) = false := by simp; omega
        go_wp2_with (go_at_call 84; refine (l1In_any _ _ _ _).mono ?_; rintro e w' ⟨rfl, rfl⟩)
        go_ret
        exact ⟨ret_bool (natOk_false hlt (by omega)).symm, rfl⟩
    · obtain rfl : k = n := by omega
      have Hfin : Hid (natOk k f = (decide (k ≤ 64) && (k == 0 || f (k - 1) != 0))) := natOk_end hd
      clear hd
      by_cases h64 : k ≤ 64
      · by_cases h0 : k = 0
        · subst h0
          go_wp2
          go_ret
          exact ⟨ret_bool (by rw [Hfin.out]; rfl), rfl⟩
        · obtain ⟨m, rfl⟩ : ∃ m, k = m + 1 := ⟨k - 1, by omega⟩
          obtain rfl := hs.at' (by omega)
          have hc := hs.cell m (by omega)
          have hz : ((m : Int) + 1 == 0) = false := by simp; omega
          go_wp2
          go_ret
          exact ⟨ret_bool (by rw [Hfin.out]; simp [h64]), rfl⟩
      · have hz : ¬ (k : Int) ≤ 64 := by omega
        go_wp2
        go_ret
        exact ⟨ret_bool (by rw [Hfin.out]; simp [h64]), rfl⟩

set_option maxHeartbeats 400000 in
theorem implNatOk_any (a : Option Addr) (b off n cap : Nat) (f : Nat → Int) (w : World) (hs : Seg w a b off n f) (hn : n ≤ 1048576) :
    Calls Tryz.prog 89 #[.slice a n cap] w fun e w' => e = .returned (.bool (natOk n f)) ∧ w' = w := by
  by_cases h64 : n ≤ 64
  · have hz64 : ¬ (64 : Int) < (n : Int) := by omega
    go_enter Tryz.func89, Tryz.ntmps89
    go_wp2
    go_loop [10] (fun i => ∃ k : Nat, k ≤ n ∧ i = .int .i64 k ∧ ∀ j, j < k → 0 ≤ f j ∧ f j ≤ 65535) (fun i => n - (intOf i).toNat)
    case atStart => exact ⟨0, Nat.zero_le _, rfl, fun j hj => absurd hj (Nat.not_lt_zero _)⟩
    case round =>
      obtain ⟨k, hk, rfl, hd⟩ := hrel
      by_cases hlt : k < n
      · obtain rfl := hs.at' (by omega)
        have hc := hs.cell k hlt
        by_cases h0 : f k < 0
        · go_wp2
          go_ret
          exact ⟨ret_bool (natOk_false hlt (by omega)).symm, rfl⟩
        · by_cases h1 : 65535 < f k
          · go_wp2
            go_ret
            exact ⟨ret_bool (natOk_false hlt (by omega)).symm, rfl⟩
          · go_wp2
            go_round
            case rel => exact ⟨k + 1, by omega, by go_num, fun j hj => by
                          by_cases e : j = k
                          · subst e; omega
                          · exact hd j (by omega)⟩
            case measure => simp [intOf]; omega
      · obtain rfl : k = n := by omega
        have Hfin : Hid (natOk k f = (decide (k ≤ 64) && (k == 0 || f (k - 1) != 0))) := natOk_end hd
        clear hd
        by_cases h0 : k = 0
        · subst h0
          go_wp2
          go_ret
          exact ⟨ret_bool (by rw [Hfin.out]; rfl), rfl⟩
        · obtain ⟨m, rfl⟩ : ∃ m, k = m + 1 := ⟨k - 1, by omega⟩
          obtain rfl := hs.at' (by omega)
          have hc := hs.cell m (by omega)
          have hz : ((m : Int) + 1 == 0) = false := by simp; omega
          go_wp2
          go_ret
          exact ⟨ret_bool (by rw [Hfin.out]; simp [h64]), rfl⟩
  · have hz64 : (64 : Int) < (n : Int) := by omega
    go_enter Tryz.func89, Tryz.ntmps89
    go_wp2
    go_ret
    exact ⟨ret_bool (natOk_long (by omega)).symm, rfl⟩

/-- -1, 0 or 1. -/
def cmpV (a b : Int) : Int := if a < b then -1 else if b < a then 1 else 0

theorem cmpV_lt {a b : Int} (h : a < b) : cmpV a b = -1 := by simp [cmpV, h]
theorem cmpV_gt {a b : Int} (h : b < a) : cmpV a b = 1 := by simp [cmpV, h, show ¬ a < b by omega]
theorem cmpV_eq {a b : Int} (h : a = b) : cmpV a b = 0 := by simp [cmpV, h]

theorem isNaN_any (x : Int) (w : World) : Calls Tryz.prog 375 #[.int .i64 x] w fun e w' => e = .returned (.bool false) ∧ w' = w := by
  have h : (x != x) = false := by simp
  go_enter Tryz.func375, Tryz.ntmps375
  go_wp2
  go_ret
  exact ⟨rfl, rfl⟩

set_option maxHeartbeats 400000 in
theorem cmp_any (x y : Int) (w : World) : Calls Tryz.prog 363 #[.int .i64 x, .int .i64 y] w fun e w' => e = .returned (.int .i64 (cmpV x y)) ∧ w' = w := by
  by_cases h1 : x < y
  · go_enter Tryz.func363, Tryz.ntmps363
    go_wp2_with (go_at_call 375; refine (isNaN_any _ _).mono ?_; rintro e w' ⟨rfl, rfl⟩)
    go_ret
    exact ⟨ret_int (cmpV_lt h1).symm, rfl⟩
  · by_cases h2 : y < x
    · go_enter Tryz.func363, Tryz.ntmps363
      go_wp2_with (go_at_call 375; refine (isNaN_any _ _).mono ?_; rintro e w' ⟨rfl, rfl⟩)
      go_ret
      exact ⟨ret_int (cmpV_gt h2).symm, rfl⟩
    · go_enter Tryz.func363, Tryz.ntmps363
      go_wp2_with (go_at_call 375; refine (isNaN_any _ _).mono ?_; rintro e w' ⟨rfl, rfl⟩)
      go_ret
      exact ⟨ret_int (cmpV_eq (by omega)).symm, rfl⟩

/-- The highest place at which two lists of one length part decides. -/
theorem val_part {f g : Nat → Int} {n k : Nat} (hk : k < n) (hf : Digs f n) (hg : Digs g n) (h : ∀ j, k < j → j < n → f j = g j) (hlt : f k < g k) : val f n < val g n := by
  obtain ⟨r, rfl⟩ : ∃ r, n = (k + 1) + r := ⟨n - (k + 1), by omega⟩
  rw [val_split f (k + 1) r, val_split g (k + 1) r, val_congr (f := fun j => f (k + 1 + j)) (g := fun j => g (k + 1 + j)) (fun i hi => h _ (by omega) (by omega))]
  have b := (val_bd (hf.mono (show k ≤ k + 1 + r by omega))).2
  have c := (val_bd (hg.mono (show k ≤ k + 1 + r by omega))).1
  have p := Int.mul_le_mul_of_nonneg_right (show f k + 1 ≤ g k by omega) (Int.le_of_lt (pw_pos k))
  rw [Int.add_mul, Int.one_mul] at p
  simp only [val]
  omega

theorem cmp_len {f g : Nat → Int} {n m : Nat} (hf : Canon n f) (hg : Canon m g) (h : n ≠ m) : cmpV (val f n) (val g m) = cmpV n m := by
  by_cases hl : n < m
  · rw [cmpV_lt (canon_lt hf.digs hg hl), cmpV_lt (by omega)]
  · rw [cmpV_gt (canon_lt hg.digs hf (by omega)), cmpV_gt (by omega)]

set_option maxHeartbeats 800000 in
theorem l1Compare_any (a : Option Addr) (b off n cap : Nat) (f : Nat → Int) (a2 : Option Addr) (b2 off2 n2 cap2 : Nat) (g : Nat → Int) (w : World) (hs : Seg w a b off n f) (hs2 : Seg w a2 b2 off2 n2 g)
    (hn : n ≤ 1048576) (hn2 : n2 ≤ 1048576) (hf : Canon n f) (hg : Canon n2 g) :
    Calls Tryz.prog 152 #[.slice a n cap, .slice a2 n2 cap2] w fun e w' => e = .returned (.int .i64 (cmpV (val f n) (val g n2))) ∧ Drawn w w' := by
  by_cases hne : n = n2
  · subst hne
    go_enter Tryz.func152, Tryz.ntmps152
    go_wp2
    go_loopw [5] (fun i wr => ∃ k : Nat, k ≤ n ∧ i = .int .i64 ((k : Int) - 1) ∧ (∀ j, k ≤ j → j < n → f j = g j) ∧ Drawn w wr) (fun i _ => (intOf i + 1).toNat)
    case atStart => exact ⟨n, Nat.le_refl _, by go_num, fun j h1 h2 => by omega, Drawn.refl _⟩
    case round =>
      obtain ⟨k, hk, rfl, hd, hQ⟩ := hrel
      by_cases h0 : k = 0
      · subst h0
        have Hv : Hid (val f n = val g n) := val_congr (fun i hi => hd i (by omega) hi)
        clear hd
        go_wp2
        go_ret
        exact ⟨ret_int (cmpV_eq Hv.out).symm, hQ⟩
      · obtain ⟨m, rfl⟩ : ∃ m, k = m + 1 := ⟨k - 1, by omega⟩
        obtain rfl := hs.at' (by omega)
        obtain rfl := hs2.at' (by omega)
        have hc := (hs.of_all (hQ.below _)).cell m (by omega)
        have hc2 := (hs2.of_all (hQ.below _)).cell m (by omega)
        have hmn : (m : Int) < (n : Int) := by omega
        by_cases hl : f m < g m
        · have Hv : Hid (val f n < val g n) := val_part (by omega) hf.digs hg.digs (fun j h1 h2 => hd j (by omega) h2) hl
          clear hd
          go_wp2
          go_quiet (fail)
          go_wp2
          go_ret
          exact ⟨ret_int (cmpV_lt Hv.out).symm, hQ.more _⟩
        · by_cases hl2 : g m < f m
          · have Hv : Hid (val g n < val f n) := val_part (by omega) hg.digs hf.digs (fun j h1 h2 => (hd j (by omega) h2).symm) hl2
            clear hd
            go_wp2
            go_quiet (fail)
            have hc3 : (wr.drewN nq).cell? ⟨b, off + m, none⟩ = some (.int .i64 (f m)) := hc
            have hc4 : (wr.drewN nq).cell? ⟨b2, off2 + m, none⟩ = some (.int .i64 (g m)) := hc2
            have hQ2 := hQ.more nq
            clear hc hc2 hQ
            generalize wr.drewN nq = w1 at *
            go_wp2
            go_quiet (fail)
            go_wp2
            go_ret
            exact ⟨ret_int (cmpV_gt Hv.out).symm, hQ2.more _⟩
          · go_wp2
            go_quiet (fail)
            have hc3 : (wr.drewN nq).cell? ⟨b, off + m, none⟩ = some (.int .i64 (f m)) := hc
            have hc4 : (wr.drewN nq).cell? ⟨b2, off2 + m, none⟩ = some (.int .i64 (g m)) := hc2
            have hQ2 := hQ.more nq
            clear hc hc2 hQ
            generalize wr.drewN nq = w1 at *
            go_wp2
            go_quiet (fail)
            go_wp2
            go_roundw
            case rel => exact ⟨m, by omega, by go_num, fun j h1 h2 => by
                          by_cases e : j = m
                          · subst e; omega
                          · exact hd j (by omega) h2, hQ2.more _⟩
            case measure => simp [intOf]
  · have hb : ((n : Int) != (n2 : Int)) = true := by simp; omega
    have Hv : Hid (cmpV (val f n) (val g n2) = cmpV n n2) := cmp_len hf hg hne
    by_cases hl : n < n2
    · have hl' : (n : Int) < (n2 : Int) := by omega
      go_enter Tryz.func152, Tryz.ntmps152
      go_wp2
      go_ret
      exact ⟨ret_int (by rw [Hv.out, cmpV_lt hl']), Drawn.refl _⟩
    · have hl' : (n2 : Int) < (n : Int) := by omega
      go_enter Tryz.func152, Tryz.ntmps152
      go_wp2
      go_ret
      exact ⟨ret_int (by rw [Hv.out, cmpV_gt hl']), Drawn.refl _⟩

set_option maxHeartbeats 800000 in
theorem compareDigits_any (a : Option Addr) (b off n cap : Nat) (f : Nat → Int) (a2 : Option Addr) (b2 off2 n2 cap2 : Nat) (g : Nat → Int) (w : World) (hs : Seg w a b off n f) (hs2 : Seg w a2 b2 off2 n2 g)
    (hn : n ≤ 1048576) (hn2 : n2 ≤ 1048576) (hf : Canon n f) (hg : Canon n2 g) :
    Calls Tryz.prog 353 #[.slice a n cap, .slice a2 n2 cap2] w fun e w' => e = .returned (.int .i64 (cmpV (val f n) (val g n2))) ∧ Drawn w w' := by
  by_cases hne : n = n2
  · subst hne
    go_enter Tryz.func353, Tryz.ntmps353
    go_wp2
    go_loopw [5] (fun i wr => ∃ k : Nat, k ≤ n ∧ i = .int .i64 ((k : Int) - 1) ∧ (∀ j, k ≤ j → j < n → f j = g j) ∧ Drawn w wr) (fun i _ => (intOf i + 1).toNat)
    case atStart => exact ⟨n, Nat.le_refl _, by go_num, fun j h1 h2 => by omega, Drawn.refl _⟩
    case round =>
      obtain ⟨k, hk, rfl, hd, hQ⟩ := hrel
      by_cases h0 : k = 0
      · subst h0
        have Hv : Hid (val f n = val g n) := val_congr (fun i hi => hd i (by omega) hi)
        clear hd
        go_wp2
        go_ret
        exact ⟨ret_int (cmpV_eq Hv.out).symm, hQ⟩
      · obtain ⟨m, rfl⟩ : ∃ m, k = m + 1 := ⟨k - 1, by omega⟩
        obtain rfl := hs.at' (by omega)
        obtain rfl := hs2.at' (by omega)
        have hc := (hs.of_all (hQ.below _)).cell m (by omega)
        have hc2 := (hs2.of_all (hQ.below _)).cell m (by omega)
        have hmn : (m : Int) < (n : Int) := by omega
        by_cases he : f m = g m
        · have hb : (f m != g m) = false := by simp [he]
          go_wp2
          go_quiet (fail)
          go_wp2
          go_roundw
          case rel => exact ⟨m, by omega, by go_num, fun j h1 h2 => by
                        by_cases e : j = m
                        · subst e; exact he
                        · exact hd j (by omega) h2, hQ.more _⟩
          case measure => simp [intOf]
        · have hb : (f m != g m) = true := by simp [he]
          have Hv : Hid (cmpV (val f n) (val g n) = cmpV (f m) (g m)) := by
            show _ = _
            by_cases hl : f m < g m
            · rw [cmpV_lt hl, cmpV_lt (val_part (by omega) hf.digs hg.digs (fun j h1 h2 => hd j (by omega) h2) hl)]
            · rw [cmpV_gt (show g m < f m by omega), cmpV_gt (val_part (show m < n by omega) hg.digs hf.digs (fun j h1 h2 => (hd j (by omega) h2).symm) (show g m < f m by omega))]
          clear hd he
          go_wp2
          go_quiet (fail)
          have hc3 : (wr.drewN nq).cell? ⟨b, off + m, none⟩ = some (.int .i64 (f m)) := hc
          have hc4 : (wr.drewN nq).cell? ⟨b2, off2 + m, none⟩ = some (.int .i64 (g m)) := hc2
          have hQ2 := hQ.more nq
          clear hc hc2 hQ
          generalize wr.drewN nq = w1 at *
          go_wp2
          go_quiet ((go_at_call 363; exact Calls.quiet_of_same (cmp_any _ _ _)))
          go_wp2
          go_ret
          exact ⟨ret_int Hv.out.symm, hQ2.more _⟩
  · have hb : ((n : Int) != (n2 : Int)) = true := by simp; omega
    have Hv : Hid (cmpV (val f n) (val g n2) = cmpV n n2) := cmp_len hf hg hne
    go_enter Tryz.func353, Tryz.ntmps353
    go_wp2_with fail
    refine (cmp_any _ _ _).mono ?_
    rintro e w' ⟨rfl, hw⟩
    subst hw
    go_wp2
    go_ret
    exact ⟨ret_int Hv.out.symm, Drawn.refl _⟩

set_option maxHeartbeats 400000 in
theorem l1Bits_any (a : Option Addr) (b off n cap : Nat) (f : Nat → Int) (w : World) (hs : Seg w a b off n f) (hn : n ≤ 1048576) (hd : n = 0 ∨ (0 ≤ f (n - 1) ∧ f (n - 1) ≤ 65535)) :
    Calls Tryz.prog 35 #[.slice a n cap] w fun e w' => e = .returned (.int .i64 (bitsOf n f)) ∧ w' = w := by
  by_cases h0 : n = 0
  · subst h0
    go_enter Tryz.func35, Tryz.ntmps35
    go_wp2
    go_ret
    exact ⟨rfl, rfl⟩
  · obtain ⟨m, rfl⟩ : ∃ m, n = m + 1 := ⟨n - 1, by omega⟩
    obtain rfl := hs.at' (by omega)
    have hc := hs.cell m (by omega)
    have hdm : 0 ≤ f m ∧ f m ≤ 65535 := by simpa using hd.resolve_left h0
    obtain ⟨d0, d1⟩ := hdm
    clear hd
    have hz : ((m : Int) + 1 == 0) = false := by simp; omega
    have Hfin : Hid (bitsOf (m + 1) f = 16 * (m : Int) + Lib.bitLen (f m).toNat) := by
      show bitsOf (m + 1) f = _
      simp [bitsOf]
    have hl := bitLen_le16 (f m) d0 d1
    generalize f m = top at *
    obtain ⟨t, rfl⟩ := Int.eq_ofNat_of_zero_le d0
    have Ht : Hid (((t : Int)).toNat = t) := Int.toNat_natCast t
    go_enter Tryz.func35, Tryz.ntmps35
    go_wp2
    go_loop [3, 4] (fun c x => ∃ y : Nat, y ≤ t ∧ Lib.bitLen y ≤ Lib.bitLen t ∧ x = .int .i64 y ∧ c = .int .i64 (16 * (m : Int) + (Lib.bitLen t - Lib.bitLen y : Nat))) (fun _ x => (intOf x).toNat)
    case atStart => exact ⟨t, by omega, by omega, rfl, by go_num⟩
    case round =>
      obtain ⟨y, hy, hb, rfl, rfl⟩ := hrel
      by_cases hy0 : y = 0
      · subst hy0
        have Hz : Hid (Lib.bitLen 0 = 0) := by show _ = _; decide
        go_wp2
        go_ret
        exact ⟨ret_int (by rw [Hfin.out, Ht.out, Hz.out]; omega), rfl⟩
      · have Hh : Hid (Lib.bitLen y = 1 + Lib.bitLen (y / 2)) := Lib.bitLen_half y hy0 (by omega)
        have hh := Hh.out
        have hb2 : Lib.bitLen t ≤ 16 := by simpa using hl
        have hm0 : 16 * (m : Int) + ((Lib.bitLen t - Lib.bitLen y : Nat) : Int) ≤ 16777300 := by omega
        have hm1 : 0 ≤ 16 * (m : Int) + ((Lib.bitLen t - Lib.bitLen y : Nat) : Int) := by omega
        have Hn : Hid (16 * (m : Int) + ((Lib.bitLen t - Lib.bitLen y : Nat) : Int) + 1 = 16 * (m : Int) + ((Lib.bitLen t - Lib.bitLen (y / 2) : Nat) : Int)) := by show _ = _; omega
        have hb3 : Lib.bitLen (y / 2) ≤ Lib.bitLen t := by omega
        have hyp : 0 < (y : Int) := by omega
        clear hh
        generalize 16 * (m : Int) + ((Lib.bitLen t - Lib.bitLen y : Nat) : Int) = c at *
        go_wp2
        go_round
        case rel => exact ⟨y / 2, by omega, hb3, by go_num, by rw [← Hn.out]⟩
        case measure => simp [intOf]; omega

theorem ok_top {n : Nat} {f : Nat → Int} (h : natOk n f = true) : n = 0 ∨ (0 ≤ f (n - 1) ∧ f (n - 1) ≤ 65535) := by
  by_cases h0 : n = 0
  · exact .inl h0
  · exact .inr (((natOk_iff n f).1 h).1 _ (by omega))

theorem natOk_canon {n : Nat} {f : Nat → Int} (h : natOk n f = true) : Canon n f :=
  ⟨((natOk_iff n f).1 h).1, ((natOk_iff n f).1 h).2.2⟩

/-- NatCompare's answer. -/
def cmpQ (n : Nat) (f : Nat → Int) (n2 : Nat) (g : Nat → Int) : Int := if natOk n f && natOk n2 g then cmpV (val f n) (val g n2) else -2

/-- NatBits' answer. -/
def bitsQ (n : Nat) (f : Nat → Int) : Int := if natOk n f then bitsOf n f else -1

set_option maxHeartbeats 400000 in
theorem implNatBits_any (a : Option Addr) (b off n cap : Nat) (f : Nat → Int) (w : World) (hs : Seg w a b off n f) (hn : n ≤ 1048576) :
    Calls Tryz.prog 43 #[.slice a n cap] w fun e w' => e = .returned (.int .i64 (bitsQ n f)) ∧ w' = w := by
  cases hok : natOk n f with
  | false =>
    have Hv : Hid (bitsQ n f = -1) := by show _ = _; simp [bitsQ, hok]
    go_enter Tryz.func43, Tryz.ntmps43
    go_wp2_with fail
    refine (implNatOk_any a b off n cap f _ hs hn).mono ?_
    rintro e w' ⟨rfl, hw⟩
    subst hw
    rw [hok]
    clear hok
    go_wp2
    go_ret
    exact ⟨ret_int Hv.out.symm, rfl⟩
  | true =>
    have Hv : Hid (bitsQ n f = bitsOf n f) := by show _ = _; simp [bitsQ, hok]
    have ht := ok_top hok
    go_enter Tryz.func43, Tryz.ntmps43
    go_wp2_with fail
    refine (implNatOk_any a b off n cap f _ hs hn).mono ?_
    rintro e w' ⟨rfl, hw⟩
    subst hw
    rw [hok]
    clear hok
    go_wp2_with fail
    refine (digitsBits_any a b off n cap f _ hs hn ht).mono ?_
    rintro e w' ⟨rfl, hw⟩
    subst hw
    go_wp2
    go_ret
    exact ⟨ret_int Hv.out.symm, rfl⟩

theorem Tryz.info3 : (Tryz.prog.info? 3).map (fun i => (i.zero, i.size, i.bytes)) = some (some (.int .i64 0), 1, 8) := by kernel_rfl

/-- What toIntS has done behind k rounds: a new row, its first k places filled. -/
structure Copying (w wr : World) (n k : Nat) (f : Nat → Int) : Prop where
  below : Below w.heap.size w wr
  size : wr.heap.size = w.heap.size + 1
  row : wr.rowIs w.heap.size 3 n (fun j => .int .i64 (if j < k then f j else 0))

theorem copying_start (w : World) (n : Nat) (f : Nat → Int) : Copying w (w.alloc (.cells (madeCells #[.int .i64 0] n) 3)) n 0 f :=
  ⟨(Below.refl _ _).alloc (Nat.le_refl _) _, by simp, (World.rowIs_made w _ n 3).congr (fun j _ => by simp)⟩

theorem copying_step {w wr : World} {n k : Nat} {f : Nat → Int} (h : Copying w wr n k f) : Copying w (wr.setCell ⟨w.heap.size, k, none⟩ (.int .i64 (f k))) n (k + 1) f := by
  refine ⟨h.below.setCell (Nat.le_refl _) _, by simp [World.setCell, h.size], (h.row.set k _).congr (fun j _ => ?_)⟩
  by_cases e : j = k
  · subst e; simp
  · rw [if_neg e]
    by_cases hlt : j < k
    · rw [if_pos hlt, if_pos (by omega)]
    · rw [if_neg hlt, if_neg (by omega)]

theorem copying_step' {w wr : World} {n k : Nat} {f : Nat → Int} {v : Int} (h : Copying w wr n k f) (hv : v = f k) : Copying w (wr.setCell ⟨w.heap.size, k, none⟩ (.int .i64 v)) n (k + 1) f := by
  rw [hv]; exact copying_step h

set_option maxHeartbeats 400000 in
theorem toIntS_any (a : Option Addr) (b off n cap : Nat) (f : Nat → Int) (w : World) (hs : Seg w a b off n f) (hn : n ≤ 1048576) :
    Calls Tryz.prog 36 #[.slice a n cap] w fun e w' => e = .returned (.slice (some ⟨w.heap.size, 0, none⟩) n n) ∧ w'.heap.size = w.heap.size + 1 ∧ w'.rowIs w.heap.size 3 n (fun j => .int .i64 (f j)) ∧ Below w.heap.size w w' := by
  have hmk := run_make_row' (P := Tryz.prog) 22 3 (.int .i64 0) 8 Tryz.underlying22 Tryz.info3 rfl .i64 .i64 n (by omega) (by omega)
  go_enter Tryz.func36, Tryz.ntmps36
  go_wp2
  clear hmk
  go_loopw [4] (fun i wr => ∃ k : Nat, k ≤ n ∧ i = .int .i64 k ∧ Copying w wr n k f) (fun i _ => n - (intOf i).toNat)
  case atStart => exact ⟨0, Nat.zero_le _, rfl, copying_start w n f⟩
  case round =>
    obtain ⟨k, hk, rfl, hI⟩ := hrel
    by_cases hlt : k < n
    · obtain rfl := hs.at' (by omega)
      have hc : wr.cell? ⟨b, off + k, none⟩ = some (.int .i64 (f k)) := (hI.below.cell (p := ⟨b, off + k, none⟩) (hs.lt (by omega))).trans (hs.cell k hlt)
      have hd : wr.cell? ⟨w.heap.size, k, none⟩ = some (.int .i64 0) := by simpa using hI.row.cell hlt
      have hf : wr.frozen? ⟨w.heap.size, k, none⟩ = false := hI.row.frozen k
      have hkn : (k : Int) < (n : Int) := by omega
      go_wp2
      go_roundw
      case rel => exact ⟨k + 1, by omega, by go_num, copying_step hI⟩
      case measure => simp [intOf]; omega
    · obtain rfl : k = n := by omega
      go_wp2
      go_ret
      exact ⟨rfl, hI.size, hI.row.congr (fun j hj => by rw [if_pos hj]), hI.below⟩

/-- Two lists of n ints are alike in the first n places. -/
def alike (f g : Nat → Int) : Nat → Bool
  | 0 => true
  | n + 1 => alike f g n && f n == g n

theorem alike_iff (f g : Nat → Int) (n : Nat) : alike f g n = true ↔ ∀ i, i < n → f i = g i := by
  induction n with
  | zero => simp [alike]
  | succ n ih =>
    simp only [alike, Bool.and_eq_true, ih, beq_iff_eq]
    constructor
    · rintro ⟨h, h0⟩ i hi
      by_cases e : i = n
      · subst e; exact h0
      · exact h i (by omega)
    · intro h
      exact ⟨fun i hi => h i (by omega), h n (by omega)⟩

theorem alike_false {f g : Nat → Int} {n k : Nat} (hk : k < n) (h : f k ≠ g k) : alike f g n = false := by
  cases e : alike f g n with
  | false => rfl
  | true => exact absurd ((alike_iff f g n).1 e k hk) h

set_option maxHeartbeats 400000 in
theorem eqIntS_any (a : Option Addr) (b off n cap : Nat) (f : Nat → Int) (a2 : Option Addr) (b2 off2 n2 cap2 : Nat) (g : Nat → Int) (w : World) (hs : Seg w a b off n f) (hs2 : Seg w a2 b2 off2 n2 g) (hn : n ≤ 1048576) :
    Calls Tryz.prog 44 #[.slice a n cap, .slice a2 n2 cap2] w fun e w' => e = .returned (.bool (n == n2 && alike f g n)) ∧ ∃ q, w' = w.drewN q := by
  by_cases hne : n = n2
  · subst hne
    go_enter Tryz.func44, Tryz.ntmps44
    go_wp2
    go_loopw [5] (fun i wr => ∃ k : Nat, k ≤ n ∧ i = .int .i64 k ∧ (∀ j, j < k → f j = g j) ∧ ∃ q, wr = w.drewN q) (fun i _ => n - (intOf i).toNat)
    case atStart => exact ⟨0, Nat.zero_le _, rfl, fun j hj => absurd hj (Nat.not_lt_zero _), 0, rfl⟩
    case round =>
      obtain ⟨k, hk, rfl, hd, q, rfl⟩ := hrel
      by_cases hlt : k < n
      · obtain rfl := hs.at' (by omega)
        obtain rfl := hs2.at' (by omega)
        have hc := hs.cell k hlt
        have hc2 := hs2.cell k hlt
        have hkn : (k : Int) < (n : Int) := by omega
        by_cases he : f k = g k
        · have hb : (f k != g k) = false := by simp [he]
          go_wp2
          go_quiet (fail)
          go_wp2
          go_roundw
          case rel => exact ⟨k + 1, by omega, by go_num, fun j hj => by
                        by_cases e : j = k
                        · subst e; exact he
                        · exact hd j (by omega), _, rfl⟩
          case measure => simp [intOf]; omega
        · have hb : (f k != g k) = true := by simp [he]
          go_wp2
          go_quiet (fail)
          go_wp2
          go_ret
          exact ⟨ret_bool (by simp [alike_false hlt he]), _, World.drewN_drewN ..⟩
      · obtain rfl : k = n := by omega
        go_wp2
        go_ret
        exact ⟨ret_bool (by simp [(alike_iff f g k).2 hd]), q, rfl⟩
  · have hb : ((n : Int) != (n2 : Int)) = true := by simp; omega
    go_enter Tryz.func44, Tryz.ntmps44
    go_wp2
    go_ret
    exact ⟨ret_bool (by simp [hne]), 0, rfl⟩

theorem alike_refl (n : Nat) (f : Nat → Int) : (n == n && alike f f n) = true := by simp [(alike_iff f f n).2 (fun _ _ => rfl)]

end Go.Proofs.YtdaneanloknkpacGreatDoor
