/- Walks: the model's NatInt and the program's: the number of a natural below 2^62. -/
import Derived.Test.YtojgnbckikpgmafNatOk
import Derived.Test.YtojgnbckikpgmafBitLen
import Derived.Test.YtojgnbckikpgmafNatOf2
namespace Go.Proofs.Ytojgnbckikpgmaf
set_option linter.unusedVariables false
open Go.RowKit

theorem val_split (f : Nat → Int) (k m : Nat) : val f (k + m) = val f k + val (fun j => f (k + j)) m * pw k := by
  induction m with
  | zero => simp [val]
  | succ m ih =>
    rw [← Nat.add_assoc]
    simp only [val]
    rw [ih, pw_add]
    grind

theorem val_cons (f : Nat → Int) (m : Nat) : val f (m + 1) = f 0 + 65536 * val (fun j => f (j + 1)) m := by
  have h := val_split f 1 m
  rw [Nat.add_comm] at h
  rw [h]
  simp only [val, pw]
  rw [val_congr (g := fun j => f (j + 1)) (fun i _ => by rw [Nat.add_comm])]
  grind

/-- The number fits below 2^62. -/
def smallB (n : Nat) (f : Nat → Int) : Bool := decide (n < 4) || (n == 4 && decide (f 3 < 16384))

theorem small_val {n : Nat} {f : Nat → Int} (hd : Digs f n) (h : smallB n f = true) : n ≤ 4 ∧ val f n < 4611686018427387904 := by
  simp only [smallB, Bool.or_eq_true, decide_eq_true_eq, Bool.and_eq_true, beq_iff_eq] at h
  rcases h with h | ⟨rfl, h⟩
  · have b := val_bd hd
    have p := pw_le (show n ≤ 3 by omega)
    have e : pw 3 = 281474976710656 := by simp [pw]
    omega
  · have b := val_bd (hd.mono (show 3 ≤ 4 by omega))
    have e : pw 3 = 281474976710656 := by simp [pw]
    have e2 : val f 4 = val f 3 + f 3 * 281474976710656 := by rw [← e]; rfl
    omega

/-- The part of a value above a place. -/
theorem top_le {n k : Nat} {f : Nat → Int} (hd : Digs f n) (hk : k ≤ n) : 0 ≤ val (fun j => f (k + j)) (n - k) ∧ val (fun j => f (k + j)) (n - k) ≤ val f n := by
  have h := val_split f k (n - k)
  rw [show k + (n - k) = n by omega] at h
  have b := (val_bd (hd.mono hk)).1
  have t := (val_bd (f := fun j => f (k + j)) (n := n - k) (fun i hi => hd (k + i) (by omega))).1
  have p := Int.mul_le_mul_of_nonneg_left (show (1 : Int) ≤ pw k by have := pw_pos k; omega) t
  rw [Int.mul_one] at p
  omega

/-- One digit more at the low end. -/
theorem step_top (f : Nat → Int) {n m : Nat} (h : m < n) : val (fun j => f (m + 1 + j)) (n - (m + 1)) * 65536 + f m = val (fun j => f (m + j)) (n - m) := by
  obtain ⟨r, rfl⟩ : ∃ r, n = m + 1 + r := ⟨n - (m + 1), by omega⟩
  rw [show m + 1 + r - m = r + 1 by omega, show m + 1 + r - (m + 1) = r by omega, val_cons]
  rw [val_congr (f := fun j => f (m + 1 + j)) (g := fun j => f (m + (j + 1))) (fun i _ => by rw [show m + 1 + i = m + (i + 1) by omega])]
  simp only [Nat.add_zero]
  omega

theorem low_le {n k : Nat} {f : Nat → Int} (hd : Digs f n) (hk : k ≤ n) : 0 ≤ val f k ∧ val f k ≤ val f n := by
  have h := val_split f k (n - k)
  rw [show k + (n - k) = n by omega] at h
  have b := (val_bd (hd.mono hk)).1
  have t := (val_bd (f := fun j => f (k + j)) (n := n - k) (fun i hi => hd (k + i) (by omega))).1
  have p := Int.mul_nonneg t (Int.le_of_lt (pw_pos k))
  omega

def intV (n : Nat) (f : Nat → Int) : Int := if natOk n f && smallB n f then val f n else 0
def intB (n : Nat) (f : Nat → Int) : Bool := natOk n f && smallB n f

theorem ret_ib {a b : Int} {p q : Bool} (h : a = b) (h2 : p = q) : Ending.returned (.tuple #[.int .i64 a, .bool p]) = .returned (.tuple #[.int .i64 b, .bool q]) := by rw [h, h2]

set_option maxHeartbeats 800000 in
theorem specNatInt_any (a : Option Addr) (b off n cap : Nat) (f : Nat → Int) (w : World) (hs : Seg w a b off n f) (hn : n ≤ 1048576) :
    Calls Try.prog 14 #[.slice a n cap] w fun e w' => e = .returned (.tuple #[.int .i64 (intV n f), .bool (intB n f)]) ∧ w' = w := by
  cases hok : natOk n f with
  | false =>
    have Hok : Hid (natOk n f = false) := hok
    go_enter Try.func14, Try.ntmps14
    go_wp2_with fail
    refine (specNatOk_any a b off n cap f _ hs hn).mono ?_
    rintro e w' ⟨rfl, hw⟩
    subst hw
    rw [hok]
    clear hok
    go_wp2
    go_ret2
    exact ⟨ret_ib (by simp [intV, Hok.out]) (by simp [intB, Hok.out]), rfl⟩
  | true =>
    have Hok : Hid (natOk n f = true) := hok
    have hd : Digs f n := ((natOk_iff n f).1 hok).1
    by_cases h4 : n ≤ 4
    · by_cases e4 : n = 4
      · subst e4
        obtain rfl := hs.at' (by omega)
        have hc3 := hs.cell 3 (by omega)
        by_cases hbig : 16384 ≤ f 3
        · go_enter Try.func14, Try.ntmps14
          go_wp2_with fail
          refine (specNatOk_any _ b off 4 cap f _ hs hn).mono ?_
          rintro e w' ⟨rfl, hw⟩
          subst hw
          rw [hok]
          clear hok
          go_wp2
          go_ret2
          exact ⟨ret_ib (by simp [intV, smallB]; omega) (by simp [intB, smallB]; omega), rfl⟩
        · have hsm : smallB 4 f = true := by simp [smallB]; omega
          obtain ⟨_, hv⟩ := small_val hd hsm
          have Hfin : Hid (intV 4 f = val f 4 ∧ intB 4 f = true) := ⟨by simp [intV, hok, hsm], by simp [intB, hok, hsm]⟩
          go_enter Try.func14, Try.ntmps14
          go_wp2_with fail
          refine (specNatOk_any _ b off 4 cap f _ hs hn).mono ?_
          rintro e w' ⟨rfl, hw⟩
          subst hw
          rw [hok]
          clear hok Hok hsm
          go_wp2
          go_loop [4, 5] (fun t i => ∃ k : Nat, k ≤ 4 ∧ i = .int .i64 ((k : Int) - 1) ∧ t = .int .i64 (val (fun j => f (k + j)) (4 - k))) (fun _ i => (intOf i + 1).toNat)
          case atStart => exact ⟨4, by omega, by go_num, rfl⟩
          case round =>
            obtain ⟨k, hk, rfl, rfl⟩ := hrel
            by_cases h0 : k = 0
            · subst h0
              have Hz : Hid (val (fun j => f (0 + j)) (4 - 0) = val f 4) := val_congr (fun i _ => by rw [Nat.zero_add])
              go_wp2
              go_ret2
              exact ⟨ret_ib (Hz.out.trans Hfin.out.1.symm) Hfin.out.2.symm, rfl⟩
            · obtain ⟨m, rfl⟩ : ∃ m, k = m + 1 := ⟨k - 1, by omega⟩
              have hc := hs.cell m (by omega)
              have hm4 : (m : Int) < 4 := by omega
              have d := hd m (by omega)
              obtain ⟨d0, d1⟩ := d
              have t0 := top_le hd (show m + 1 ≤ 4 by omega)
              have t1 := top_le hd (show m ≤ 4 by omega)
              have Hs : Hid (val (fun j => f (m + 1 + j)) (4 - (m + 1)) * 65536 + f m = val (fun j => f (m + j)) (4 - m)) := step_top f (by omega)
              have hb : val (fun j => f (m + 1 + j)) (4 - (m + 1)) * 65536 + f m ≤ 4611686018427387904 := by rw [Hs.out]; omega
              generalize val (fun j => f (m + 1 + j)) (4 - (m + 1)) = acc at *
              obtain ⟨t00, _⟩ := t0
              clear t1
              go_wp2
              go_round
              case rel => exact ⟨m, by omega, by go_num, by rw [← Hs.out]⟩
              case measure => simp [intOf]
      · have h44 : ((n : Int) == 4) = false := by simp; omega
        have n4 : ¬ (4 : Int) < (n : Int) := by omega
        have hsm : smallB n f = true := by simp [smallB]; omega
        obtain ⟨_, hv⟩ := small_val hd hsm
        have Hfin : Hid (intV n f = val f n ∧ intB n f = true) := ⟨by simp [intV, hok, hsm], by simp [intB, hok, hsm]⟩
        go_enter Try.func14, Try.ntmps14
        go_wp2_with fail
        refine (specNatOk_any _ b off n cap f _ hs hn).mono ?_
        rintro e w' ⟨rfl, hw⟩
        subst hw
        rw [hok]
        clear hok Hok hsm
        go_wp2
        go_loop [4, 5] (fun t i => ∃ k : Nat, k ≤ n ∧ i = .int .i64 ((k : Int) - 1) ∧ t = .int .i64 (val (fun j => f (k + j)) (n - k))) (fun _ i => (intOf i + 1).toNat)
        case atStart => exact ⟨n, by omega, by go_num, by rw [Nat.sub_self]; rfl⟩
        case round =>
          obtain ⟨k, hk, rfl, rfl⟩ := hrel
          by_cases h0 : k = 0
          · subst h0
            have Hz : Hid (val (fun j => f (0 + j)) (n - 0) = val f n) := val_congr (fun i _ => by rw [Nat.zero_add])
            go_wp2
            go_ret2
            exact ⟨ret_ib Hfin.out.1.symm Hfin.out.2.symm, rfl⟩
          · obtain ⟨m, rfl⟩ : ∃ m, k = m + 1 := ⟨k - 1, by omega⟩
            obtain rfl := hs.at' (by omega)
            have hc := hs.cell m (by omega)
            have hm4 : (m : Int) < (n : Int) := by omega
            have d := hd m (by omega)
            obtain ⟨d0, d1⟩ := d
            have t0 := top_le hd (show m + 1 ≤ n by omega)
            have t1 := top_le hd (show m ≤ n by omega)
            have Hs : Hid (val (fun j => f (m + 1 + j)) (n - (m + 1)) * 65536 + f m = val (fun j => f (m + j)) (n - m)) := step_top f (by omega)
            have hb : val (fun j => f (m + 1 + j)) (n - (m + 1)) * 65536 + f m ≤ 4611686018427387904 := by rw [Hs.out]; omega
            generalize val (fun j => f (m + 1 + j)) (n - (m + 1)) = acc at *
            obtain ⟨t00, _⟩ := t0
            clear t1
            go_wp2
            go_round
            case rel => exact ⟨m, by omega, by go_num, by rw [← Hs.out]⟩
            case measure => simp [intOf]
    · have n4 : (4 : Int) < (n : Int) := by omega
      go_enter Try.func14, Try.ntmps14
      go_wp2_with fail
      refine (specNatOk_any a b off n cap f _ hs hn).mono ?_
      rintro e w' ⟨rfl, hw⟩
      subst hw
      rw [hok]
      clear hok
      go_wp2
      go_ret2
      exact ⟨ret_ib (by simp [intV, smallB]; omega) (by simp [intB, smallB]; omega), rfl⟩
end Go.Proofs.Ytojgnbckikpgmaf
