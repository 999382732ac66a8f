/- Walks: four numbers, InNet of both. -/
import Derived.Test.YtjidlahgfkdipacDoorLists
import Derived.Test.YtjidlahgfkdipacDoorNatOk
import Derived.Test.YtjidlahgfkdipacDoorBits
import Derived.Deep.RegionWith
namespace Go.Proofs.YtjidlahgfkdipacDoor
set_option linter.unusedVariables false
set_option linter.unusedSimpArgs false
open Go.RowKit

/-- Four numbers of 0 .. 255. -/
def octs (f : Nat → Int) : Nat → Bool
  | 0 => true
  | n + 1 => octs f n && (decide (0 ≤ f n) && decide (f n ≤ 255))
theorem octs_iff (f : Nat → Int) (n : Nat) : octs f n = true ↔ ∀ i, i < n → 0 ≤ f i ∧ f i ≤ 255 := by
  induction n with
  | zero => simp [octs]
  | succ n ih =>
    simp only [octs, Bool.and_eq_true, ih, decide_eq_true_eq]
    constructor
    · rintro ⟨h, h0, h1⟩ i hi
      by_cases e : i = n
      · subst e; exact ⟨h0, h1⟩
      · exact h i (by omega)
    · intro h
      exact ⟨fun i hi => h i (by omega), (h n (by omega)).1, (h n (by omega)).2⟩
def fourB (n : Nat) (f : Nat → Int) : Bool := octs f n && decide (n = 4)
theorem four_no {f : Nat → Int} {n k : Nat} (hk : k < n) (h : f k < 0 ∨ 255 < f k) : fourB n f = false := by
  unfold fourB
  cases e : octs f n with
  | false => rfl
  | true => have := (octs_iff f n).1 e k hk; omega
theorem four_end {f : Nat → Int} {n : Nat} (h : ∀ i, i < n → 0 ≤ f i ∧ f i ≤ 255) : fourB n f = decide (n = 4) := by
  unfold fourB
  rw [(octs_iff f n).2 h, Bool.true_and]
theorem four_is {f : Nat → Int} {n : Nat} (h : fourB n f = true) : n = 4 ∧ ∀ i, i < 4 → 0 ≤ f i ∧ f i ≤ 255 := by
  unfold fourB at h
  simp only [Bool.and_eq_true, decide_eq_true_eq] at h
  obtain ⟨h1, rfl⟩ := h
  exact ⟨rfl, (octs_iff f 4).1 h1⟩

set_option maxHeartbeats 400000 in
theorem l8Four_any (a : Option Addr) (b off n cap : Nat) (f : Nat → Int) (w : World) (hs : Seg w a b off n f) (hn : n ≤ 1048576) :
    Calls Tryd.prog 48 #[.slice a n cap] w fun e w' => e = .returned (.bool (fourB n f)) ∧ w' = w := by
  go_enter Tryd.func48, Tryd.ntmps48
  go_wp2
  go_loop [3] (fun i => ∃ k : Nat, k ≤ n ∧ i = .int .i64 k ∧ ∀ j, j < k → 0 ≤ f j ∧ f j ≤ 255) (fun i => n - (intOf i).toNat)
  case atStart => exact ⟨0, Nat.zero_le _, rfl, fun j hj => absurd hj (Nat.not_lt_zero _)⟩
  case round =>
    obtain ⟨k, hk, rfl, hd⟩ := hrel
    by_cases hlt : k < n
    · obtain rfl := hs.at' (by omega)
      have hc := hs.cell k hlt
      by_cases hin : 0 ≤ f k ∧ f k ≤ 255
      · obtain ⟨h0, h1⟩ := hin
        have hb : (decide (0 ≤ f k) && decide (f k ≤ 255)) = true := by simp [h0, h1]
        go_wp2_with (go_at_call 76; refine (l1In_any _ _ _ _).mono ?_; rintro e w' ⟨rfl, rfl⟩)
        go_round
        case rel => exact ⟨k + 1, by omega, by go_num, fun j hj => by
                      by_cases e : j = k
                      · subst e; exact ⟨h0, h1⟩
                      · exact hd j (by omega)⟩
        case measure => simp [intOf]; omega
      · have hb : (decide (0 ≤ f k) && decide (f k ≤ 255)) = false := by simp; omega
        go_wp2_with (go_at_call 76; refine (l1In_any _ _ _ _).mono ?_; rintro e w' ⟨rfl, rfl⟩)
        go_ret
        exact ⟨ret_bool (four_no hlt (by omega)).symm, rfl⟩
    · obtain rfl : k = n := by omega
      have Hfin := hide (four_end hd)
      clear hd
      by_cases h4 : k = 4
      · have hz : ((k : Int) == 4) = true := by simp; omega
        have H4 := hide h4
        clear h4
        go_wp2
        go_ret
        exact ⟨ret_bool (by rw [Hfin.out]; simp [H4.out]), rfl⟩
      · have hz : ((k : Int) == 4) = false := by simp; omega
        go_wp2
        go_ret
        exact ⟨ret_bool (by rw [Hfin.out]; simp [h4]), rfl⟩

set_option maxHeartbeats 400000 in
theorem addressOk_any (a : Option Addr) (b off n cap : Nat) (f : Nat → Int) (w : World) (hs : Seg w a b off n f) (hn : n ≤ 1048576) :
    Calls Tryd.prog 43 #[.slice a n cap] w fun e w' => e = .returned (.bool (fourB n f)) ∧ w' = w := by
  by_cases h4 : n = 4
  · subst h4
    go_enter Tryd.func43, Tryd.ntmps43
    go_wp2
    go_loop [10] (fun i => ∃ k : Nat, k ≤ 4 ∧ i = .int .i64 k ∧ ∀ j, j < k → 0 ≤ f j ∧ f j ≤ 255) (fun i => 4 - (intOf i).toNat)
    case atStart => exact ⟨0, Nat.zero_le _, rfl, fun j hj => absurd hj (Nat.not_lt_zero _)⟩
    case round =>
      obtain ⟨k, hk, rfl, hd⟩ := hrel
      by_cases hlt : k < 4
      · have hkn : (k : Int) < 4 := by omega
        obtain rfl := hs.at' (by omega)
        have hc := hs.cell k hlt
        by_cases h0 : f k < 0
        · go_wp2
          go_ret
          exact ⟨ret_bool (four_no hlt (by omega)).symm, rfl⟩
        · by_cases h1 : 255 < f k
          · go_wp2
            go_ret
            exact ⟨ret_bool (four_no hlt (by omega)).symm, rfl⟩
          · go_wp2
            go_round
            case rel => exact ⟨k + 1, by omega, by go_num, fun j hj => by
                          by_cases e : j = k
                          · subst e; omega
                          · exact hd j (by omega)⟩
            case measure => simp [intOf]; omega
      · obtain rfl : k = 4 := by omega
        have Hfin := hide (four_end hd)
        clear hd
        go_wp2
        go_ret
        exact ⟨ret_bool (by rw [Hfin.out]; rfl), rfl⟩
  · have hz : ((n : Int) != 4) = true := by simp; omega
    go_enter Tryd.func43, Tryd.ntmps43
    go_wp2
    go_ret
    exact ⟨ret_bool (by simp [fourB, h4]), rfl⟩

/-- The number that an address is. -/
def whole (f : Nat → Int) : Int := f 0 * 16777216 + f 1 * 65536 + f 2 * 256 + f 3

theorem or_byte (a b : Int) (ha : 0 ≤ a) (ha' : a ≤ 16777215) (hb : 0 ≤ b) (hb' : b ≤ 255) : bits .or .i64 (a * 256) b = a * 256 + b := by
  show IntKind.i64.wrap ((BitVec.ofInt 64 (a * 256) ||| BitVec.ofInt 64 b).toNat : Int) = _
  obtain ⟨A, rfl⟩ := Int.eq_ofNat_of_zero_le ha
  obtain ⟨B, rfl⟩ := Int.eq_ofNat_of_zero_le hb
  have e1 : ((A : Int) * 256 % 18446744073709551616).toNat = 2 ^ 8 * A := by omega
  have e2 : ((B : Int) % 18446744073709551616).toNat = B := by omega
  rw [BitVec.toNat_or, ofInt64, ofInt64, e1, e2, ← Nat.two_pow_add_eq_or_of_lt (by omega), IntKind.wrap_i64]
  omega

def wholeK (f : Nat → Int) : Nat → Int
  | 0 => 0
  | k + 1 => wholeK f k * 256 + f k

set_option maxHeartbeats 800000 in
theorem addressNumber_any (a : Option Addr) (b off cap : Nat) (f : Nat → Int) (w : World) (hs : Seg w a b off 4 f) (hf : ∀ i, i < 4 → 0 ≤ f i ∧ f i ≤ 255) :
    Calls Tryd.prog 53 #[.slice a 4 cap] w fun e w' => e = .returned (.int .i64 (whole f)) ∧ w' = w := by
  have HF := hide hf
  obtain rfl := hs.at' (by omega)
  go_enter Tryd.func53, Tryd.ntmps53
  go_wp2
  go_loop [3, 8] (fun v i => ∃ k : Nat, k ≤ 4 ∧ i = .int .i64 k ∧ v = .int .i64 (wholeK f k) ∧ 0 ≤ wholeK f k ∧ wholeK f k < 256 ^ k) (fun _ i => 4 - (intOf i).toNat)
  case atStart => exact ⟨0, by omega, rfl, rfl, Int.le_refl 0, by show (0 : Int) < 1; omega⟩
  case round =>
    obtain ⟨k, hk, rfl, rfl, h0, h1⟩ := hrel
    by_cases hlt : k < 4
    · have hc := hs.cell k hlt
      obtain ⟨f0, f1⟩ := HF.out k hlt
      have hkn : (k : Int) < 4 := by omega
      have hN : Hid (wholeK f (k + 1) = wholeK f k * 256 + f k) := rfl
      have h256 : wholeK f k ≤ 16777215 := by
        have : k = 0 ∨ k = 1 ∨ k = 2 ∨ k = 3 := by omega
        rcases this with rfl | rfl | rfl | rfl <;> omega
      have HB : Hid (wholeK f k * 256 + f k < 256 ^ (k + 1)) := by
        show _ < _
        rw [Int.pow_succ]
        omega
      have ho := or_byte (wholeK f k) (f k) h0 h256 f0 f1
      clear h1
      generalize wholeK f k = x at *
      generalize f k = y at *
      go_wp2
      go_round
      case rel => exact ⟨k + 1, by omega, by go_num, by rw [hN.out], by rw [hN.out]; omega, by rw [hN.out]; exact HB.out⟩
      case measure => simp [intOf]; omega
    · obtain rfl : k = 4 := by omega
      have HW : Hid (wholeK f 4 = whole f) := by
        show _ = _
        simp only [wholeK, whole]
        omega
      clear h0 h1
      go_wp2
      go_ret
      exact ⟨ret_int HW.out, rfl⟩

/-- What is left of a number when the low bits go. -/
def lowCut (x : Int) (bits : Int) : Int := x / 2 ^ (32 - bits).toNat
def netB (n : Nat) (f : Nat → Int) (bits : Int) (m : Nat) (g : Nat → Int) : Bool :=
  fourB n f && (fourB m g && (decide (0 ≤ bits) && decide (bits ≤ 32) && (lowCut (whole f) bits == lowCut (whole g) bits)))

set_option maxHeartbeats 1600000 in
set_option maxRecDepth 100000 in
theorem implInNet_any (a : Option Addr) (b off n cap : Nat) (f : Nat → Int) (bits : Int) (a2 : Option Addr) (b2 off2 m cap2 : Nat) (g : Nat → Int) (w : World) (hs : Seg w a b off n f) (hn : n ≤ 1048576) (hs2 : Seg w a2 b2 off2 m g) (hm : m ≤ 1048576) :
    Calls Tryd.prog 16 #[.slice a n cap, .int .i64 bits, .slice a2 m cap2] w fun e w' => e = .returned (.bool (netB n f bits m g)) ∧ ∃ q, w' = w.drewN q := by
  have H1 := hide (addressOk_any a b off n cap f w hs hn)
  have H2 := hide (addressOk_any a2 b2 off2 m cap2 g w hs2 hm)
  have HV : Hid (netB n f bits m g = (fourB n f && (fourB m g && (decide (0 ≤ bits) && decide (bits ≤ 32) && (lowCut (whole f) bits == lowCut (whole g) bits))))) := rfl
  generalize netB n f bits m g = R at *
  cases e1 : fourB n f
  · rw [e1] at H1 HV
    go_enter Tryd.func16, Tryd.ntmps16
    go_wp2_with fail
    refine H1.out.mono ?_
    rintro e w1 ⟨rfl, rfl⟩
    go_wp2
    go_ret
    exact ⟨ret_bool (by rw [HV.out]; rfl), 0, rfl⟩
  · obtain ⟨rfl, hf⟩ := four_is e1
    rw [e1] at H1 HV
    cases e2 : fourB m g
    · rw [e2] at H2 HV
      go_enter Tryd.func16, Tryd.ntmps16
      go_wp2_with fail
      refine H1.out.mono ?_
      rintro e w1 ⟨rfl, rfl⟩
      go_wp2_with fail
      refine H2.out.mono ?_
      rintro e w1 ⟨rfl, rfl⟩
      go_wp2
      go_ret
      exact ⟨ret_bool (by rw [HV.out]; rfl), 0, rfl⟩
    · obtain ⟨rfl, hg⟩ := four_is e2
      rw [e2] at H2 HV
      have H3 : Hid (∀ w', (∃ q, w' = w.drewN q) → Calls Tryd.prog 53 #[.slice a 4 cap] w' fun e w'' => e = .returned (.int .i64 (whole f)) ∧ w'' = w') := by
        rintro w' ⟨q, rfl⟩
        exact addressNumber_any a b off cap f _ (hs.of_all (below_drewN (Below.refl _ _) q)) hf
      have H4 : Hid (∀ w', (∃ q, w' = w.drewN q) → Calls Tryd.prog 53 #[.slice a2 4 cap2] w' fun e w'' => e = .returned (.int .i64 (whole g)) ∧ w'' = w') := by
        rintro w' ⟨q, rfl⟩
        exact addressNumber_any a2 b2 off2 cap2 g _ (hs2.of_all (below_drewN (Below.refl _ _) q)) hg
      clear hs hs2 hf hg e1 e2
      by_cases hb : 0 ≤ bits ∧ bits ≤ 32
      · have hin : (decide (0 ≤ bits) && decide (bits ≤ 32)) = true := by simp; omega
        rw [hin, Bool.true_and] at HV
        have g1 : 0 ≤ 32 - bits := by omega
        have g2 : -9223372036854775808 ≤ 32 - bits := by omega
        have g3 : 32 - bits ≤ 9223372036854775807 := by omega
        have g4 : ¬ 32 - bits < 0 := by omega
        have g5 : wrap64 (32 - bits) = 32 - bits := by unfold wrap64; omega
        have HX : Hid (lowCut (whole f) bits = whole f / 2 ^ (32 - bits).toNat) := rfl
        have HY : Hid (lowCut (whole g) bits = whole g / 2 ^ (32 - bits).toNat) := rfl
        rw [HX.out, HY.out] at HV
        clear HX HY
        generalize whole f = x at *
        generalize whole g = y at *
        have b1 : ¬ bits < 0 := by omega
        have b2 : ¬ 32 < bits := by omega
        have g6 : (32 - bits).toNat ≤ 32 := by omega
        go_enter Tryd.func16, Tryd.ntmps16
        go_wp2_with fail
        refine H1.out.mono ?_
        rintro e w1 ⟨rfl, rfl⟩
        go_wp2_with fail
        refine H2.out.mono ?_
        rintro e w1 ⟨rfl, rfl⟩
        go_wp2
        go_quiet (first | (go_at_call_of 53 (a); exact Calls.quiet_of_same (H3.out _ ⟨_, rfl⟩)) | (go_at_call_of 53 (a2); exact Calls.quiet_of_same (H4.out _ ⟨_, rfl⟩)))
        go_wp2
        go_ret
        exact ⟨ret_bool (by rw [HV.out]; rfl), _, rfl⟩
      · have hin : (decide (0 ≤ bits) && decide (bits ≤ 32)) = false := by simp; omega
        rw [hin, Bool.false_and] at HV
        by_cases b1 : bits < 0
        · go_enter Tryd.func16, Tryd.ntmps16
          go_wp2_with fail
          refine H1.out.mono ?_
          rintro e w1 ⟨rfl, rfl⟩
          go_wp2_with fail
          refine H2.out.mono ?_
          rintro e w1 ⟨rfl, rfl⟩
          go_wp2
          go_ret
          exact ⟨ret_bool (by rw [HV.out]; rfl), 0, rfl⟩
        · have b2 : 32 < bits := by omega
          go_enter Tryd.func16, Tryd.ntmps16
          go_wp2_with fail
          refine H1.out.mono ?_
          rintro e w1 ⟨rfl, rfl⟩
          go_wp2_with fail
          refine H2.out.mono ?_
          rintro e w1 ⟨rfl, rfl⟩
          go_wp2
          go_ret
          exact ⟨ret_bool (by rw [HV.out]; rfl), 0, rfl⟩

end Go.Proofs.YtjidlahgfkdipacDoor
