/- Walks: what Puny of both is made of: thresholds, digits' bytes, bias, words, near bytes, the least number. -/
import Derived.Test.YtjpdllhhganbpaaPnN
import Derived.Test.YtjpdllhhganbpaaNatOk
import Derived.Test.YtjpdllhhganbpaaBCat
import Derived.Test.YtjpdllhhganbpaaEqB
import Derived.Maps.AppendAt
namespace Go.Proofs.Ytjpdllhhganbpaa
set_option linter.unusedVariables false
set_option linter.unusedSimpArgs false
open Go.RowKit

theorem l1Min2_any (x y : Int) (w : World) : Calls Try.prog 35 #[.int .i64 x, .int .i64 y] w fun e w' => e = .returned (.int .i64 (min x y)) ∧ w' = w := by
  by_cases h : x < y
  · go_enter Try.func35, Try.ntmps35
    go_wp2
    go_ret
    exact ⟨ret_int (by omega), rfl⟩
  · go_enter Try.func35, Try.ntmps35
    go_wp2
    go_ret
    exact ⟨ret_int (by omega), rfl⟩

theorem l1Max2_any (x y : Int) (w : World) : Calls Try.prog 42 #[.int .i64 x, .int .i64 y] w fun e w' => e = .returned (.int .i64 (max x y)) ∧ w' = w := by
  by_cases h : y < x
  · go_enter Try.func42, Try.ntmps42
    go_wp2
    go_ret
    exact ⟨ret_int (by omega), rfl⟩
  · go_enter Try.func42, Try.ntmps42
    go_wp2
    go_ret
    exact ⟨ret_int (by omega), rfl⟩

theorem l8Threshold_any (k b : Int) (hk0 : 0 ≤ k) (hk1 : k ≤ 4000000000) (hb0 : 0 ≤ b) (hb1 : b ≤ 4000000000) (w : World) :
    Calls Try.prog 20 #[.int .i64 k, .int .i64 b] w fun e w' => e = .returned (.int .i64 (thr k b)) ∧ w' = w := by
  have HT : Hid (max 1 (min 26 (k - b)) = thr k b) := rfl
  have g : wrap64 (k - b) = k - b := by unfold wrap64; omega
  generalize thr k b = T at *
  go_enter Try.func20, Try.ntmps20
  go_wp2_with fail
  refine (l1Min2_any _ _ _).mono ?_
  rintro e w' ⟨rfl, rfl⟩
  generalize min 26 (k - b) = m at *
  go_wp2_with fail
  refine (l1Max2_any _ _ _).mono ?_
  rintro e w' ⟨rfl, rfl⟩
  generalize max 1 m = q at *
  go_wp2
  go_ret
  exact ⟨ret_int HT.out, rfl⟩

theorem l8PunyDigit_any (x : Int) (h0 : 0 ≤ x) (h1 : x < 36) (w : World) :
    Calls Try.prog 36 #[.int .i64 x] w fun e w' => e = .returned (.int .u8 (pd x)) ∧ w' = w := by
  by_cases h : x < 26
  · have HP : Hid (97 + x = pd x) := by show _ = _; unfold pd; rw [if_pos h]
    have g : (97 + x) % 256 = 97 + x := by omega
    go_enter Try.func36, Try.ntmps36
    go_wp2
    go_ret
    exact ⟨ret_int HP.out, rfl⟩
  · have HP : Hid (48 + x - 26 = pd x) := by show _ = _; unfold pd; rw [if_neg h]; omega
    have g : (48 + x - 26) % 256 = 48 + x - 26 := by omega
    go_enter Try.func36, Try.ntmps36
    go_wp2
    go_ret
    exact ⟨ret_int HP.out, rfl⟩

theorem digitByte_any (x : Int) (h0 : 0 ≤ x) (h1 : x < 36) (w : World) :
    Calls Try.prog 49 #[.int .i64 x] w fun e w' => e = .returned (.int .u8 (pd x)) ∧ w' = w := by
  by_cases h : x < 26
  · have HP : Hid (97 + x = pd x) := by show _ = _; unfold pd; rw [if_pos h]
    have g : (97 + x) % 256 = 97 + x := by omega
    go_enter Try.func49, Try.ntmps49
    go_wp2
    go_ret
    exact ⟨ret_int (by first | exact HP.out | (rw [← HP.out]; omega)), rfl⟩
  · have HP : Hid (48 + x - 26 = pd x) := by show _ = _; unfold pd; rw [if_neg h]; omega
    have g : (48 + x - 26) % 256 = 48 + x - 26 := by omega
    go_enter Try.func49, Try.ntmps49
    go_wp2
    go_ret
    exact ⟨ret_int HP.out, rfl⟩

theorem pbias_eq (d m : Int) (b : Bool) {x : Int} (hx : x = (if b then d / 700 else d / 2) + (if b then d / 700 else d / 2) / m) : pbias d m b = blP x.toNat x 0 := by
  subst hx
  rfl

set_option maxHeartbeats 800000 in
theorem l8Bias_any (d m : Int) (b : Bool) (h0 : 0 ≤ d) (h1 : d ≤ 100000000000000) (h2 : 1 ≤ m) (h3 : m ≤ 100) (w : World) :
    Calls Try.prog 21 #[.int .i64 d, .int .i64 m, .bool b] w fun e w' => e = .returned (.int .i64 (pbias d m b)) ∧ w' = w := by
  have hm0 : (m == 0) = false := by simp; omega
  have q1 : d.tdiv 700 = d / 700 := Int.tdiv_eq_ediv_of_nonneg h0
  have q2 : d.tdiv 2 = d / 2 := Int.tdiv_eq_ediv_of_nonneg h0
  have HE : Hid (∀ x, x = (if b then d / 700 else d / 2) + (if b then d / 700 else d / 2) / m → pbias d m b = blP x.toNat x 0) := fun x hx => pbias_eq d m b hx
  have hd : 0 ≤ (if b then d / 700 else d / 2) ∧ (if b then d / 700 else d / 2) ≤ 50000000000000 := by split <;> omega
  generalize hdd : (if b then d / 700 else d / 2) = x at *
  have q3 : x.tdiv m = x / m := Int.tdiv_eq_ediv_of_nonneg hd.1
  have h4 := Int.ediv_nonneg hd.1 (show 0 ≤ m by omega)
  have h5 := Int.ediv_le_self m hd.1
  have hy : ∃ y, y = x + x / m := ⟨_, rfl⟩
  obtain ⟨y, hy⟩ := hy
  have HY := hide (HE.out y hy)
  have hy0 : 0 ≤ y := by omega
  have hy1 : y ≤ 100000000000000 := by omega
  have g1 : wrap64 (x + x / m) = y := by rw [hy]; unfold wrap64; omega
  have g2 : x + x / m = y := hy.symm
  have g3 : wrap64 (x / m) = x / m := by unfold wrap64; omega
  clear HE hy h4 h5
  cases b
  · simp only [Bool.false_eq_true, if_false] at hdd
    go_enter Try.func21, Try.ntmps21
    go_wp2
    clear hdd q1 q2 q3 g1 g2 g3 hm0
    go_loop [0, 7] (fun v c => ∃ (F : Nat) (z k : Int), v = .int .i64 z ∧ c = .int .i64 k ∧ z.toNat ≤ F ∧ 0 ≤ z ∧ z ≤ 100000000000000 ∧ 0 ≤ k ∧ k + 36 * z ≤ 4000000000000000 ∧ blP F z k = pbias d m false) (fun v _ => (intOf v).toNat)
    case atStart => exact ⟨y.toNat, y, 0, rfl, rfl, Nat.le_refl _, hy0, hy1, Int.le_refl _, by omega, HY.out.symm⟩
    case round =>
      obtain ⟨F, z, k, rfl, rfl, z1, z2, z3, k0, k1, hb⟩ := hrel
      have HB := hide hb
      clear hb
      by_cases hz : 455 < z
      · obtain ⟨G, hG, he⟩ := blP_more (k := k) z1 hz
        have HG : Hid (blP G (z / 35) (k + 36) = pbias d m false) := by show _ = _; rw [← he]; exact HB.out
        have q : z.tdiv 35 = z / 35 := Int.tdiv_eq_ediv_of_nonneg z2
        have HH := hide hG
        clear he HB hG
        go_wp2
        go_round
        case rel => exact ⟨G, z / 35, k + 36, rfl, by go_num, HH.out, by omega, by omega, by omega, by omega, HG.out⟩
        case measure => simp [intOf]; omega
      · have he := blP_end (F := F) (k := k) hz
        have HG : Hid (k + 36 * z / (z + 38) = pbias d m false) := by show _ = _; rw [← he]; exact HB.out
        obtain ⟨f0, f1⟩ := frac_le z2
        have q : (36 * z).tdiv (z + 38) = 36 * z / (z + 38) := Int.tdiv_eq_ediv_of_nonneg (by omega)
        have p0 : (z + 38 == 0) = false := by simp; omega
        clear he HB
        generalize 36 * z / (z + 38) = fr at *
        have w1 : wrap64 fr = fr := by unfold wrap64; omega
        have w2 : wrap64 (k + fr) = k + fr := by unfold wrap64; omega
        go_wp2
        go_ret
        exact ⟨ret_int HG.out, rfl⟩
  · simp only [if_true] at hdd
    go_enter Try.func21, Try.ntmps21
    go_wp2
    clear hdd q1 q2 q3 g1 g2 g3 hm0
    go_loop [0, 7] (fun v c => ∃ (F : Nat) (z k : Int), v = .int .i64 z ∧ c = .int .i64 k ∧ z.toNat ≤ F ∧ 0 ≤ z ∧ z ≤ 100000000000000 ∧ 0 ≤ k ∧ k + 36 * z ≤ 4000000000000000 ∧ blP F z k = pbias d m true) (fun v _ => (intOf v).toNat)
    case atStart => exact ⟨y.toNat, y, 0, rfl, rfl, Nat.le_refl _, hy0, hy1, Int.le_refl _, by omega, HY.out.symm⟩
    case round =>
      obtain ⟨F, z, k, rfl, rfl, z1, z2, z3, k0, k1, hb⟩ := hrel
      have HB := hide hb
      clear hb
      by_cases hz : 455 < z
      · obtain ⟨G, hG, he⟩ := blP_more (k := k) z1 hz
        have HG : Hid (blP G (z / 35) (k + 36) = pbias d m true) := by show _ = _; rw [← he]; exact HB.out
        have q : z.tdiv 35 = z / 35 := Int.tdiv_eq_ediv_of_nonneg z2
        have HH := hide hG
        clear he HB hG
        go_wp2
        go_round
        case rel => exact ⟨G, z / 35, k + 36, rfl, by go_num, HH.out, by omega, by omega, by omega, by omega, HG.out⟩
        case measure => simp [intOf]; omega
      · have he := blP_end (F := F) (k := k) hz
        have HG : Hid (k + 36 * z / (z + 38) = pbias d m true) := by show _ = _; rw [← he]; exact HB.out
        obtain ⟨f0, f1⟩ := frac_le z2
        have q : (36 * z).tdiv (z + 38) = 36 * z / (z + 38) := Int.tdiv_eq_ediv_of_nonneg (by omega)
        have p0 : (z + 38 == 0) = false := by simp; omega
        clear he HB
        generalize 36 * z / (z + 38) = fr at *
        have w1 : wrap64 fr = fr := by unfold wrap64; omega
        have w2 : wrap64 (k + fr) = k + fr := by unfold wrap64; omega
        go_wp2
        go_ret
        exact ⟨ret_int HG.out, rfl⟩

end Go.Proofs.Ytjpdllhhganbpaa
