/- Walk: the program's NatRead. -/
import Derived.Test.YtmkmojcefgcmlaaNatRead
namespace Go.Proofs.Ytmkmojcefgcmlaa
set_option linter.unusedVariables false
open Go.RowKit

theorem or_zero (y : Int) (h0 : 0 ≤ y) (h1 : y ≤ 65535) : bits .or .i64 0 y = y := by
  have := or_low 0 y (by omega) (by omega) h0 h1
  simpa using this

theorem or_byte (x y : Int) (h0 : 0 ≤ x) (h1 : x ≤ 255) (y0 : 0 ≤ y) (y1 : y ≤ 255) : bits .or .i64 x (y * 256) = x + 256 * y := by
  show IntKind.i64.wrap ((BitVec.ofInt 64 x ||| BitVec.ofInt 64 (y * 256)).toNat : Int) = _
  obtain ⟨X, rfl⟩ := Int.eq_ofNat_of_zero_le h0
  obtain ⟨Y, rfl⟩ := Int.eq_ofNat_of_zero_le y0
  have e1 : ((Y : Int) * 256 % 18446744073709551616).toNat = 2 ^ 8 * Y := by omega
  have e2 : ((X : Int) % 18446744073709551616).toNat = X := by omega
  rw [BitVec.toNat_or, ofInt64, ofInt64, e1, e2, Nat.or_comm, ← Nat.two_pow_add_eq_or_of_lt (by omega), IntKind.wrap_i64]
  omega

theorem rdK_all {n : Nat} {f : Nat → Int} (j : Nat) : rdK n f n j = rd n f j := by
  unfold rdK rd rb
  by_cases h1 : 2 * j < n
  · by_cases h2 : 2 * j + 1 < n
    · simp [h1, h2]
    · simp [h1, h2]
  · simp [h1, show ¬ 2 * j + 1 < n by omega]

theorem rdK_even {n : Nat} {f : Nat → Int} {k j : Nat} (hj : j = k / 2) (hm : k % 2 = 0) : rdK n f k j = 0 := by
  unfold rdK
  simp [show ¬ 2 * j < k by omega, show ¬ 2 * j + 1 < k by omega]

theorem rdK_odd {n : Nat} {f : Nat → Int} {k j : Nat} (hj : j = k / 2) (hm : k % 2 = 1) : rdK n f k j = rb n f (2 * j) := by
  unfold rdK
  simp [show 2 * j < k by omega, show ¬ 2 * j + 1 < k by omega]

theorem rdK_other {n : Nat} {f : Nat → Int} {k j i : Nat} (hj : j = k / 2) (hi : i ≠ j) : rdK n f (k + 1) i = rdK n f k i := by
  unfold rdK
  by_cases h1 : i < j
  · simp [show 2 * i < k by omega, show 2 * i + 1 < k by omega, show 2 * i < k + 1 by omega]
  · simp [show ¬ 2 * i + 1 < k by omega, show ¬ 2 * i < k + 1 by omega, show ¬ 2 * i < k by omega]

theorem rdK_step_even {n : Nat} {f : Nat → Int} {k j : Nat} (hj : j = k / 2) (hm : k % 2 = 0) : rdK n f (k + 1) j = rb n f k := by
  unfold rdK
  simp [show 2 * j = k by omega]

theorem rdK_step_odd {n : Nat} {f : Nat → Int} {k j : Nat} (hj : j = k / 2) (hm : k % 2 = 1) : rdK n f (k + 1) j = rb n f (2 * j) + 256 * rb n f k := by
  unfold rdK
  simp [show 2 * j < k + 1 by omega, show 2 * j + 1 = k by omega]

theorem Own.put0 {w : World} {a : Option Addr} {g n : Nat} {f f' : Nat → Int} (h : Own w a g 0 n f) {k : Nat} (hk : k < n) (x : Int) (e : ∀ p, p < n → (if p = k then x else f p) = f' p) :
    Own (w.setCell ⟨g, k, none⟩ (.int .i64 x)) a g 0 n f' := by
  have := (h.set hk x).congr e
  rw [Nat.zero_add] at this
  exact this

theorem own_drew {w : World} {a : Option Addr} {g off n : Nat} {f : Nat → Int} (h : Own w a g off n f) : Own w.drew a g off n f := ⟨⟨h.at', h.cell⟩, h.free⟩

set_option maxHeartbeats 3200000 in
theorem implNatRead_any (a : Option Addr) (b off n cap : Nat) (f : Nat → Int) (w : World) (hs : BSeg w a b off n f) (hn : n ≤ 1048576) (hB : Byts f n) :
    Calls Try.prog 24 #[.slice a n cap] w fun e w' => GivesQ w (readQ n f) e w' := by
  by_cases h128 : n ≤ 128
  · have Hv : Hid (readQ n f = some (val (rd n f) ((n + 1) / 2))) := by show _ = _; simp [readQ, h128]
    obtain ⟨L, hL⟩ : ∃ L : Nat, L = (n + 1) / 2 := ⟨_, rfl⟩
    have hLi : ((n : Int) + 1) / 2 = (L : Int) := by omega
    have HL : Hid (L = (n + 1) / 2) := hL
    have hL2 : 2 * L ≤ n + 1 := by omega
    have hL3 : n ≤ 2 * L := by omega
    rw [← hL] at Hv
    clear hL
    have hmk := run_make_row' (P := Try.prog) 24 3 (.int .i64 0) 8 Try.underlying24 Try.info3 rfl .i64 .i64 L (by omega) (by omega)
    have hng : ¬ (128 : Int) < (n : Int) := by omega
    go_enter Try.func24, Try.ntmps24
    go_wp2
    clear hmk
    go_loopw [17] (fun i wr => ∃ k : Nat, k ≤ n ∧ i = .int .i64 k ∧ Own wr (some ⟨w.heap.size, 0, none⟩) w.heap.size 0 L (rdK n f k) ∧ Below w.heap.size w wr) (fun i _ => n - (intOf i).toNat)
    case atStart =>
      refine ⟨0, by omega, rfl, ?_, (Below.refl _ _).alloc (Nat.le_refl _) _⟩
      exact Own.of_row ((World.rowIs_made w _ L 3).congr (fun j _ => by simp [rdK])) (Nat.le_refl _)
    case round =>
      obtain ⟨k, hk, rfl, hO, hBl⟩ := hrel
      by_cases hgo : k < n
      · obtain rfl := hs.at' (by omega)
        obtain ⟨p, hp⟩ : ∃ p : Nat, p = n - 1 - k := ⟨_, rfl⟩
        obtain ⟨j, hj⟩ : ∃ j : Nat, j = k / 2 := ⟨_, rfl⟩
        have hpi : (n : Int) - 1 - (k : Int) = (p : Int) := by omega
        have hq : (k : Int) / 2 = (j : Int) := by omega
        have hpn : p < n := by omega
        have hpn' : (p : Int) < (n : Int) := by omega
        have hjL : j < L := by omega
        have hjL' : (j : Int) < (L : Int) := by omega
        have hc := (hs.of_all hBl).cell p hpn
        obtain ⟨b0, b1⟩ := hB p hpn
        have Hb : Hid (rb n f k = f p) := by show _ = _; rw [rb, if_pos hgo, ← hp]
        have hc1 := hO.cell j hjL
        have hz1 := hO.free j hjL
        rw [Nat.zero_add] at hc1 hz1
        rcases Nat.mod_two_eq_zero_or_one k with hm | hm
        · have hr : (k : Int) % 2 = 0 := by omega
          rw [rdK_even hj hm] at hc1
          have hO' := hO.put0 (f' := rdK n f (k + 1)) hjL (bits .or .i64 0 (f p)) (fun i hi => by
            by_cases e : i = j
            · rw [if_pos e, e, rdK_step_even hj hm, Hb.out, or_zero _ b0 (by omega)]
            · rw [if_neg e, rdK_other hj e])
          have hB' := hBl.setCell (p := ⟨w.heap.size, j, none⟩) (Nat.le_refl _) (.int .i64 (bits .or .i64 0 (f p)))
          clear hO hBl Hb hp hj
          go_wp2
          go_region
          go_wp2
          go_roundw
          case rel => exact ⟨k + 1, by omega, by go_num, own_drew hO', hB'.drew⟩
          case measure => simp [intOf]; omega
        · have hr : (k : Int) % 2 = 1 := by omega
          rw [rdK_odd hj hm] at hc1
          obtain ⟨x0, x1⟩ := rb_bd hB (2 * j)
          have hO' := hO.put0 (f' := rdK n f (k + 1)) hjL (bits .or .i64 (rb n f (2 * j)) (f p * 256)) (fun i hi => by
            by_cases e : i = j
            · rw [if_pos e, e, rdK_step_odd hj hm, Hb.out, or_byte _ _ x0 x1 b0 b1]
            · rw [if_neg e, rdK_other hj e])
          have hB' := hBl.setCell (p := ⟨w.heap.size, j, none⟩) (Nat.le_refl _) (.int .i64 (bits .or .i64 (rb n f (2 * j)) (f p * 256)))
          clear hO hBl Hb hp hj
          generalize rb n f (2 * j) = x at *
          go_wp2
          go_region
          go_wp2
          go_roundw
          case rel => exact ⟨k + 1, by omega, by go_num, own_drew hO', hB'.drew⟩
          case measure => simp [intOf]; omega
      · obtain rfl : k = n := by omega
        have hO2 := hO.congr (fun j _ => rdK_all (n := k) (f := f) j)
        clear hO
        go_wp2_with fail
        refine (withoutNoughts_any _ w.heap.size 0 L _ (rd k f) _ hO2.toSeg (by omega) (by omega) (by omega)).mono ?_
        rintro e w' ⟨m, rfl, hmn, hz, hl, hw⟩
        obtain rfl := hw.symm
        go_wp2
        go_ret2
        refine ⟨_, w.heap.size, _, m, rd k f, true, rfl, by omega, ?_, Nat.le_refl _, hO2.cut hmn, hBl⟩
        rw [Hv.out]
        exact ⟨⟨rd_digs hB m, hl⟩, by rw [val_noughts hmn hz], rfl⟩
  · have Hv : Hid (readQ n f = none) := by show _ = _; simp [readQ, h128]
    have hng : (128 : Int) < (n : Int) := by omega
    go_enter Try.func24, Try.ntmps24
    go_wp2
    go_ret2
    exact GivesQ.none Hv.out rfl ((Below.refl _ _).alloc (Nat.le_refl _) _)

end Go.Proofs.Ytmkmojcefgcmlaa
