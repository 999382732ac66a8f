/- Walks: the draws of a word and of a puny text; the law FnPuny. Written by mkdrx.py. -/
import Derived.Test.YtjpdllhhganbpaaDrW
import Derived.Test.YtjpdllhhganbpaaDrS
import Derived.Test.YtjpdllhhganbpaaRpX
import Derived.Test.YtjpdllhhganbpaaSame
namespace Go.Proofs.Ytjpdllhhganbpaa
set_option linter.unusedVariables false
set_option linter.unusedSimpArgs false
open Go.RowKit

theorem drawPuny_any (a : Option Addr) (b off n cap : Nat) (f : Nat → Int) (w : World) (hs : BSeg w a b off n f) (hB : ∀ i, i < n → 0 ≤ f i ∧ f i ≤ 255) (hn : n ≤ 1048576) :
    Calls Try.prog 12 #[.slice a n cap] w fun e w' => ∃ (sa : Option Addr) (sb so k sc : Nat) (F : Nat → Int), e = .returned (.slice sa k sc) ∧ k ≤ sc ∧ sc ≤ 9223372036854775807 ∧ k ≤ 21 ∧ Seg w' sa sb so k F ∧ Ext w w' := by
  go_enter Try.func12, Try.ntmps12
  go_wp2_with fail
  refine (l1New_any a b off n cap f _ hs hB hn).mono ?_
  rintro e w1 ⟨rfl, hC1, hlt1, B1⟩
  have K1 : Code w1 w.heap.size a b off n f := ⟨hs.of_all B1, hB, fun h => by have := hs.lt h; omega⟩
  go_wp2_with fail
  refine (l8DrawWord_any w.heap.size a b off n cap f _ hC1 K1 hn hlt1).mono ?_
  rintro e w2 ⟨sa, sb, so, k, sc, F, rfl, h1, h2, h3, hS, -, hC2, hG⟩
  have HE : Hid (Ext w w2) := hide (gb_to_below B1 hG)
  have HS := hide hS
  clear hC1 K1 hC2 hG B1 hs hS
  go_wp2
  go_ret
  exact ⟨sa, sb, so, k, sc, F, rfl, h1, h2, h3, HS.out, HE.out⟩

set_option maxHeartbeats 3200000 in
set_option maxRecDepth 100000 in
theorem drawReadPuny_any (a : Option Addr) (b off n cap : Nat) (f : Nat → Int) (w : World) (hs : BSeg w a b off n f) (hB : ∀ i, i < n → 0 ≤ f i ∧ f i ≤ 255) (hn : n ≤ 1048576) :
    Calls Try.prog 16 #[.slice a n cap] w fun e w' => ∃ x : ByteArray, e = .returned (.string x) ∧ x.size ≤ 1000 ∧ Ext w w' := by
  go_enter Try.func16, Try.ntmps16
  go_wp2_with fail
  refine (l1New_any a b off n cap f _ hs hB hn).mono ?_
  rintro e w1 ⟨rfl, hC1, hlt1, B1⟩
  have HK : Hid (Code w1 w.heap.size a b off n f) := ⟨hs.of_all B1, hB, fun h => by have := hs.lt h; omega⟩
  have HB1 := hide B1
  have HC := hide hC1
  have HG : Hid (w1.grownBy w1 (some w.heap.size)) := gb_refl w1
  clear hC1 B1 hs hB
  go_wp2_with fail
  refine (l8DrawWord_any w.heap.size a b off n cap f _ HC.out HK.out hn hlt1).mono ?_
  rintro e w2 ⟨sa, sb, so, k, sc, F, rfl, h1, h2, h3, hS, -, hCx, hGx⟩
  replace HC := hide hCx
  replace HG := hide hGx
  have HS := hide hS
  clear hCx hGx hS
  go_wp2_with fail
  refine (specPuny_any sa sb so k sc F w2 HS.out (by omega)).mono ?_
  rintro e w2b ⟨rfl, hE⟩
  replace HC := hide (HC.out.of_block (Below.block hE w.heap.size (Nat.lt_of_lt_of_le hlt1 HG.out.size)))
  replace HG := hide (gb_later HG.out hE HG.out.size)
  have hsz := puny_short k F
  generalize punyS k F = S at *
  generalize wordB k F = wb at *
  clear hE HS
  have hCw : w.heap.size < w1.heap.size := hlt1
  go_wp2_with fail
  refine (l1Below_any w.heap.size a b off n cap f 6 _ HC.out (HK.out.grow HG.out) hn (by omega) (by omega)).mono ?_
  rintro e w3 ⟨y, rfl, y0, y1, hCx, Tx⟩
  replace HC := hide hCx
  replace HG := hide (gb_trans HG.out (gb_touch Tx))
  clear hCx Tx
  have HX : Hid (w.heap.size < w3.heap.size) := Nat.lt_of_lt_of_le hlt1 HG.out.size
  by_cases s0 : y = 0
  · subst s0
    have E1 : Ext w3 (w3.alloc (.cells #[.string ⟨#[97]⟩, .string ⟨#[57]⟩, .string ⟨#[45]⟩, .string ⟨#[122, 122]⟩, .string ⟨#[65]⟩] 9)) := Ext.alloc _ _
    have HR : Hid (∀ i, i < 5 → (w3.alloc (.cells #[.string ⟨#[97]⟩, .string ⟨#[57]⟩, .string ⟨#[45]⟩, .string ⟨#[122, 122]⟩, .string ⟨#[65]⟩] 9)).cell? ⟨w3.heap.size, i, none⟩ = some (.string (nth ([⟨#[97]⟩, ⟨#[57]⟩, ⟨#[45]⟩, ⟨#[122, 122]⟩, ⟨#[65]⟩] : List ByteArray) i))) := row_strs w3 ([⟨#[97]⟩, ⟨#[57]⟩, ⟨#[45]⟩, ⟨#[122, 122]⟩, ⟨#[65]⟩] : List ByteArray)
    have hne : w3.heap.size ≠ w.heap.size := by have := HG.out.size; omega
    have HSz : Hid (∀ i, (nth ([⟨#[97]⟩, ⟨#[57]⟩, ⟨#[45]⟩, ⟨#[122, 122]⟩, ⟨#[65]⟩] : List ByteArray) i).size ≤ 64) := nth_small _ _ (by decide)
    obtain ⟨gg, hgg⟩ : ∃ gg : Nat → ByteArray, nth ([⟨#[97]⟩, ⟨#[57]⟩, ⟨#[45]⟩, ⟨#[122, 122]⟩, ⟨#[65]⟩] : List ByteArray) = gg := ⟨_, rfl⟩
    rw [hgg] at HR HSz
    clear hgg
    replace HC := hide (HC.out.of_block (Below.block E1 w.heap.size (Nat.lt_of_lt_of_le hCw HG.out.size)))
    replace HG := hide (gb_later HG.out E1 HG.out.size)
    clear E1
    go_wp2_with fail
    refine (l1Pick_any w.heap.size a b off n cap f w3.heap.size 5 _ gg _ HC.out (HK.out.grow HG.out) hn HR.out (by decide) (by decide) hne).mono ?_
    rintro e w4 ⟨j, hj, rfl, hCx, Tx⟩
    have xs := HSz.out j
    generalize gg j = x at *
    clear HSz HR hne hj
    replace HC := hide hCx
    replace HG := hide (gb_trans HG.out (gb_touch Tx))
    clear hCx Tx
    have g1 : ¬ 9223372036854775807 < S.size + x.size := by omega
    go_wp2
    go_ret
    exact ⟨_, rfl, by simp [ByteArray.size_append', ByteArray.size_mk']; omega, gb_to_below HB1.out HG.out⟩
  · have t0 : (y == 0) = false := by simp; omega
    by_cases s1 : y = 1
    · subst s1
      by_cases hS0 : 0 < S.size
      · have hS1 : (0 : Int) < (S.size : Int) := by omega
        go_wp2_with fail
        refine (l1Below_any w.heap.size a b off n cap f (S.size : Int) _ HC.out (HK.out.grow HG.out) hn (by omega) (by omega)).mono ?_
        rintro e w4 ⟨z, rfl, z0, z1, hCx, Tx⟩
        replace HC := hide hCx
        replace HG := hide (gb_trans HG.out (gb_touch Tx))
        clear hCx Tx
        obtain ⟨q, rfl⟩ := Int.eq_ofNat_of_zero_le z0
        have hq : q ≤ S.size := by omega
        go_wp2
        go_ret
        exact ⟨_, rfl, by simp; omega, gb_to_below HB1.out HG.out⟩
      · have hS1 : ¬ (0 : Int) < (S.size : Int) := by omega
        go_wp2
        go_ret
        exact ⟨_, rfl, by omega, gb_to_below HB1.out HG.out⟩
    · have t1 : (y == 1) = false := by simp; omega
      by_cases s2 : y = 2
      · subst s2
        have E1 : Ext w3 (w3.alloc (.cells #[.string ⟨#[]⟩, .string ⟨#[45]⟩, .string ⟨#[97]⟩, .string ⟨#[57, 57, 57, 57, 57, 57, 57, 57]⟩, .string ⟨#[98, 99, 104, 101, 114, 45, 107, 118, 97]⟩, .string ⟨#[45, 45]⟩, .string ⟨#[97, 45]⟩, .string ⟨#[122, 122, 122, 122, 122, 122, 122, 122, 122, 122, 122, 122, 122, 122, 122]⟩] 9)) := Ext.alloc _ _
        have HR : Hid (∀ i, i < 8 → (w3.alloc (.cells #[.string ⟨#[]⟩, .string ⟨#[45]⟩, .string ⟨#[97]⟩, .string ⟨#[57, 57, 57, 57, 57, 57, 57, 57]⟩, .string ⟨#[98, 99, 104, 101, 114, 45, 107, 118, 97]⟩, .string ⟨#[45, 45]⟩, .string ⟨#[97, 45]⟩, .string ⟨#[122, 122, 122, 122, 122, 122, 122, 122, 122, 122, 122, 122, 122, 122, 122]⟩] 9)).cell? ⟨w3.heap.size, i, none⟩ = some (.string (nth ([⟨#[]⟩, ⟨#[45]⟩, ⟨#[97]⟩, ⟨#[57, 57, 57, 57, 57, 57, 57, 57]⟩, ⟨#[98, 99, 104, 101, 114, 45, 107, 118, 97]⟩, ⟨#[45, 45]⟩, ⟨#[97, 45]⟩, ⟨#[122, 122, 122, 122, 122, 122, 122, 122, 122, 122, 122, 122, 122, 122, 122]⟩] : List ByteArray) i))) := row_strs w3 ([⟨#[]⟩, ⟨#[45]⟩, ⟨#[97]⟩, ⟨#[57, 57, 57, 57, 57, 57, 57, 57]⟩, ⟨#[98, 99, 104, 101, 114, 45, 107, 118, 97]⟩, ⟨#[45, 45]⟩, ⟨#[97, 45]⟩, ⟨#[122, 122, 122, 122, 122, 122, 122, 122, 122, 122, 122, 122, 122, 122, 122]⟩] : List ByteArray)
        have hne : w3.heap.size ≠ w.heap.size := by have := HG.out.size; omega
        have HSz : Hid (∀ i, (nth ([⟨#[]⟩, ⟨#[45]⟩, ⟨#[97]⟩, ⟨#[57, 57, 57, 57, 57, 57, 57, 57]⟩, ⟨#[98, 99, 104, 101, 114, 45, 107, 118, 97]⟩, ⟨#[45, 45]⟩, ⟨#[97, 45]⟩, ⟨#[122, 122, 122, 122, 122, 122, 122, 122, 122, 122, 122, 122, 122, 122, 122]⟩] : List ByteArray) i).size ≤ 64) := nth_small _ _ (by decide)
        obtain ⟨gg, hgg⟩ : ∃ gg : Nat → ByteArray, nth ([⟨#[]⟩, ⟨#[45]⟩, ⟨#[97]⟩, ⟨#[57, 57, 57, 57, 57, 57, 57, 57]⟩, ⟨#[98, 99, 104, 101, 114, 45, 107, 118, 97]⟩, ⟨#[45, 45]⟩, ⟨#[97, 45]⟩, ⟨#[122, 122, 122, 122, 122, 122, 122, 122, 122, 122, 122, 122, 122, 122, 122]⟩] : List ByteArray) = gg := ⟨_, rfl⟩
        rw [hgg] at HR HSz
        clear hgg
        replace HC := hide (HC.out.of_block (Below.block E1 w.heap.size (Nat.lt_of_lt_of_le hCw HG.out.size)))
        replace HG := hide (gb_later HG.out E1 HG.out.size)
        clear E1
        go_wp2_with fail
        refine (l1Pick_any w.heap.size a b off n cap f w3.heap.size 8 _ gg _ HC.out (HK.out.grow HG.out) hn HR.out (by decide) (by decide) hne).mono ?_
        rintro e w4 ⟨j, hj, rfl, hCx, Tx⟩
        have xs := HSz.out j
        generalize gg j = x at *
        clear HSz HR hne hj
        replace HC := hide hCx
        replace HG := hide (gb_trans HG.out (gb_touch Tx))
        clear hCx Tx
        go_wp2
        go_ret
        exact ⟨_, rfl, by omega, gb_to_below HB1.out HG.out⟩
      · have t2 : (y == 2) = false := by simp; omega
        go_wp2
        go_ret
        exact ⟨_, rfl, by omega, gb_to_below HB1.out HG.out⟩

end Go.Proofs.Ytjpdllhhganbpaa
