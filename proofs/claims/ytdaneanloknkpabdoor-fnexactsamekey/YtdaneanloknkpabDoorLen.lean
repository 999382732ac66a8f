/- Walks: bits.Len of any number: how many bits it has. -/
import Derived.Test.YtdaneanloknkpabDoorBitLen
namespace Go.Proofs.YtdaneanloknkpabDoor
set_option linter.unusedVariables false
open Go.RowKit

theorem bit_fin (n y : Int) (h0 : 0 ≤ y) (h1 : y ≤ 255) (hn : 0 ≤ n) (hn2 : n ≤ 64) (h : y.toNat < Lib.len8tab.size) : wrap64 (n + wrap64 ((Lib.len8tab[y.toNat]'h).toNat : Int)) = n + (Lib.bitLen y.toNat : Int) := by
  rw [tab_get y h h0 h1]
  have := Lib.bitLen_le8' y h0 h1
  unfold wrap64
  omega

theorem bitLen_32 (x : Int) (h : 4294967296 ≤ x) (hx : x ≤ 18446744073709551615) : (Lib.bitLen x.toNat : Int) = 32 + Lib.bitLen (x / 4294967296).toNat := by
  rw [Lib.bitLen_shift32 x.toNat (by omega) (by omega), show (x / 4294967296).toNat = x.toNat / 4294967296 by omega]
  omega
theorem bitLen_16 (x : Int) (h : 65536 ≤ x) (hx : x ≤ 18446744073709551615) : (Lib.bitLen x.toNat : Int) = 16 + Lib.bitLen (x / 65536).toNat := by
  rw [Lib.bitLen_shift16 x.toNat (by omega) (by omega), show (x / 65536).toNat = x.toNat / 65536 by omega]
  omega
theorem bitLen_8 (x : Int) (h : 256 ≤ x) (hx : x ≤ 18446744073709551615) : (Lib.bitLen x.toNat : Int) = 8 + Lib.bitLen (x / 256).toNat := by
  rw [Lib.bitLen_shift8 x.toNat (by omega) (by omega), show (x / 256).toNat = x.toNat / 256 by omega]
  omega

set_option maxHeartbeats 1600000 in
set_option maxRecDepth 100000 in
theorem len64_all (x : Int) (w : World) (h0 : 0 ≤ x) (h1 : x ≤ 18446744073709551615) :
    Calls Tryd.prog 157 #[.int .u64 x] w fun e w' => e = .returned (.int .i64 (Lib.bitLen x.toNat)) ∧ w' = w := by
  have hsz := tab_size
  by_cases c1 : 4294967296 ≤ x
  · have e1 := bitLen_32 x c1 h1
    have E1 := hide e1
    clear e1
    have y0 : 0 ≤ x / 4294967296 := by omega
    have y1 : x / 4294967296 ≤ 4294967295 := by omega
    by_cases c2 : 65536 ≤ x / 4294967296
    · have E2 := hide (bitLen_16 _ c2 (by omega))
      by_cases c3 : 256 ≤ x / 4294967296 / 65536
      · have E3 := hide (bitLen_8 _ c3 (by omega))
        have k0 : 0 ≤ x / 4294967296 / 65536 / 256 := by omega
        have k1 : x / 4294967296 / 65536 / 256 < 256 := by omega
        go_enter Tryd.func157, Tryd.ntmps157
        go_wp2
        go_ret
        exact ⟨ret_int (by rw [bit_fin _ _ k0 (by omega) (by omega) (by omega), E1.out, E2.out, E3.out]; omega), rfl⟩
      · have k0 : 0 ≤ x / 4294967296 / 65536 := by omega
        have k1 : x / 4294967296 / 65536 < 256 := by omega
        go_enter Tryd.func157, Tryd.ntmps157
        go_wp2
        go_ret
        exact ⟨ret_int (by rw [bit_fin _ _ k0 (by omega) (by omega) (by omega), E1.out, E2.out]; omega), rfl⟩
    · by_cases c3 : 256 ≤ x / 4294967296
      · have E3 := hide (bitLen_8 _ c3 (by omega))
        have k0 : 0 ≤ x / 4294967296 / 256 := by omega
        have k1 : x / 4294967296 / 256 < 256 := by omega
        go_enter Tryd.func157, Tryd.ntmps157
        go_wp2
        go_ret
        exact ⟨ret_int (by rw [bit_fin _ _ k0 (by omega) (by omega) (by omega), E1.out, E3.out]; omega), rfl⟩
      · have k1 : x / 4294967296 < 256 := by omega
        go_enter Tryd.func157, Tryd.ntmps157
        go_wp2
        go_ret
        exact ⟨ret_int (by rw [bit_fin _ _ y0 (by omega) (by omega) (by omega), E1.out]), rfl⟩
  · by_cases c2 : 65536 ≤ x
    · have E2 := hide (bitLen_16 _ c2 (by omega))
      have y0 : 0 ≤ x / 65536 := by omega
      by_cases c3 : 256 ≤ x / 65536
      · have E3 := hide (bitLen_8 _ c3 (by omega))
        have k0 : 0 ≤ x / 65536 / 256 := by omega
        have k1 : x / 65536 / 256 < 256 := by omega
        go_enter Tryd.func157, Tryd.ntmps157
        go_wp2
        go_ret
        exact ⟨ret_int (by rw [bit_fin _ _ k0 (by omega) (by omega) (by omega), E2.out, E3.out]; omega), rfl⟩
      · have k1 : x / 65536 < 256 := by omega
        go_enter Tryd.func157, Tryd.ntmps157
        go_wp2
        go_ret
        exact ⟨ret_int (by rw [bit_fin _ _ y0 (by omega) (by omega) (by omega), E2.out]), rfl⟩
    · exact len64_any x w h0 (by omega)

set_option maxHeartbeats 400000 in
theorem len_all (x : Int) (w : World) (h0 : 0 ≤ x) (h1 : x ≤ 18446744073709551615) :
    Calls Tryd.prog 135 #[.int .u64 x] w fun e w' => e = .returned (.int .i64 (Lib.bitLen x.toNat)) ∧ w' = w := by
  go_enter Tryd.func135, Tryd.ntmps135
  go_wp2_with fail
  refine (len64_all x _ h0 h1).mono ?_
  rintro e w' ⟨rfl, hw⟩
  subst hw
  go_wp2
  go_ret
  exact ⟨rfl, rfl⟩

theorem bitLen_lt (x : Nat) (h : x < 2 ^ 64) : x < 2 ^ Lib.bitLen x := by
  have key : ∀ f x, x < 2 ^ f → f ≤ 64 → x < 2 ^ Lib.bitLen x := by
    intro f
    induction f with
    | zero => intro x hx _; have : x = 0 := by simpa using hx
              subst this; exact Nat.pow_pos (by omega)
    | succ f ih =>
      intro x hx hf
      by_cases h0 : x = 0
      · subst h0; exact Nat.pow_pos (by omega)
      · have hx64 : x < 2 ^ 64 := Nat.lt_of_lt_of_le hx (Nat.pow_le_pow_right (by omega) hf)
        rw [Lib.bitLen_half x h0 hx64]
        have := ih (x / 2) (by rw [Nat.pow_succ] at hx; omega) (by omega)
        rw [Nat.pow_add, Nat.pow_one]
        omega
  exact key 64 x h (Nat.le_refl _)

end Go.Proofs.YtdaneanloknkpabDoor
