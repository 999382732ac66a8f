/- Walks: bits.Len of a digit, and the program's digitsBits: how many bits a list of digits has. -/
import Derived.Test.YtdaneanloknkpabDoorChecked
import Derived.Test.YtdaneanloknkpabDoorBase
import Derived.Test.YtdaneanloknkpabDoorNum
import Derived.Lib.BitFns
import Derived.Lib.Tables
namespace Go.Proofs.YtdaneanloknkpabDoor
set_option linter.unusedVariables false
open Go.RowKit

set_option maxRecDepth 100000 in
theorem tab_size : (Lib.len8tab.size : Int) = 256 := by
  have : Lib.len8tab.size = 256 := by decide
  omega

theorem tab_get (y : Int) (h : y.toNat < Lib.len8tab.size) (h0 : 0 ≤ y) (h1 : y ≤ 255) : ((Lib.len8tab[y.toNat]'h).toNat : Int) = (Lib.bitLen y.toNat : Int) := by
  rw [← Lib.len8_of y h0 h1]
  unfold Lib.len8
  rw [getElem?_pos Lib.len8tab y.toNat h]
  rfl

theorem bit_low (x : Int) (h0 : 0 ≤ x) (h1 : x ≤ 255) (h : x.toNat < Lib.len8tab.size) : wrap64 (wrap64 ((Lib.len8tab[x.toNat]'h).toNat : Int)) = (Lib.bitLen x.toNat : Int) := by
  rw [tab_get x h h0 h1]
  have := Lib.bitLen_le8' x h0 h1
  unfold wrap64
  omega

theorem bit_high (x : Int) (h0 : 256 ≤ x) (h1 : x ≤ 65535) (h : (x / 256).toNat < Lib.len8tab.size) : wrap64 (8 + wrap64 ((Lib.len8tab[(x / 256).toNat]'h).toNat : Int)) = (Lib.bitLen x.toNat : Int) := by
  rw [tab_get (x / 256) h (by omega) (by omega)]
  have l := Lib.bitLen_le8' (x / 256) (by omega) (by omega)
  rw [Lib.bitLen_shift8 x.toNat (by omega) (by omega), show (x / 256).toNat = x.toNat / 256 by omega] at *
  unfold wrap64
  omega

set_option maxHeartbeats 400000 in
set_option maxRecDepth 100000 in
theorem len64_any (x : Int) (w : World) (h0 : 0 ≤ x) (h1 : x ≤ 65535) :
    Calls Tryd.prog 157 #[.int .u64 x] w fun e w' => e = .returned (.int .i64 (Lib.bitLen x.toNat)) ∧ w' = w := by
  have n1 : ¬ (4294967296 : Int) ≤ x := by omega
  have n2 : ¬ (65536 : Int) ≤ x := by omega
  have hsz := tab_size
  by_cases h : 256 ≤ x
  · have n3 : 0 ≤ x / 256 := by omega
    have n4 : x / 256 < 256 := by omega
    go_enter Tryd.func157, Tryd.ntmps157
    go_wp2
    go_ret
    exact ⟨ret_int (bit_high x h h1 (by omega)), rfl⟩
  · go_enter Tryd.func157, Tryd.ntmps157
    go_wp2
    go_ret
    exact ⟨ret_int (bit_low x h0 (by omega) (by omega)), rfl⟩

set_option maxHeartbeats 400000 in
theorem len_any (x : Int) (w : World) (h0 : 0 ≤ x) (h1 : x ≤ 65535) :
    Calls Tryd.prog 135 #[.int .u64 x] w fun e w' => e = .returned (.int .i64 (Lib.bitLen x.toNat)) ∧ w' = w := by
  go_enter Tryd.func135, Tryd.ntmps135
  go_wp2_with fail
  refine (len64_any x _ h0 h1).mono ?_
  rintro e w' ⟨rfl, hw⟩
  subst hw
  go_wp2
  go_ret
  exact ⟨rfl, rfl⟩

/-- How many bits n digits have. -/
def bitsOf (n : Nat) (f : Nat → Int) : Int := if n = 0 then 0 else 16 * ((n : Int) - 1) + Lib.bitLen (f (n - 1)).toNat

theorem bitLen_le16 (x : Int) (h0 : 0 ≤ x) (h1 : x ≤ 65535) : Lib.bitLen x.toNat ≤ 16 := by
  by_cases h : 256 ≤ x
  · rw [Lib.bitLen_shift8 x.toNat (by omega) (by omega)]
    have := Lib.bitLen_le8' (x / 256) (by omega) (by omega)
    rw [show (x / 256).toNat = x.toNat / 256 by omega] at this
    omega
  · have := Lib.bitLen_le8' x h0 (by omega)
    omega

set_option maxHeartbeats 400000 in
theorem digitsBits_any (a : Option Addr) (b off n cap : Nat) (f : Nat → Int) (w : World) (hs : Seg w a b off n f) (hn : n ≤ 1048576) (hd : n = 0 ∨ (0 ≤ f (n - 1) ∧ f (n - 1) ≤ 65535)) :
    Calls Tryd.prog 111 #[.slice a n cap] w fun e w' => e = .returned (.int .i64 (bitsOf n f)) ∧ w' = w := by
  by_cases h0 : n = 0
  · subst h0
    go_enter Tryd.func111, Tryd.ntmps111
    go_wp2
    go_ret
    exact ⟨rfl, rfl⟩
  · obtain ⟨m, rfl⟩ : ∃ m, n = m + 1 := ⟨n - 1, by omega⟩
    obtain rfl := hs.at' (by omega)
    have hc := hs.cell m (by omega)
    have hdm : 0 ≤ f m ∧ f m ≤ 65535 := by simpa using hd.resolve_left h0
    obtain ⟨d0, d1⟩ := hdm
    clear hd
    have hz : ((m : Int) + 1 == 0) = false := by simp; omega
    have Hfin : Hid (bitsOf (m + 1) f = 16 * (m : Int) + Lib.bitLen (f m).toNat) := by
      show bitsOf (m + 1) f = _
      simp [bitsOf]
    have hl := bitLen_le16 (f m) d0 d1
    go_enter Tryd.func111, Tryd.ntmps111
    go_wp2_with fail
    refine (len_any (f m) _ d0 d1).mono ?_
    rintro e w' ⟨rfl, hw⟩
    subst hw
    go_wp2
    go_ret
    exact ⟨ret_int (by rw [Hfin.out]), rfl⟩

end Go.Proofs.YtdaneanloknkpabDoor
