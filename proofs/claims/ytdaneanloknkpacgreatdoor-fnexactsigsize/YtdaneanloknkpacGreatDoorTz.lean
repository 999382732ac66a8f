/- Walks: bits.TrailingZeros of a number that is not 0: how often 2 divides it. The library's table lies in its variable (Tab). -/
import Derived.Test.YtdaneanloknkpacGreatDoorChecked
import Derived.Test.YtdaneanloknkpacGreatDoorNumAll
import Derived.Shelf.Spec.TrailingZeros
namespace Go.Proofs.YtdaneanloknkpacGreatDoor
set_option linter.unusedVariables false
open Go.RowKit

/-- The library's table of 64 numbers lies in its variable. -/
def Tab (w : World) : Prop := ∀ j, j < 64 → w.cell? ⟨2, j, none⟩ = some (.int .u8 (Lib.deBruijn64tab.getD j 0))

theorem Tab.of_cells {w w' : World} (h : Tab w) (e : ∀ j, w'.cell? ⟨2, j, none⟩ = w.cell? ⟨2, j, none⟩) : Tab w' := fun j hj => (e j).trans (h j hj)

theorem Tab.drawn {w w' : World} (h : Tab w) (hq : Drawn w w') : Tab w' := by
  obtain ⟨q, rfl⟩ := hq
  exact h

set_option maxHeartbeats 1000000 in
theorem tz64_at (x k idx : Nat) (w : World) (hx0 : ((x : Int) == 0) = false)
    (key : IntKind.u64.wrap (bits .and .u64 (x : Int) (IntKind.u64.wrap (-(x : Int))) * 285870213051353865) / 288230376151711744 = (idx : Int))
    (hi : idx < 64) (hk : k < 64) (hcell : w.cell? ⟨2, idx, none⟩ = some (.int .u8 k)) :
    Calls Tryz.prog 321 #[.int .u64 (x : Int)] w fun e w' => e = .returned (.int .i64 (k : Int)) ∧ w' = w := by
  go_enter Tryz.func321, Tryz.ntmps321
  go_wp2_with (simp only [key])
  go_ret
  exact ⟨rfl, rfl⟩

theorem tz64_any (x : Nat) (w : World) (h0 : x ≠ 0) (hx : x < 18446744073709551616) (hT : Tab w) :
    Calls Tryz.prog 321 #[.int .u64 (x : Int)] w fun e w' => e = .returned (.int .i64 ((Lib.ctz 64 x : Nat) : Int)) ∧ w' = w := by
  obtain ⟨hlow, hk⟩ := Lib.lowest_bit 64 x h0 hx
  obtain ⟨hi, htab⟩ := Lib.deBruijn64_at _ hk
  have hcell := hT _ hi
  rw [htab] at hcell
  exact tz64_at x _ _ w (by simp; omega) (tz64_key x _ hx h0 hlow) hi hk hcell

set_option maxHeartbeats 400000 in
theorem tz_any (x : Nat) (w : World) (h0 : x ≠ 0) (hx : x < 18446744073709551616) (hT : Tab w) :
    Calls Tryz.prog 314 #[.int .u64 (x : Int)] w fun e w' => e = .returned (.int .i64 ((Lib.ctz 64 x : Nat) : Int)) ∧ w' = w := by
  have Hc := hide (tz64_any x w h0 hx hT)
  generalize Lib.ctz 64 x = k at *
  go_enter Tryz.func314, Tryz.ntmps314
  go_wp2_with fail
  refine Hc.out.mono ?_
  rintro e w' ⟨rfl, hw⟩
  obtain rfl := hw.symm
  clear Hc
  go_wp2
  go_ret
  exact ⟨rfl, rfl⟩

/-- How often 2 divides a number. -/
theorem ctz_spec (x : Nat) (h0 : x ≠ 0) (hx : x < 18446744073709551616) : ∃ m, x = 2 ^ Lib.ctz 64 x * (2 * m + 1) := by
  obtain ⟨m, hm, _⟩ := Lib.ctzFrom_spec 64 x (by omega) hx
  refine ⟨m, ?_⟩
  rw [Lib.ctz, if_neg h0]
  exact hm

end Go.Proofs.YtdaneanloknkpacGreatDoor
