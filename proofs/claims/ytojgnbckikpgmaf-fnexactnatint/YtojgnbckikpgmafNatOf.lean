/- Walks: the model's NatOf and the program's: the digits of a number that is not below 0, in new memory. -/
import Derived.Test.YtojgnbckikpgmafChecked
import Derived.Test.YtojgnbckikpgmafBase
import Derived.Test.YtojgnbckikpgmafNum
import Derived.Test.YtojgnbckikpgmafLists
import Derived.OwnWalk
import Derived.Maps.AppendAt
namespace Go.Proofs.Ytojgnbckikpgmaf
set_option linter.unusedVariables false
open Go.RowKit

set_option maxHeartbeats 400000 in
theorem specNatOf_no (x : Int) (w : World) (h : x < 0) :
    Calls Try.prog 10 #[.int .i64 x] w fun e w' => (∃ a cap, e = .returned (.tuple #[.slice a 0 cap, .bool false])) ∧ Below w.heap.size w w' := by
  go_enter Try.func10, Try.ntmps10
  go_wp2
  go_ret2
  exact ⟨⟨_, _, rfl⟩, (Below.refl _ _).alloc (Nat.le_refl _) _⟩

theorem few {x : Int} {k : Nat} (h1 : x ≤ 9223372036854775807) (h : 0 < x / pw k) : k < 4 := by
  by_cases hk : k < 4
  · exact hk
  · have hp := pw_le (show 4 ≤ k by omega)
    have h4 : pw 4 = 18446744073709551616 := by simp [pw]
    by_cases hx : 0 ≤ x
    · rw [div_small hx (by omega)] at h; omega
    · have := Int.ediv_neg_of_neg_of_pos (show x < 0 by omega) (pw_pos k)
      omega

/-- What the model's NatOf has done behind k rounds. -/
structure Ofing (x : Int) (w wr : World) (v : Value) (k : Nat) : Prop where
  small : k ≤ 4
  own : wr.ownsRow w.heap.size 3 1 v k (ints (dgt x) k)
  below : Below w.heap.size w wr
  ran : k = 0 ∨ 0 < x / pw (k - 1)

theorem ofing_step {x : Int} {w wr w1 : World} {v v' : Value} {k : Nat} {o : Obj} (h : Ofing x w wr v k) (h1 : x ≤ 9223372036854775807) (hp : 0 < x / pw k)
    (hown : w1.ownsRow w.heap.size 3 1 v' (k + 1) (ints (dgt x) k ++ [.int .i64 (dgt x k)])) (hg : (wr.alloc o).grownBy w1 v.ownBlock) : Ofing x w w1 v' (k + 1) :=
  ⟨few h1 hp, by rw [ints_succ]; exact hown, (h.below.alloc h.below.size _).grown hg (by have := h.below.size; simp; omega) (fun j hj => (h.own.lt j hj).1), .inr (by simpa using hp)⟩

/-- The call hands back a natural of value x in new memory, and true. -/
def GivesNat (w : World) (x : Int) (e : Ending) (w' : World) : Prop :=
  ∃ a g cap n f, e = .returned (.tuple #[.slice a n cap, .bool true]) ∧ n ≤ 64 ∧ Canon n f ∧ val f n = x ∧ w.heap.size ≤ g ∧ Own w' a g 0 n f ∧ Below w.heap.size w w'

set_option maxHeartbeats 400000 in
theorem specNatOf_yes (x : Int) (w : World) (h0 : 0 ≤ x) (h1 : x ≤ 9223372036854775807) :
    Calls Try.prog 10 #[.int .i64 x] w fun e w' => GivesNat w x e w' := by
  obtain ⟨i0, hi, hz0, hz1, hz2⟩ := info_parts Try.info3
  have hneg : decide (x < 0) = false := by simp; omega
  go_enter Try.func10, Try.ntmps10
  go_wp2
  go_loopw [0, 4] (fun t v wr => ∃ k : Nat, t = .int .i64 (x / pw k) ∧ Ofing x w wr v k) (fun t _ _ => (intOf t).toNat)
  case atStart => exact ⟨0, by simp [pw], by omega, World.ownsRow_made w #[] 0 (Nat.le_refl _) (by simp) rfl, (Below.refl _ _).alloc (Nat.le_refl _) _, .inl rfl⟩
  case round =>
    obtain ⟨k, rfl, hO⟩ := hrel
    have hq0 := div_nonneg k h0
    have hq1 : x / pw k ≤ x := Int.ediv_le_self _ h0
    have hds : x / pw k / 65536 = x / pw (k + 1) := div_step k
    have Hds : Hid (x / pw k / 65536 = x / pw (k + 1)) := hds
    have hdd : x / pw k % 65536 = dgt x k := rfl
    have Hdd : Hid (x / pw k % 65536 = dgt x k) := hdd
    clear hds hdd
    by_cases hp : 0 < x / pw k
    · have hk4 := few h1 hp
      generalize hq : x / pw k = q at *
      have Hq : Hid (x / pw k = q) := hq
      clear hq
      go_wp2_with (at_builtin; refine wpList_append_own _ rfl _ _ 22 rfl w.heap.size 3 i0 (.int .i64 0) 1 8 Try.underlying22 hi hz0 hz1 hz2 rfl (by decide) _ _ _ rfl (hO.own.alloc _) ⟨wr.heap.size, 0, none⟩ 1 1 [.int .i64 (q % 65536)] rfl rfl (cell_one_new _ _ _) ?c2 ?c3 ?c4 ?c5 ?_)
      case c2 => intro u hu; simp at hu; subst hu; rfl
      case c3 => unfold maxLen; omega
      case c4 => omega
      case c5 => have := hO.below.size; simp; omega
      intro v' w1 hown' hgrow _
      rw [Hdd.out] at hown'
      have hN := ofing_step hO h1 (by rw [Hq.out]; exact hp) hown' hgrow
      clear hown' hgrow hO
      go_wp2
      go_roundw
      case rel => exact ⟨k + 1, by rw [← Hds.out], hN⟩
      case measure => simp [intOf]; omega
    · have hz : x / pw k = 0 := by omega
      obtain ⟨a, g, cap, hv, hg, hO2⟩ := own_of_owns hO.own
      have hc := canon_dgt hz hO.ran
      have hb := hO.below
      have hs := hO.small
      rw [hv]
      clear hO hv Hds Hdd hz
      go_wp2
      go_ret2
      exact ⟨a, g, cap, k, dgt x, rfl, by omega, hc.1, hc.2, hg, hO2, hb⟩
end Go.Proofs.Ytojgnbckikpgmaf
