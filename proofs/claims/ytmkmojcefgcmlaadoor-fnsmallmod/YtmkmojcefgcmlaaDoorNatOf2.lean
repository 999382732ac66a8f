/- Walks: the program's NatOf: the digits of a number that is not below 0, in new memory. -/
import Derived.Test.YtmkmojcefgcmlaaDoorNatOf
import Derived.Test.YtmkmojcefgcmlaaDoorNoughts
import Derived.Test.YtmkmojcefgcmlaaDoorBits
import Derived.Test.YtmkmojcefgcmlaaDoorGives
namespace Go.Proofs.YtmkmojcefgcmlaaDoor
set_option linter.unusedVariables false
open Go.RowKit

set_option maxHeartbeats 400000 in
theorem implNatOf_no (x : Int) (w : World) (h : x < 0) :
    Calls Tryd.prog 7 #[.int .i64 x] w fun e w' => (∃ a cap, e = .returned (.tuple #[.slice a 0 cap, .bool false])) ∧ Below w.heap.size w w' := by
  go_enter Tryd.func7, Tryd.ntmps7
  go_wp2
  go_ret2
  exact ⟨⟨_, _, rfl⟩, (Below.refl _ _).alloc (Nat.le_refl _) _⟩

set_option maxHeartbeats 400000 in
theorem implNatOf_yes (x : Int) (w : World) (h0 : 0 ≤ x) (h1 : x ≤ 9223372036854775807) :
    Calls Tryd.prog 7 #[.int .i64 x] w fun e w' => GivesNat w x e w' := by
  have hmk : ∀ w, (Instr.makeSlice 27 (.int .i64 4) (.int .i64 4)).run Tryd.prog w = .ok (.slice (some ⟨w.heap.size, 0, none⟩) 4 4) (w.alloc (.cells (madeCells #[.int .i64 0] 4) 3)) :=
    run_make_row' (P := Tryd.prog) 27 3 (.int .i64 0) 8 Tryd.underlying27 Tryd.info3 rfl .i64 .i64 4 (by omega) (by omega)
  have hneg : decide (x < 0) = false := by simp; omega
  go_enter Tryd.func7, Tryd.ntmps7
  go_wp2
  clear hmk
  go_loopw [12] (fun i wr => ∃ k : Nat, k ≤ 4 ∧ i = .int .i64 k ∧ Copying w wr 4 k (dgt x)) (fun i _ => 4 - (intOf i).toNat)
  case atStart => exact ⟨0, Nat.zero_le _, rfl, copying_start w 4 _⟩
  case round =>
    obtain ⟨k, hk, rfl, hI⟩ := hrel
    by_cases hlt : k < 4
    · have hd : wr.cell? ⟨w.heap.size, k, none⟩ = some (.int .i64 0) := by simpa using hI.row.cell hlt
      have hf : wr.frozen? ⟨w.heap.size, k, none⟩ = false := hI.row.frozen k
      have hkn : (k : Int) < 4 := by omega
      go_wp2
      go_roundw
      case rel => exact ⟨k + 1, by omega, by go_num, copying_step' hI (by rw [and_top, pow_pw]; rfl)⟩
      case measure => simp [intOf]; omega
    · obtain rfl : k = 4 := by omega
      have hrow := hI.row.congr (g := fun j => .int .i64 (dgt x j)) (fun j hj => by rw [if_pos hj])
      have hb := hI.below
      clear hI
      go_wp2_with fail
      refine (withoutNoughts_any _ w.heap.size 0 4 _ (dgt x) _ (Seg.of_row hrow (Nat.le_refl _)) (by omega) (by omega) (by omega)).mono ?_
      rintro e w2 ⟨m, rfl, hm, hz, hl, hw⟩
      subst hw
      go_wp2
      go_ret2
      have h4 : pw 4 = 18446744073709551616 := by simp [pw]
      have hv := val_dgt x 4
      rw [div_small h0 (by omega)] at hv
      exact ⟨_, w.heap.size, m, m, dgt x, rfl, by omega, ⟨fun i _ => dgt_bd x i, hl⟩, by rw [val_noughts hm hz]; omega, Nat.le_refl _, Own.of_row hrow hm, hb⟩

/-- NatOf's answer: nothing below 0, else the number. -/
def ofQ (x : Int) : Option Int := if x < 0 then none else some x

theorem implNatOf_any (x : Int) (w : World) (h1 : x ≤ 9223372036854775807) : Calls Tryd.prog 7 #[.int .i64 x] w fun e w' => GivesQ w (ofQ x) e w' := by
  by_cases h : x < 0
  · refine (implNatOf_no x w h).mono ?_
    rintro e w' ⟨⟨a, cap, rfl⟩, hb⟩
    exact GivesQ.none (by simp [ofQ, h]) rfl hb
  · refine (implNatOf_yes x w (by omega) h1).mono ?_
    rintro e w' ⟨a, g, cap, n, f, rfl, hn, hc, hv, hg, hO, hb⟩
    exact ⟨a, g, cap, n, f, true, rfl, by omega, by simp [ofQ, h, IsNat, hc, hv], hg, hO, hb⟩

end Go.Proofs.YtmkmojcefgcmlaaDoor
