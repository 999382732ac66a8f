/- Walks: the model's EdOk. Pairs compared. Walks: the model's EdOk, its end. Walks: the model's PairOk, EdAdd, EdMul, EdCofactor. What the model answers over twisted curves: EdOk, PairOk, EdAdd, EdMul, EdCofactor. -/
import Derived.Test.YtdaneanloknkpacGreatDoorEdU
import Derived.Test.YtdaneanloknkpacGreatDoorEdB
import Derived.Test.YtdaneanloknkpacGreatDoorNumAll
import Derived.Test.YtdaneanloknkpacGreatDoorCurveJ
import Derived.Test.YtdaneanloknkpacGreatDoorEdS
namespace Go.Proofs.YtdaneanloknkpacGreatDoor
set_option linter.unusedVariables false
open Go.RowKit

theorem l1In_ext (x a b : Int) (ok : Bool) (w : World) (h : (decide (a ≤ x) && decide (x ≤ b)) = ok) : Calls Tryz.prog 84 #[.int .i64 x, .int .i64 a, .int .i64 b] w fun e w' => e = .returned (.bool ok) ∧ Ext w w' :=
  (l1In_int x a b w).mono fun r w' k => ⟨by rw [k.1, h], k.2 ▸ Ext.refl _⟩

theorem prime_ext (n : Int) (ok : Bool) (w : World) (h1 : n ≤ 9223372036854775807) (h : ok = true ↔ 2 ≤ n ∧ n ≤ 1099511627776 ∧ Prime n.toNat) : Calls Tryz.prog 202 #[.int .i64 n] w fun e w' => e = .returned (.bool ok) ∧ Ext w w' :=
  (specPrimeInt_any n w h1).mono fun r w' k => by
    obtain ⟨⟨b, rfl, hb⟩, rfl⟩ := k
    exact ⟨by rw [show b = ok by rw [Bool.eq_iff_iff, hb, h]], Ext.refl _⟩

theorem l2Pow_ext (a e m : Nat) (w : World) (ha : a ≤ 9223372036854775807) (he : e ≤ 9223372036854775807) (hm0 : 0 < m) (hm : m ≤ 1073741824) :
    Calls Tryz.prog 151 #[.int .i64 a, .int .i64 e, .int .i64 m] w fun r w' => r = .returned (.int .i64 ((a ^ e % m : Nat) : Int)) ∧ Ext w w' :=
  (l2Pow_any a e m w ha he hm0 hm).mono fun r w' k => ⟨k.1, k.2.below _⟩

set_option maxHeartbeats 3200000 in
set_option maxRecDepth 100000 in
theorem specEdOk_no0 (P D L bx b' : Int) (hp : P ≤ 9223372036854775807) (hL : L ≤ 9223372036854775807)  (c0 : ¬ (13 ≤ P ∧ P ≤ 1048576)) (w : World) :
    Calls Tryz.prog 146 #[.agg #[.int .i64 P, .int .i64 D, .int .i64 L, .int .i64 bx, .int .i64 b']] w fun r w' => r = .returned (.bool false) ∧ Ext w w' := by
  have H0 : Hid (∀ w : World, Calls Tryz.prog 84 #[.int .i64 P, .int .i64 13, .int .i64 1048576] w fun e w' => e = .returned (.bool false) ∧ Ext w w') := fun w => l1In_ext _ _ _ _ w (by simp; omega)
  go_enter Tryz.func146, Tryz.ntmps146
  go_wp2
  have B1 := Blk.alloc w [.int .i64 P, .int .i64 D, .int .i64 L, .int .i64 bx, .int .i64 b'] 37
  have k0 := cell_regrown (B1 0 _ rfl).1
  have k1 := cell_regrown (B1 1 _ rfl).1
  have k2 := cell_regrown (B1 2 _ rfl).1
  have k3 := cell_regrown (B1 3 _ rfl).1
  have k4 := cell_regrown (B1 4 _ rfl).1
  clear B1
  refine wp_region_quiet_below (by kernel_rfl) (by kernel_rfl) ?_
  repeat (first | go_big_quiet_step (first | (go_at_call 84; exact Calls.regrown_of (H0.out _))) | quiet_step (first | (go_at_call 84; exact Calls.regrown_of (H0.out _))))
  refine wpQuiet_nil ?_
  intro _ hw'
  obtain ⟨⟨dq, osq⟩, hw''⟩ := hw'
  subst hw''
  clear k0 k1 k2 k3 k4
  go_wp2
  go_ret
  exact ⟨rfl, below_re (Ext.alloc _ _) (by simp <;> omega) _ _⟩

set_option maxHeartbeats 3200000 in
set_option maxRecDepth 100000 in
theorem specEdOk_no1 (p : Nat) (D L bx b' : Int) (hp : (p : Int) ≤ 9223372036854775807) (h0 : 0 ≤ (p : Int)) (hL : L ≤ 9223372036854775807) (c0 : 13 ≤ (p : Int) ∧ (p : Int) ≤ 1048576) (c1 : ¬ ((p : Int) % 8 = 5)) (w : World) :
    Calls Tryz.prog 146 #[.agg #[.int .i64 (p : Int), .int .i64 D, .int .i64 L, .int .i64 bx, .int .i64 b']] w fun r w' => r = .returned (.bool false) ∧ Ext w w' := by
  have H0 : Hid (∀ w : World, Calls Tryz.prog 84 #[.int .i64 (p : Int), .int .i64 13, .int .i64 1048576] w fun e w' => e = .returned (.bool true) ∧ Ext w w') := fun w => l1In_ext _ _ _ _ w (by simp; omega)
  obtain ⟨r8, hr8⟩ : ∃ r8, r8 = (p : Int) % 8 := ⟨_, rfl⟩
  have ht8 : Int.tmod (p : Int) 8 = r8 := by rw [Int.tmod_eq_emod_of_nonneg (by omega)]; exact hr8.symm
  have ht9 : (p : Int) % 8 = r8 := hr8.symm
  have hw8 : IntKind.i64.wrap r8 = r8 := by rw [IntKind.wrap_i64]; omega
  have hw9 : wrap64 r8 = r8 := by unfold wrap64; omega
  have hb : (r8 != 5) = true := by simp; omega
  clear hr8
  go_enter Tryz.func146, Tryz.ntmps146
  go_wp2
  have B1 := Blk.alloc w [.int .i64 (p : Int), .int .i64 D, .int .i64 L, .int .i64 bx, .int .i64 b'] 37
  have k0 := cell_regrown (B1 0 _ rfl).1
  have k1 := cell_regrown (B1 1 _ rfl).1
  have k2 := cell_regrown (B1 2 _ rfl).1
  have k3 := cell_regrown (B1 3 _ rfl).1
  have k4 := cell_regrown (B1 4 _ rfl).1
  clear B1
  refine wp_region_quiet_below (by kernel_rfl) (by kernel_rfl) ?_
  repeat (first | go_big_quiet_step (first | (go_at_call 84; exact Calls.regrown_of (H0.out _))) | quiet_step (first | (go_at_call 84; exact Calls.regrown_of (H0.out _))))
  refine wpQuiet_nil ?_
  intro _ hw'
  obtain ⟨⟨dq, osq⟩, hw''⟩ := hw'
  subst hw''
  clear k0 k1 k2 k3 k4
  go_wp2
  go_ret
  exact ⟨rfl, below_re (Ext.alloc _ _) (by simp <;> omega) _ _⟩

set_option maxHeartbeats 3200000 in
set_option maxRecDepth 100000 in
theorem specEdOk_no2 (p : Nat) (D L bx b' : Int) (hp : (p : Int) ≤ 9223372036854775807) (h0 : 0 ≤ (p : Int)) (hL : L ≤ 9223372036854775807) (c0 : 13 ≤ (p : Int) ∧ (p : Int) ≤ 1048576) (c1 : (p : Int) % 8 = 5) (c2 : ¬ (Prime p)) (w : World) :
    Calls Tryz.prog 146 #[.agg #[.int .i64 (p : Int), .int .i64 D, .int .i64 L, .int .i64 bx, .int .i64 b']] w fun r w' => r = .returned (.bool false) ∧ Ext w w' := by
  have H0 : Hid (∀ w : World, Calls Tryz.prog 84 #[.int .i64 (p : Int), .int .i64 13, .int .i64 1048576] w fun e w' => e = .returned (.bool true) ∧ Ext w w') := fun w => l1In_ext _ _ _ _ w (by simp; omega)
  obtain ⟨r8, hr8⟩ : ∃ r8, r8 = (p : Int) % 8 := ⟨_, rfl⟩
  have ht8 : Int.tmod (p : Int) 8 = r8 := by rw [Int.tmod_eq_emod_of_nonneg (by omega)]; exact hr8.symm
  have ht9 : (p : Int) % 8 = r8 := hr8.symm
  have hw8 : IntKind.i64.wrap r8 = r8 := by rw [IntKind.wrap_i64]; omega
  have hw9 : wrap64 r8 = r8 := by unfold wrap64; omega
  have hb : (r8 != 5) = false := by simp; omega
  clear hr8
  have H2 : Hid (∀ w : World, Calls Tryz.prog 202 #[.int .i64 (p : Int)] w fun e w' => e = .returned (.bool false) ∧ Ext w w') := fun w => prime_ext _ _ w (by omega) (by rw [Int.toNat_natCast]; exact ⟨fun k => by simp at k, fun k => absurd k.2.2 c2⟩)
  go_enter Tryz.func146, Tryz.ntmps146
  go_wp2
  have B1 := Blk.alloc w [.int .i64 (p : Int), .int .i64 D, .int .i64 L, .int .i64 bx, .int .i64 b'] 37
  have k0 := cell_regrown (B1 0 _ rfl).1
  have k1 := cell_regrown (B1 1 _ rfl).1
  have k2 := cell_regrown (B1 2 _ rfl).1
  have k3 := cell_regrown (B1 3 _ rfl).1
  have k4 := cell_regrown (B1 4 _ rfl).1
  clear B1
  refine wp_region_quiet_below (by kernel_rfl) (by kernel_rfl) ?_
  repeat (first | go_big_quiet_step (first | (go_at_call 84; exact Calls.regrown_of (H0.out _)) | (go_at_call 202; exact Calls.regrown_of (H2.out _))) | quiet_step (first | (go_at_call 84; exact Calls.regrown_of (H0.out _)) | (go_at_call 202; exact Calls.regrown_of (H2.out _))))
  refine wpQuiet_nil ?_
  intro _ hw'
  obtain ⟨⟨dq, osq⟩, hw''⟩ := hw'
  subst hw''
  clear k0 k1 k2 k3 k4
  go_wp2
  go_ret
  exact ⟨rfl, below_re (Ext.alloc _ _) (by simp <;> omega) _ _⟩

set_option maxHeartbeats 3200000 in
set_option maxRecDepth 100000 in
theorem specEdOk_no3 (p : Nat) (D L bx b' : Int) (hp : (p : Int) ≤ 9223372036854775807) (h0 : 0 ≤ (p : Int)) (hL : L ≤ 9223372036854775807) (c0 : 13 ≤ (p : Int) ∧ (p : Int) ≤ 1048576) (c1 : (p : Int) % 8 = 5) (c2 : Prime p) (c3 : ¬ (2 ≤ D ∧ D ≤ (p : Int) - 1)) (w : World) :
    Calls Tryz.prog 146 #[.agg #[.int .i64 (p : Int), .int .i64 D, .int .i64 L, .int .i64 bx, .int .i64 b']] w fun r w' => r = .returned (.bool false) ∧ Ext w w' := by
  have H0 : Hid (∀ w : World, Calls Tryz.prog 84 #[.int .i64 (p : Int), .int .i64 13, .int .i64 1048576] w fun e w' => e = .returned (.bool true) ∧ Ext w w') := fun w => l1In_ext _ _ _ _ w (by simp; omega)
  obtain ⟨r8, hr8⟩ : ∃ r8, r8 = (p : Int) % 8 := ⟨_, rfl⟩
  have ht8 : Int.tmod (p : Int) 8 = r8 := by rw [Int.tmod_eq_emod_of_nonneg (by omega)]; exact hr8.symm
  have ht9 : (p : Int) % 8 = r8 := hr8.symm
  have hw8 : IntKind.i64.wrap r8 = r8 := by rw [IntKind.wrap_i64]; omega
  have hw9 : wrap64 r8 = r8 := by unfold wrap64; omega
  have hb : (r8 != 5) = false := by simp; omega
  clear hr8
  have H2 : Hid (∀ w : World, Calls Tryz.prog 202 #[.int .i64 (p : Int)] w fun e w' => e = .returned (.bool true) ∧ Ext w w') := fun w => prime_ext _ _ w (by omega) (by rw [Int.toNat_natCast]; exact ⟨fun _ => ⟨by omega, by omega, c2⟩, fun _ => rfl⟩)
  have H3 : Hid (∀ w : World, Calls Tryz.prog 84 #[.int .i64 D, .int .i64 2, .int .i64 ((p : Int) - 1)] w fun e w' => e = .returned (.bool false) ∧ Ext w w') := fun w => l1In_ext _ _ _ _ w (by simp; omega)
  have hz0 : IntKind.i64.wrap ((p : Int) - 1) = (p : Int) - 1 := by rw [IntKind.wrap_i64]; omega
  have hz1 : wrap64 ((p : Int) - 1) = (p : Int) - 1 := by unfold wrap64; omega
  go_enter Tryz.func146, Tryz.ntmps146
  go_wp2
  have B1 := Blk.alloc w [.int .i64 (p : Int), .int .i64 D, .int .i64 L, .int .i64 bx, .int .i64 b'] 37
  have k0 := cell_regrown (B1 0 _ rfl).1
  have k1 := cell_regrown (B1 1 _ rfl).1
  have k2 := cell_regrown (B1 2 _ rfl).1
  have k3 := cell_regrown (B1 3 _ rfl).1
  have k4 := cell_regrown (B1 4 _ rfl).1
  clear B1
  refine wp_region_quiet_below (by kernel_rfl) (by kernel_rfl) ?_
  repeat (first | go_big_quiet_step (first | (go_at_call_of 84 (D); exact Calls.regrown_of (H3.out _)) | (go_at_call 84; exact Calls.regrown_of (H0.out _)) | (go_at_call 202; exact Calls.regrown_of (H2.out _))) | quiet_step (first | (go_at_call_of 84 (D); exact Calls.regrown_of (H3.out _)) | (go_at_call 84; exact Calls.regrown_of (H0.out _)) | (go_at_call 202; exact Calls.regrown_of (H2.out _))))
  refine wpQuiet_nil ?_
  intro _ hw'
  obtain ⟨⟨dq, osq⟩, hw''⟩ := hw'
  subst hw''
  clear k0 k1 k2 k3 k4
  go_wp2
  go_ret
  exact ⟨rfl, below_re (Ext.alloc _ _) (by simp <;> omega) _ _⟩

set_option maxHeartbeats 3200000 in
set_option maxRecDepth 100000 in
theorem specEdOk_no4 (p : Nat) (D L bx b' : Int) (hp : (p : Int) ≤ 9223372036854775807) (h0 : 0 ≤ (p : Int)) (hL : L ≤ 9223372036854775807) (c0 : 13 ≤ (p : Int) ∧ (p : Int) ≤ 1048576) (c1 : (p : Int) % 8 = 5) (c2 : Prime p) (c3 : 2 ≤ D ∧ D ≤ (p : Int) - 1) (c4 : ¬ (D.toNat ^ ((p - 1) / 2) % p = p - 1)) (w : World) :
    Calls Tryz.prog 146 #[.agg #[.int .i64 (p : Int), .int .i64 D, .int .i64 L, .int .i64 bx, .int .i64 b']] w fun r w' => r = .returned (.bool false) ∧ Ext w w' := by
  have H0 : Hid (∀ w : World, Calls Tryz.prog 84 #[.int .i64 (p : Int), .int .i64 13, .int .i64 1048576] w fun e w' => e = .returned (.bool true) ∧ Ext w w') := fun w => l1In_ext _ _ _ _ w (by simp; omega)
  obtain ⟨r8, hr8⟩ : ∃ r8, r8 = (p : Int) % 8 := ⟨_, rfl⟩
  have ht8 : Int.tmod (p : Int) 8 = r8 := by rw [Int.tmod_eq_emod_of_nonneg (by omega)]; exact hr8.symm
  have ht9 : (p : Int) % 8 = r8 := hr8.symm
  have hw8 : IntKind.i64.wrap r8 = r8 := by rw [IntKind.wrap_i64]; omega
  have hw9 : wrap64 r8 = r8 := by unfold wrap64; omega
  have hb : (r8 != 5) = false := by simp; omega
  clear hr8
  have H2 : Hid (∀ w : World, Calls Tryz.prog 202 #[.int .i64 (p : Int)] w fun e w' => e = .returned (.bool true) ∧ Ext w w') := fun w => prime_ext _ _ w (by omega) (by rw [Int.toNat_natCast]; exact ⟨fun _ => ⟨by omega, by omega, c2⟩, fun _ => rfl⟩)
  have H3 : Hid (∀ w : World, Calls Tryz.prog 84 #[.int .i64 D, .int .i64 2, .int .i64 ((p : Int) - 1)] w fun e w' => e = .returned (.bool true) ∧ Ext w w') := fun w => l1In_ext _ _ _ _ w (by simp; omega)
  obtain ⟨d, rfl⟩ := Int.eq_ofNat_of_zero_le (show 0 ≤ D by omega)
  rw [Int.toNat_natCast] at c4
  obtain ⟨x, he⟩ : ∃ x : Nat, x = (p - 1) / 2 := ⟨_, rfl⟩
  rw [← he] at c4
  have H4 : Hid (∀ w : World, Calls Tryz.prog 151 #[.int .i64 (d : Int), .int .i64 (x : Int), .int .i64 (p : Int)] w fun e w' => e = .returned (.int .i64 ((d ^ x % p : Nat) : Int)) ∧ Ext w w') := fun w => l2Pow_ext d x p w (by omega) (by omega) (by omega) (by omega)
  have hq : Int.tdiv ((p : Int) - 1) 2 = (x : Int) := by rw [Int.tdiv_eq_ediv_of_nonneg (by omega)]; omega
  have hq2 : ((p : Int) - 1) / 2 = (x : Int) := by omega
  obtain ⟨g, hg⟩ : ∃ g : Nat, g = d ^ x % p := ⟨_, rfl⟩
  rw [← hg] at H4 c4
  have hn : (((g : Nat) : Int) != (p : Int) - 1) = true := by simp; omega
  have hz0 : IntKind.i64.wrap ((p : Int) - 1) = (p : Int) - 1 := by rw [IntKind.wrap_i64]; omega
  have hz1 : wrap64 ((p : Int) - 1) = (p : Int) - 1 := by unfold wrap64; omega
  have hz2 : IntKind.i64.wrap (x : Int) = (x : Int) := by rw [IntKind.wrap_i64]; omega
  have hz3 : wrap64 (x : Int) = (x : Int) := by unfold wrap64; omega
  clear he hg c4
  go_enter Tryz.func146, Tryz.ntmps146
  go_wp2
  have B1 := Blk.alloc w [.int .i64 (p : Int), .int .i64 (d : Int), .int .i64 L, .int .i64 bx, .int .i64 b'] 37
  have k0 := cell_regrown (B1 0 _ rfl).1
  have k1 := cell_regrown (B1 1 _ rfl).1
  have k2 := cell_regrown (B1 2 _ rfl).1
  have k3 := cell_regrown (B1 3 _ rfl).1
  have k4 := cell_regrown (B1 4 _ rfl).1
  clear B1
  refine wp_region_quiet_below (by kernel_rfl) (by kernel_rfl) ?_
  repeat (first | go_big_quiet_step (first | (go_at_call_of 84 (d); exact Calls.regrown_of (H3.out _)) | (go_at_call 84; exact Calls.regrown_of (H0.out _)) | (go_at_call 202; exact Calls.regrown_of (H2.out _)) | (go_at_call 151; exact Calls.regrown_of (H4.out _))) | quiet_step (first | (go_at_call_of 84 (d); exact Calls.regrown_of (H3.out _)) | (go_at_call 84; exact Calls.regrown_of (H0.out _)) | (go_at_call 202; exact Calls.regrown_of (H2.out _)) | (go_at_call 151; exact Calls.regrown_of (H4.out _))))
  refine wpQuiet_nil ?_
  intro _ hw'
  obtain ⟨⟨dq, osq⟩, hw''⟩ := hw'
  subst hw''
  clear k0 k1 k2 k3 k4
  go_wp2
  go_ret
  exact ⟨rfl, below_re (Ext.alloc _ _) (by simp <;> omega) _ _⟩

set_option maxHeartbeats 3200000 in
set_option maxRecDepth 100000 in
theorem specEdOk_no5 (p : Nat) (D L bx b' : Int) (hp : (p : Int) ≤ 9223372036854775807) (h0 : 0 ≤ (p : Int)) (hL : L ≤ 9223372036854775807) (c0 : 13 ≤ (p : Int) ∧ (p : Int) ≤ 1048576) (c1 : (p : Int) % 8 = 5) (c2 : Prime p) (c3 : 2 ≤ D ∧ D ≤ (p : Int) - 1) (c4 : D.toNat ^ ((p - 1) / 2) % p = p - 1) (c5 : ¬ (5 ≤ L ∧ L ≤ 2097152)) (w : World) :
    Calls Tryz.prog 146 #[.agg #[.int .i64 (p : Int), .int .i64 D, .int .i64 L, .int .i64 bx, .int .i64 b']] w fun r w' => r = .returned (.bool false) ∧ Ext w w' := by
  have H0 : Hid (∀ w : World, Calls Tryz.prog 84 #[.int .i64 (p : Int), .int .i64 13, .int .i64 1048576] w fun e w' => e = .returned (.bool true) ∧ Ext w w') := fun w => l1In_ext _ _ _ _ w (by simp; omega)
  obtain ⟨r8, hr8⟩ : ∃ r8, r8 = (p : Int) % 8 := ⟨_, rfl⟩
  have ht8 : Int.tmod (p : Int) 8 = r8 := by rw [Int.tmod_eq_emod_of_nonneg (by omega)]; exact hr8.symm
  have ht9 : (p : Int) % 8 = r8 := hr8.symm
  have hw8 : IntKind.i64.wrap r8 = r8 := by rw [IntKind.wrap_i64]; omega
  have hw9 : wrap64 r8 = r8 := by unfold wrap64; omega
  have hb : (r8 != 5) = false := by simp; omega
  clear hr8
  have H2 : Hid (∀ w : World, Calls Tryz.prog 202 #[.int .i64 (p : Int)] w fun e w' => e = .returned (.bool true) ∧ Ext w w') := fun w => prime_ext _ _ w (by omega) (by rw [Int.toNat_natCast]; exact ⟨fun _ => ⟨by omega, by omega, c2⟩, fun _ => rfl⟩)
  have H3 : Hid (∀ w : World, Calls Tryz.prog 84 #[.int .i64 D, .int .i64 2, .int .i64 ((p : Int) - 1)] w fun e w' => e = .returned (.bool true) ∧ Ext w w') := fun w => l1In_ext _ _ _ _ w (by simp; omega)
  obtain ⟨d, rfl⟩ := Int.eq_ofNat_of_zero_le (show 0 ≤ D by omega)
  rw [Int.toNat_natCast] at c4
  obtain ⟨x, he⟩ : ∃ x : Nat, x = (p - 1) / 2 := ⟨_, rfl⟩
  rw [← he] at c4
  have H4 : Hid (∀ w : World, Calls Tryz.prog 151 #[.int .i64 (d : Int), .int .i64 (x : Int), .int .i64 (p : Int)] w fun e w' => e = .returned (.int .i64 ((d ^ x % p : Nat) : Int)) ∧ Ext w w') := fun w => l2Pow_ext d x p w (by omega) (by omega) (by omega) (by omega)
  have hq : Int.tdiv ((p : Int) - 1) 2 = (x : Int) := by rw [Int.tdiv_eq_ediv_of_nonneg (by omega)]; omega
  have hq2 : ((p : Int) - 1) / 2 = (x : Int) := by omega
  obtain ⟨g, hg⟩ : ∃ g : Nat, g = d ^ x % p := ⟨_, rfl⟩
  rw [← hg] at H4 c4
  have hn : (((g : Nat) : Int) != (p : Int) - 1) = false := by simp; omega
  have hz0 : IntKind.i64.wrap ((p : Int) - 1) = (p : Int) - 1 := by rw [IntKind.wrap_i64]; omega
  have hz1 : wrap64 ((p : Int) - 1) = (p : Int) - 1 := by unfold wrap64; omega
  have hz2 : IntKind.i64.wrap (x : Int) = (x : Int) := by rw [IntKind.wrap_i64]; omega
  have hz3 : wrap64 (x : Int) = (x : Int) := by unfold wrap64; omega
  clear he hg c4
  have H5 : Hid (∀ w : World, Calls Tryz.prog 84 #[.int .i64 L, .int .i64 5, .int .i64 2097152] w fun e w' => e = .returned (.bool false) ∧ Ext w w') := fun w => l1In_ext _ _ _ _ w (by simp; omega)
  go_enter Tryz.func146, Tryz.ntmps146
  go_wp2
  have B1 := Blk.alloc w [.int .i64 (p : Int), .int .i64 (d : Int), .int .i64 L, .int .i64 bx, .int .i64 b'] 37
  have k0 := cell_regrown (B1 0 _ rfl).1
  have k1 := cell_regrown (B1 1 _ rfl).1
  have k2 := cell_regrown (B1 2 _ rfl).1
  have k3 := cell_regrown (B1 3 _ rfl).1
  have k4 := cell_regrown (B1 4 _ rfl).1
  clear B1
  refine wp_region_quiet_below (by kernel_rfl) (by kernel_rfl) ?_
  repeat (first | go_big_quiet_step (first | (go_at_call_of 84 (L); exact Calls.regrown_of (H5.out _)) | (go_at_call_of 84 (d); exact Calls.regrown_of (H3.out _)) | (go_at_call 84; exact Calls.regrown_of (H0.out _)) | (go_at_call 202; exact Calls.regrown_of (H2.out _)) | (go_at_call 151; exact Calls.regrown_of (H4.out _))) | quiet_step (first | (go_at_call_of 84 (L); exact Calls.regrown_of (H5.out _)) | (go_at_call_of 84 (d); exact Calls.regrown_of (H3.out _)) | (go_at_call 84; exact Calls.regrown_of (H0.out _)) | (go_at_call 202; exact Calls.regrown_of (H2.out _)) | (go_at_call 151; exact Calls.regrown_of (H4.out _))))
  refine wpQuiet_nil ?_
  intro _ hw'
  obtain ⟨⟨dq, osq⟩, hw''⟩ := hw'
  subst hw''
  clear k0 k1 k2 k3 k4
  go_wp2
  go_ret
  exact ⟨rfl, below_re (Ext.alloc _ _) (by simp <;> omega) _ _⟩

set_option maxHeartbeats 3200000 in
set_option maxRecDepth 100000 in
theorem specEdOk_no6 (p : Nat) (D L bx b' : Int) (hp : (p : Int) ≤ 9223372036854775807) (h0 : 0 ≤ (p : Int)) (hL : L ≤ 9223372036854775807) (c0 : 13 ≤ (p : Int) ∧ (p : Int) ≤ 1048576) (c1 : (p : Int) % 8 = 5) (c2 : Prime p) (c3 : 2 ≤ D ∧ D ≤ (p : Int) - 1) (c4 : D.toNat ^ ((p - 1) / 2) % p = p - 1) (c5 : 5 ≤ L ∧ L ≤ 2097152) (c6 : ¬ (Prime L.toNat)) (w : World) :
    Calls Tryz.prog 146 #[.agg #[.int .i64 (p : Int), .int .i64 D, .int .i64 L, .int .i64 bx, .int .i64 b']] w fun r w' => r = .returned (.bool false) ∧ Ext w w' := by
  have H0 : Hid (∀ w : World, Calls Tryz.prog 84 #[.int .i64 (p : Int), .int .i64 13, .int .i64 1048576] w fun e w' => e = .returned (.bool true) ∧ Ext w w') := fun w => l1In_ext _ _ _ _ w (by simp; omega)
  obtain ⟨r8, hr8⟩ : ∃ r8, r8 = (p : Int) % 8 := ⟨_, rfl⟩
  have ht8 : Int.tmod (p : Int) 8 = r8 := by rw [Int.tmod_eq_emod_of_nonneg (by omega)]; exact hr8.symm
  have ht9 : (p : Int) % 8 = r8 := hr8.symm
  have hw8 : IntKind.i64.wrap r8 = r8 := by rw [IntKind.wrap_i64]; omega
  have hw9 : wrap64 r8 = r8 := by unfold wrap64; omega
  have hb : (r8 != 5) = false := by simp; omega
  clear hr8
  have H2 : Hid (∀ w : World, Calls Tryz.prog 202 #[.int .i64 (p : Int)] w fun e w' => e = .returned (.bool true) ∧ Ext w w') := fun w => prime_ext _ _ w (by omega) (by rw [Int.toNat_natCast]; exact ⟨fun _ => ⟨by omega, by omega, c2⟩, fun _ => rfl⟩)
  have H3 : Hid (∀ w : World, Calls Tryz.prog 84 #[.int .i64 D, .int .i64 2, .int .i64 ((p : Int) - 1)] w fun e w' => e = .returned (.bool true) ∧ Ext w w') := fun w => l1In_ext _ _ _ _ w (by simp; omega)
  obtain ⟨d, rfl⟩ := Int.eq_ofNat_of_zero_le (show 0 ≤ D by omega)
  rw [Int.toNat_natCast] at c4
  obtain ⟨x, he⟩ : ∃ x : Nat, x = (p - 1) / 2 := ⟨_, rfl⟩
  rw [← he] at c4
  have H4 : Hid (∀ w : World, Calls Tryz.prog 151 #[.int .i64 (d : Int), .int .i64 (x : Int), .int .i64 (p : Int)] w fun e w' => e = .returned (.int .i64 ((d ^ x % p : Nat) : Int)) ∧ Ext w w') := fun w => l2Pow_ext d x p w (by omega) (by omega) (by omega) (by omega)
  have hq : Int.tdiv ((p : Int) - 1) 2 = (x : Int) := by rw [Int.tdiv_eq_ediv_of_nonneg (by omega)]; omega
  have hq2 : ((p : Int) - 1) / 2 = (x : Int) := by omega
  obtain ⟨g, hg⟩ : ∃ g : Nat, g = d ^ x % p := ⟨_, rfl⟩
  rw [← hg] at H4 c4
  have hn : (((g : Nat) : Int) != (p : Int) - 1) = false := by simp; omega
  have hz0 : IntKind.i64.wrap ((p : Int) - 1) = (p : Int) - 1 := by rw [IntKind.wrap_i64]; omega
  have hz1 : wrap64 ((p : Int) - 1) = (p : Int) - 1 := by unfold wrap64; omega
  have hz2 : IntKind.i64.wrap (x : Int) = (x : Int) := by rw [IntKind.wrap_i64]; omega
  have hz3 : wrap64 (x : Int) = (x : Int) := by unfold wrap64; omega
  clear he hg c4
  have H5 : Hid (∀ w : World, Calls Tryz.prog 84 #[.int .i64 L, .int .i64 5, .int .i64 2097152] w fun e w' => e = .returned (.bool true) ∧ Ext w w') := fun w => l1In_ext _ _ _ _ w (by simp; omega)
  have H6 : Hid (∀ w : World, Calls Tryz.prog 202 #[.int .i64 L] w fun e w' => e = .returned (.bool false) ∧ Ext w w') := fun w => prime_ext _ _ w (by omega) ⟨fun k => by simp at k, fun k => absurd k.2.2 c6⟩
  go_enter Tryz.func146, Tryz.ntmps146
  go_wp2
  have B1 := Blk.alloc w [.int .i64 (p : Int), .int .i64 (d : Int), .int .i64 L, .int .i64 bx, .int .i64 b'] 37
  have k0 := cell_regrown (B1 0 _ rfl).1
  have k1 := cell_regrown (B1 1 _ rfl).1
  have k2 := cell_regrown (B1 2 _ rfl).1
  have k3 := cell_regrown (B1 3 _ rfl).1
  have k4 := cell_regrown (B1 4 _ rfl).1
  clear B1
  refine wp_region_quiet_below (by kernel_rfl) (by kernel_rfl) ?_
  repeat (first | go_big_quiet_step (first | (go_at_call_of 84 (L); exact Calls.regrown_of (H5.out _)) | (go_at_call_of 84 (d); exact Calls.regrown_of (H3.out _)) | (go_at_call 84; exact Calls.regrown_of (H0.out _)) | (go_at_call_of 202 (L); exact Calls.regrown_of (H6.out _)) | (go_at_call 202; exact Calls.regrown_of (H2.out _)) | (go_at_call 151; exact Calls.regrown_of (H4.out _))) | quiet_step (first | (go_at_call_of 84 (L); exact Calls.regrown_of (H5.out _)) | (go_at_call_of 84 (d); exact Calls.regrown_of (H3.out _)) | (go_at_call 84; exact Calls.regrown_of (H0.out _)) | (go_at_call_of 202 (L); exact Calls.regrown_of (H6.out _)) | (go_at_call 202; exact Calls.regrown_of (H2.out _)) | (go_at_call 151; exact Calls.regrown_of (H4.out _))))
  refine wpQuiet_nil ?_
  intro _ hw'
  obtain ⟨⟨dq, osq⟩, hw''⟩ := hw'
  subst hw''
  clear k0 k1 k2 k3 k4
  go_wp2
  go_ret
  exact ⟨rfl, below_re (Ext.alloc _ _) (by simp <;> omega) _ _⟩

theorem prHeld : Tryz.prog.stoodInHeld 38 = false := by kernel_rfl
theorem prGuard : Tryz.prog.eqGuardType Tryz.prog.depth 38 = false := by kernel_rfl

/-- Pairs compared. -/
theorem run_eqPr (x1 y1 x2 y2 : Int) (w : World) : (binOp .eql 38 (.agg #[.int .i64 x1, .int .i64 y1]) (.agg #[.int .i64 x2, .int .i64 y2])).run Tryz.prog w = .ok (.bool (x1 == x2 && y1 == y2)) w := by
  have u2 := prHeld
  cases hx : (x1 == x2)
  · simp [go_sem, u2, hx]
  · cases hy : (y1 == y2)
    · simp [go_sem, u2, hx, hy]
    · simp [go_sem, u2, hx, hy]

theorem run_nePr (x1 y1 x2 y2 : Int) (w : World) : (binOp .neq 38 (.agg #[.int .i64 x1, .int .i64 y1]) (.agg #[.int .i64 x2, .int .i64 y2])).run Tryz.prog w = .ok (.bool (!(x1 == x2 && y1 == y2))) w := by
  have u2 := prHeld
  cases hx : (x1 == x2)
  · simp [go_sem, u2, hx]
  · cases hy : (y1 == y2)
    · simp [go_sem, u2, hx, hy]
    · simp [go_sem, u2, hx, hy]

theorem nePr_yes {x y : Int} (h : ¬ (x = 0 ∧ y = 1)) (w : World) : (binOp .neq 38 (.agg #[.int .i64 x, .int .i64 y]) (.agg #[.int .i64 0, .int .i64 1])).run Tryz.prog w = .ok (.bool true) w := by
  rw [run_nePr]
  congr 2
  by_cases hx : x = 0
  · have hy : ¬ y = 1 := fun k => h ⟨hx, k⟩
    simp [hy]
  · simp [hx]

theorem nePr_no {x y : Int} (h : x = 0 ∧ y = 1) (w : World) : (binOp .neq 38 (.agg #[.int .i64 x, .int .i64 y]) (.agg #[.int .i64 0, .int .i64 1])).run Tryz.prog w = .ok (.bool false) w := by
  rw [run_nePr, h.1, h.2]; simp

theorem eqPr_yes (w : World) : (binOp .eql 38 (.agg #[.int .i64 0, .int .i64 1]) (.agg #[.int .i64 0, .int .i64 1])).run Tryz.prog w = .ok (.bool true) w := by
  rw [run_eqPr]; simp

theorem eqPr_no {R : Pr} (h : R ≠ oneE) (w : World) : (binOp .eql 38 (.agg #[.int .i64 R.x, .int .i64 R.y]) (.agg #[.int .i64 0, .int .i64 1])).run Tryz.prog w = .ok (.bool false) w := by
  rw [run_eqPr]
  congr 2
  obtain ⟨x, y⟩ := R
  by_cases hx : x = 0
  · by_cases hy : y = 1
    · exact absurd (by rw [hx, hy]; rfl) h
    · simp [hy]
  · simp [hx]

theorem l4On_at (p : Nat) (D L bx b' : Int) (a : Pr) (ok : Bool) (hk : ok = true ↔ OnE p D a) (hp0 : 2 ≤ (p : Int)) (hp : (p : Int) ≤ 1048576) (hD0 : 0 ≤ D) (hD : D ≤ 1048576) (w : World) :
    Calls Tryz.prog 147 #[.agg #[.int .i64 (p : Int), .int .i64 D, .int .i64 L, .int .i64 bx, .int .i64 b'], .agg #[.int .i64 a.x, .int .i64 a.y]] w fun r w' => r = .returned (.bool ok) ∧ Ext w w' :=
  (l4On_any p D L bx b' a.x a.y w hp0 hp hD0 hD).mono fun r w' k => by
    obtain ⟨⟨b, rfl, hb⟩, hw⟩ := k
    rw [Int.toNat_natCast] at hb
    exact ⟨by rw [show b = ok by rw [Bool.eq_iff_iff, hb, hk]], hw⟩

set_option maxHeartbeats 3200000 in
set_option maxRecDepth 100000 in
theorem specEdOk_off (p : Nat) (D L bx b' : Int) (hp : (p : Int) ≤ 9223372036854775807) (h0 : 0 ≤ (p : Int)) (hL : L ≤ 9223372036854775807) (c0 : 13 ≤ (p : Int) ∧ (p : Int) ≤ 1048576) (c1 : (p : Int) % 8 = 5) (c2 : Prime p) (c3 : 2 ≤ D ∧ D ≤ (p : Int) - 1) (c4 : D.toNat ^ ((p - 1) / 2) % p = p - 1) (c5 : 5 ≤ L ∧ L ≤ 2097152) (c6 : Prime L.toNat) (ho : ¬ OnE p D ⟨bx, b'⟩) (w : World) :
    Calls Tryz.prog 146 #[.agg #[.int .i64 (p : Int), .int .i64 D, .int .i64 L, .int .i64 bx, .int .i64 b']] w fun r w' => r = .returned (.bool false) ∧ Ext w w' := by
  have HO : Hid (∀ w : World, Calls Tryz.prog 147 #[.agg #[.int .i64 (p : Int), .int .i64 D, .int .i64 L, .int .i64 bx, .int .i64 b'], .agg #[.int .i64 bx, .int .i64 b']] w fun e w' => e = .returned (.bool false) ∧ Ext w w') := fun w => l4On_at p D L bx b' ⟨bx, b'⟩ false ⟨fun k => by simp at k, fun k => absurd k ho⟩ (by omega) (by omega) (by omega) (by omega) w
  have H0 : Hid (∀ w : World, Calls Tryz.prog 84 #[.int .i64 (p : Int), .int .i64 13, .int .i64 1048576] w fun e w' => e = .returned (.bool true) ∧ Ext w w') := fun w => l1In_ext _ _ _ _ w (by simp; omega)
  obtain ⟨r8, hr8⟩ : ∃ r8, r8 = (p : Int) % 8 := ⟨_, rfl⟩
  have ht8 : Int.tmod (p : Int) 8 = r8 := by rw [Int.tmod_eq_emod_of_nonneg (by omega)]; exact hr8.symm
  have ht9 : (p : Int) % 8 = r8 := hr8.symm
  have hw8 : IntKind.i64.wrap r8 = r8 := by rw [IntKind.wrap_i64]; omega
  have hw9 : wrap64 r8 = r8 := by unfold wrap64; omega
  have hb : (r8 != 5) = false := by simp; omega
  clear hr8
  have H2 : Hid (∀ w : World, Calls Tryz.prog 202 #[.int .i64 (p : Int)] w fun e w' => e = .returned (.bool true) ∧ Ext w w') := fun w => prime_ext _ _ w (by omega) (by rw [Int.toNat_natCast]; exact ⟨fun _ => ⟨by omega, by omega, c2⟩, fun _ => rfl⟩)
  have H3 : Hid (∀ w : World, Calls Tryz.prog 84 #[.int .i64 D, .int .i64 2, .int .i64 ((p : Int) - 1)] w fun e w' => e = .returned (.bool true) ∧ Ext w w') := fun w => l1In_ext _ _ _ _ w (by simp; omega)
  obtain ⟨d, rfl⟩ := Int.eq_ofNat_of_zero_le (show 0 ≤ D by omega)
  rw [Int.toNat_natCast] at c4
  obtain ⟨x, he⟩ : ∃ x : Nat, x = (p - 1) / 2 := ⟨_, rfl⟩
  rw [← he] at c4
  have H4 : Hid (∀ w : World, Calls Tryz.prog 151 #[.int .i64 (d : Int), .int .i64 (x : Int), .int .i64 (p : Int)] w fun e w' => e = .returned (.int .i64 ((d ^ x % p : Nat) : Int)) ∧ Ext w w') := fun w => l2Pow_ext d x p w (by omega) (by omega) (by omega) (by omega)
  have hq : Int.tdiv ((p : Int) - 1) 2 = (x : Int) := by rw [Int.tdiv_eq_ediv_of_nonneg (by omega)]; omega
  have hq2 : ((p : Int) - 1) / 2 = (x : Int) := by omega
  obtain ⟨g, hg⟩ : ∃ g : Nat, g = d ^ x % p := ⟨_, rfl⟩
  rw [← hg] at H4 c4
  have hn : (((g : Nat) : Int) != (p : Int) - 1) = false := by simp; omega
  have hz0 : IntKind.i64.wrap ((p : Int) - 1) = (p : Int) - 1 := by rw [IntKind.wrap_i64]; omega
  have hz1 : wrap64 ((p : Int) - 1) = (p : Int) - 1 := by unfold wrap64; omega
  have hz2 : IntKind.i64.wrap (x : Int) = (x : Int) := by rw [IntKind.wrap_i64]; omega
  have hz3 : wrap64 (x : Int) = (x : Int) := by unfold wrap64; omega
  clear he hg c4
  have H5 : Hid (∀ w : World, Calls Tryz.prog 84 #[.int .i64 L, .int .i64 5, .int .i64 2097152] w fun e w' => e = .returned (.bool true) ∧ Ext w w') := fun w => l1In_ext _ _ _ _ w (by simp; omega)
  have H6 : Hid (∀ w : World, Calls Tryz.prog 202 #[.int .i64 L] w fun e w' => e = .returned (.bool true) ∧ Ext w w') := fun w => prime_ext _ _ w (by omega) ⟨fun _ => ⟨by omega, by omega, c6⟩, fun _ => rfl⟩
  go_enter Tryz.func146, Tryz.ntmps146
  go_wp2
  have B1 := Blk.alloc w [.int .i64 (p : Int), .int .i64 (d : Int), .int .i64 L, .int .i64 bx, .int .i64 b'] 37
  have k0 := cell_regrown (B1 0 _ rfl).1
  have k1 := cell_regrown (B1 1 _ rfl).1
  have k2 := cell_regrown (B1 2 _ rfl).1
  have k3 := cell_regrown (B1 3 _ rfl).1
  have k4 := cell_regrown (B1 4 _ rfl).1
  clear B1
  refine wp_region_quiet_below (by kernel_rfl) (by kernel_rfl) ?_
  repeat (first | go_big_quiet_step (first | (go_at_call_of 84 (L); exact Calls.regrown_of (H5.out _)) | (go_at_call_of 84 (d); exact Calls.regrown_of (H3.out _)) | (go_at_call 84; exact Calls.regrown_of (H0.out _)) | (go_at_call_of 202 (L); exact Calls.regrown_of (H6.out _)) | (go_at_call 202; exact Calls.regrown_of (H2.out _)) | (go_at_call 151; exact Calls.regrown_of (H4.out _))) | quiet_step (first | (go_at_call_of 84 (L); exact Calls.regrown_of (H5.out _)) | (go_at_call_of 84 (d); exact Calls.regrown_of (H3.out _)) | (go_at_call 84; exact Calls.regrown_of (H0.out _)) | (go_at_call_of 202 (L); exact Calls.regrown_of (H6.out _)) | (go_at_call 202; exact Calls.regrown_of (H2.out _)) | (go_at_call 151; exact Calls.regrown_of (H4.out _))))
  refine wpQuiet_nil ?_
  intro _ hw'
  obtain ⟨⟨dq, osq⟩, hw''⟩ := hw'
  subst hw''
  clear k0 k1 k2 k3 k4
  have hW := below_regrown (w.alloc (.cells #[.int .i64 (p : Int), .int .i64 (d : Int), .int .i64 L, .int .i64 bx, .int .i64 b'] 37)) dq osq
  generalize Sort.grow (redrawn (w.alloc (.cells #[.int .i64 (p : Int), .int .i64 (d : Int), .int .i64 L, .int .i64 bx, .int .i64 b'] 37)) dq) osq = W1 at *
  obtain ⟨B1, hE, hz⟩ := box1 w [.int .i64 (p : Int), .int .i64 (d : Int), .int .i64 L, .int .i64 bx, .int .i64 b'] 37 hW
  clear hW
  have BA := B1.ext (Ext.alloc W1 (.cells #[.int .i64 bx, .int .i64 b'] 38)) (by omega)
  have k0 := (B1 0 _ rfl).1
  have k1 := (B1 1 _ rfl).1
  have k2 := (B1 2 _ rfl).1
  have k3 := (B1 3 _ rfl).1
  have k4 := (B1 4 _ rfl).1
  have j0 := (BA 0 _ rfl).1
  have j1 := (BA 1 _ rfl).1
  have j2 := (BA 2 _ rfl).1
  have j3 := (BA 3 _ rfl).1
  have j4 := (BA 4 _ rfl).1
  clear BA
  go_wp2_with fail
  clear j0 j1 j2 j3 j4
  refine (HO.out _).mono ?_
  rintro r w2 ⟨rfl, hw2⟩
  obtain ⟨B2, hE2, hz2⟩ := box1 W1 [.int .i64 bx, .int .i64 b'] 38 hw2
  replace B1 := B1.ext hE2 (by omega)
  replace hE := hE.trans hE2
  clear hw2 hE2 k0 k1 k2 k3 k4
  have k0 := (B1 0 _ rfl).1
  have k1 := (B1 1 _ rfl).1
  have k2 := (B1 2 _ rfl).1
  have k3 := (B1 3 _ rfl).1
  have k4 := (B1 4 _ rfl).1
  have g0 := (B2 0 _ rfl).1
  have g1 := (B2 1 _ rfl).1
  go_wp2
  go_ret
  exact ⟨rfl, hE⟩

set_option maxHeartbeats 3200000 in
set_option maxRecDepth 100000 in
theorem specEdOk_unit (p : Nat) (D L bx b' : Int) (hp : (p : Int) ≤ 9223372036854775807) (h0 : 0 ≤ (p : Int)) (hL : L ≤ 9223372036854775807) (c0 : 13 ≤ (p : Int) ∧ (p : Int) ≤ 1048576) (c1 : (p : Int) % 8 = 5) (c2 : Prime p) (c3 : 2 ≤ D ∧ D ≤ (p : Int) - 1) (c4 : D.toNat ^ ((p - 1) / 2) % p = p - 1) (c5 : 5 ≤ L ∧ L ≤ 2097152) (c6 : Prime L.toNat) (ho : OnE p D ⟨bx, b'⟩) (hn' : bx = 0 ∧ b' = 1) (w : World) :
    Calls Tryz.prog 146 #[.agg #[.int .i64 (p : Int), .int .i64 D, .int .i64 L, .int .i64 bx, .int .i64 b']] w fun r w' => r = .returned (.bool false) ∧ Ext w w' := by
  have HO : Hid (∀ w : World, Calls Tryz.prog 147 #[.agg #[.int .i64 (p : Int), .int .i64 D, .int .i64 L, .int .i64 bx, .int .i64 b'], .agg #[.int .i64 bx, .int .i64 b']] w fun e w' => e = .returned (.bool true) ∧ Ext w w') := fun w => l4On_at p D L bx b' ⟨bx, b'⟩ true ⟨fun _ => ho, fun _ => rfl⟩ (by omega) (by omega) (by omega) (by omega) w
  have v1 := nePr_no hn'
  clear hn'
  have H0 : Hid (∀ w : World, Calls Tryz.prog 84 #[.int .i64 (p : Int), .int .i64 13, .int .i64 1048576] w fun e w' => e = .returned (.bool true) ∧ Ext w w') := fun w => l1In_ext _ _ _ _ w (by simp; omega)
  obtain ⟨r8, hr8⟩ : ∃ r8, r8 = (p : Int) % 8 := ⟨_, rfl⟩
  have ht8 : Int.tmod (p : Int) 8 = r8 := by rw [Int.tmod_eq_emod_of_nonneg (by omega)]; exact hr8.symm
  have ht9 : (p : Int) % 8 = r8 := hr8.symm
  have hw8 : IntKind.i64.wrap r8 = r8 := by rw [IntKind.wrap_i64]; omega
  have hw9 : wrap64 r8 = r8 := by unfold wrap64; omega
  have hb : (r8 != 5) = false := by simp; omega
  clear hr8
  have H2 : Hid (∀ w : World, Calls Tryz.prog 202 #[.int .i64 (p : Int)] w fun e w' => e = .returned (.bool true) ∧ Ext w w') := fun w => prime_ext _ _ w (by omega) (by rw [Int.toNat_natCast]; exact ⟨fun _ => ⟨by omega, by omega, c2⟩, fun _ => rfl⟩)
  have H3 : Hid (∀ w : World, Calls Tryz.prog 84 #[.int .i64 D, .int .i64 2, .int .i64 ((p : Int) - 1)] w fun e w' => e = .returned (.bool true) ∧ Ext w w') := fun w => l1In_ext _ _ _ _ w (by simp; omega)
  obtain ⟨d, rfl⟩ := Int.eq_ofNat_of_zero_le (show 0 ≤ D by omega)
  rw [Int.toNat_natCast] at c4
  obtain ⟨x, he⟩ : ∃ x : Nat, x = (p - 1) / 2 := ⟨_, rfl⟩
  rw [← he] at c4
  have H4 : Hid (∀ w : World, Calls Tryz.prog 151 #[.int .i64 (d : Int), .int .i64 (x : Int), .int .i64 (p : Int)] w fun e w' => e = .returned (.int .i64 ((d ^ x % p : Nat) : Int)) ∧ Ext w w') := fun w => l2Pow_ext d x p w (by omega) (by omega) (by omega) (by omega)
  have hq : Int.tdiv ((p : Int) - 1) 2 = (x : Int) := by rw [Int.tdiv_eq_ediv_of_nonneg (by omega)]; omega
  have hq2 : ((p : Int) - 1) / 2 = (x : Int) := by omega
  obtain ⟨g, hg⟩ : ∃ g : Nat, g = d ^ x % p := ⟨_, rfl⟩
  rw [← hg] at H4 c4
  have hn : (((g : Nat) : Int) != (p : Int) - 1) = false := by simp; omega
  have hz0 : IntKind.i64.wrap ((p : Int) - 1) = (p : Int) - 1 := by rw [IntKind.wrap_i64]; omega
  have hz1 : wrap64 ((p : Int) - 1) = (p : Int) - 1 := by unfold wrap64; omega
  have hz2 : IntKind.i64.wrap (x : Int) = (x : Int) := by rw [IntKind.wrap_i64]; omega
  have hz3 : wrap64 (x : Int) = (x : Int) := by unfold wrap64; omega
  clear he hg c4
  have H5 : Hid (∀ w : World, Calls Tryz.prog 84 #[.int .i64 L, .int .i64 5, .int .i64 2097152] w fun e w' => e = .returned (.bool true) ∧ Ext w w') := fun w => l1In_ext _ _ _ _ w (by simp; omega)
  have H6 : Hid (∀ w : World, Calls Tryz.prog 202 #[.int .i64 L] w fun e w' => e = .returned (.bool true) ∧ Ext w w') := fun w => prime_ext _ _ w (by omega) ⟨fun _ => ⟨by omega, by omega, c6⟩, fun _ => rfl⟩
  go_enter Tryz.func146, Tryz.ntmps146
  go_wp2
  have B1 := Blk.alloc w [.int .i64 (p : Int), .int .i64 (d : Int), .int .i64 L, .int .i64 bx, .int .i64 b'] 37
  have k0 := cell_regrown (B1 0 _ rfl).1
  have k1 := cell_regrown (B1 1 _ rfl).1
  have k2 := cell_regrown (B1 2 _ rfl).1
  have k3 := cell_regrown (B1 3 _ rfl).1
  have k4 := cell_regrown (B1 4 _ rfl).1
  clear B1
  refine wp_region_quiet_below (by kernel_rfl) (by kernel_rfl) ?_
  repeat (first | go_big_quiet_step (first | (go_at_call_of 84 (L); exact Calls.regrown_of (H5.out _)) | (go_at_call_of 84 (d); exact Calls.regrown_of (H3.out _)) | (go_at_call 84; exact Calls.regrown_of (H0.out _)) | (go_at_call_of 202 (L); exact Calls.regrown_of (H6.out _)) | (go_at_call 202; exact Calls.regrown_of (H2.out _)) | (go_at_call 151; exact Calls.regrown_of (H4.out _))) | quiet_step (first | (go_at_call_of 84 (L); exact Calls.regrown_of (H5.out _)) | (go_at_call_of 84 (d); exact Calls.regrown_of (H3.out _)) | (go_at_call 84; exact Calls.regrown_of (H0.out _)) | (go_at_call_of 202 (L); exact Calls.regrown_of (H6.out _)) | (go_at_call 202; exact Calls.regrown_of (H2.out _)) | (go_at_call 151; exact Calls.regrown_of (H4.out _))))
  refine wpQuiet_nil ?_
  intro _ hw'
  obtain ⟨⟨dq, osq⟩, hw''⟩ := hw'
  subst hw''
  clear k0 k1 k2 k3 k4
  have hW := below_regrown (w.alloc (.cells #[.int .i64 (p : Int), .int .i64 (d : Int), .int .i64 L, .int .i64 bx, .int .i64 b'] 37)) dq osq
  generalize Sort.grow (redrawn (w.alloc (.cells #[.int .i64 (p : Int), .int .i64 (d : Int), .int .i64 L, .int .i64 bx, .int .i64 b'] 37)) dq) osq = W1 at *
  obtain ⟨B1, hE, hz⟩ := box1 w [.int .i64 (p : Int), .int .i64 (d : Int), .int .i64 L, .int .i64 bx, .int .i64 b'] 37 hW
  clear hW
  have BA := B1.ext (Ext.alloc W1 (.cells #[.int .i64 bx, .int .i64 b'] 38)) (by omega)
  have k0 := (B1 0 _ rfl).1
  have k1 := (B1 1 _ rfl).1
  have k2 := (B1 2 _ rfl).1
  have k3 := (B1 3 _ rfl).1
  have k4 := (B1 4 _ rfl).1
  have j0 := (BA 0 _ rfl).1
  have j1 := (BA 1 _ rfl).1
  have j2 := (BA 2 _ rfl).1
  have j3 := (BA 3 _ rfl).1
  have j4 := (BA 4 _ rfl).1
  clear BA
  go_wp2_with fail
  clear j0 j1 j2 j3 j4
  refine (HO.out _).mono ?_
  rintro r w2 ⟨rfl, hw2⟩
  obtain ⟨B2, hE2, hz2⟩ := box1 W1 [.int .i64 bx, .int .i64 b'] 38 hw2
  replace B1 := B1.ext hE2 (by omega)
  replace hE := hE.trans hE2
  clear hw2 hE2 k0 k1 k2 k3 k4
  have k0 := (B1 0 _ rfl).1
  have k1 := (B1 1 _ rfl).1
  have k2 := (B1 2 _ rfl).1
  have k3 := (B1 3 _ rfl).1
  have k4 := (B1 4 _ rfl).1
  have g0 := (B2 0 _ rfl).1
  have g1 := (B2 1 _ rfl).1
  go_wp2
  go_ret
  exact ⟨rfl, hE⟩

set_option maxHeartbeats 3200000 in
set_option maxRecDepth 100000 in
theorem specEdOk_yes (p : Nat) (D L bx b' : Int) (hp : (p : Int) ≤ 9223372036854775807) (h0 : 0 ≤ (p : Int)) (hL : L ≤ 9223372036854775807) (c0 : 13 ≤ (p : Int) ∧ (p : Int) ≤ 1048576) (c1 : (p : Int) % 8 = 5) (c2 : Prime p) (c3 : 2 ≤ D ∧ D ≤ (p : Int) - 1) (c4 : D.toNat ^ ((p - 1) / 2) % p = p - 1) (c5 : 5 ≤ L ∧ L ≤ 2097152) (c6 : Prime L.toNat) (ho : OnE p D ⟨bx, b'⟩) (hn' : ¬ (bx = 0 ∧ b' = 1)) (hm : mulE p D L.toNat ⟨bx, b'⟩ = oneE) (w : World) :
    Calls Tryz.prog 146 #[.agg #[.int .i64 (p : Int), .int .i64 D, .int .i64 L, .int .i64 bx, .int .i64 b']] w fun r w' => r = .returned (.bool true) ∧ Ext w w' := by
  obtain ⟨l, rfl⟩ := Int.eq_ofNat_of_zero_le (show 0 ≤ L by omega)
  rw [Int.toNat_natCast] at hm
  have HM : Hid (∀ w : World, Calls Tryz.prog 100 #[.agg #[.int .i64 (p : Int), .int .i64 D, .int .i64 (l : Int), .int .i64 bx, .int .i64 b'], .int .i64 (l : Int), .agg #[.int .i64 bx, .int .i64 b']] w fun e w' => e = .returned (.agg #[.int .i64 (mulE p D l ⟨bx, b'⟩).x, .int .i64 (mulE p D l ⟨bx, b'⟩).y]) ∧ Ext w w') := fun w => l4Mul_any p D l bx b' l ⟨bx, b'⟩ w c2 (by omega) (by omega) (by omega) (by omega) ho.inE (by omega)
  have HO : Hid (∀ w : World, Calls Tryz.prog 147 #[.agg #[.int .i64 (p : Int), .int .i64 D, .int .i64 (l : Int), .int .i64 bx, .int .i64 b'], .agg #[.int .i64 bx, .int .i64 b']] w fun e w' => e = .returned (.bool true) ∧ Ext w w') := fun w => l4On_at p D l bx b' ⟨bx, b'⟩ true ⟨fun _ => ho, fun _ => rfl⟩ (by omega) (by omega) (by omega) (by omega) w
  have v1 := nePr_yes hn'
  clear hn'
  rw [hm] at HM
  replace HM : Hid (∀ w : World, Calls Tryz.prog 100 #[.agg #[.int .i64 (p : Int), .int .i64 D, .int .i64 (l : Int), .int .i64 bx, .int .i64 b'], .int .i64 (l : Int), .agg #[.int .i64 bx, .int .i64 b']] w fun e w' => e = .returned (.agg #[.int .i64 0, .int .i64 1]) ∧ Ext w w') := HM.out
  have v2 := eqPr_yes
  clear hm
  have H0 : Hid (∀ w : World, Calls Tryz.prog 84 #[.int .i64 (p : Int), .int .i64 13, .int .i64 1048576] w fun e w' => e = .returned (.bool true) ∧ Ext w w') := fun w => l1In_ext _ _ _ _ w (by simp; omega)
  obtain ⟨r8, hr8⟩ : ∃ r8, r8 = (p : Int) % 8 := ⟨_, rfl⟩
  have ht8 : Int.tmod (p : Int) 8 = r8 := by rw [Int.tmod_eq_emod_of_nonneg (by omega)]; exact hr8.symm
  have ht9 : (p : Int) % 8 = r8 := hr8.symm
  have hw8 : IntKind.i64.wrap r8 = r8 := by rw [IntKind.wrap_i64]; omega
  have hw9 : wrap64 r8 = r8 := by unfold wrap64; omega
  have hb : (r8 != 5) = false := by simp; omega
  clear hr8
  have H2 : Hid (∀ w : World, Calls Tryz.prog 202 #[.int .i64 (p : Int)] w fun e w' => e = .returned (.bool true) ∧ Ext w w') := fun w => prime_ext _ _ w (by omega) (by rw [Int.toNat_natCast]; exact ⟨fun _ => ⟨by omega, by omega, c2⟩, fun _ => rfl⟩)
  have H3 : Hid (∀ w : World, Calls Tryz.prog 84 #[.int .i64 D, .int .i64 2, .int .i64 ((p : Int) - 1)] w fun e w' => e = .returned (.bool true) ∧ Ext w w') := fun w => l1In_ext _ _ _ _ w (by simp; omega)
  obtain ⟨d, rfl⟩ := Int.eq_ofNat_of_zero_le (show 0 ≤ D by omega)
  rw [Int.toNat_natCast] at c4
  obtain ⟨x, he⟩ : ∃ x : Nat, x = (p - 1) / 2 := ⟨_, rfl⟩
  rw [← he] at c4
  have H4 : Hid (∀ w : World, Calls Tryz.prog 151 #[.int .i64 (d : Int), .int .i64 (x : Int), .int .i64 (p : Int)] w fun e w' => e = .returned (.int .i64 ((d ^ x % p : Nat) : Int)) ∧ Ext w w') := fun w => l2Pow_ext d x p w (by omega) (by omega) (by omega) (by omega)
  have hq : Int.tdiv ((p : Int) - 1) 2 = (x : Int) := by rw [Int.tdiv_eq_ediv_of_nonneg (by omega)]; omega
  have hq2 : ((p : Int) - 1) / 2 = (x : Int) := by omega
  obtain ⟨g, hg⟩ : ∃ g : Nat, g = d ^ x % p := ⟨_, rfl⟩
  rw [← hg] at H4 c4
  have hn : (((g : Nat) : Int) != (p : Int) - 1) = false := by simp; omega
  have hz0 : IntKind.i64.wrap ((p : Int) - 1) = (p : Int) - 1 := by rw [IntKind.wrap_i64]; omega
  have hz1 : wrap64 ((p : Int) - 1) = (p : Int) - 1 := by unfold wrap64; omega
  have hz2 : IntKind.i64.wrap (x : Int) = (x : Int) := by rw [IntKind.wrap_i64]; omega
  have hz3 : wrap64 (x : Int) = (x : Int) := by unfold wrap64; omega
  clear he hg c4
  have H5 : Hid (∀ w : World, Calls Tryz.prog 84 #[.int .i64 (l : Int), .int .i64 5, .int .i64 2097152] w fun e w' => e = .returned (.bool true) ∧ Ext w w') := fun w => l1In_ext _ _ _ _ w (by simp; omega)
  have H6 : Hid (∀ w : World, Calls Tryz.prog 202 #[.int .i64 (l : Int)] w fun e w' => e = .returned (.bool true) ∧ Ext w w') := fun w => prime_ext _ _ w (by omega) ⟨fun _ => ⟨by omega, by omega, c6⟩, fun _ => rfl⟩
  go_enter Tryz.func146, Tryz.ntmps146
  go_wp2
  have B1 := Blk.alloc w [.int .i64 (p : Int), .int .i64 (d : Int), .int .i64 (l : Int), .int .i64 bx, .int .i64 b'] 37
  have k0 := cell_regrown (B1 0 _ rfl).1
  have k1 := cell_regrown (B1 1 _ rfl).1
  have k2 := cell_regrown (B1 2 _ rfl).1
  have k3 := cell_regrown (B1 3 _ rfl).1
  have k4 := cell_regrown (B1 4 _ rfl).1
  clear B1
  refine wp_region_quiet_below (by kernel_rfl) (by kernel_rfl) ?_
  repeat (first | go_big_quiet_step (first | (go_at_call_of 84 (l); exact Calls.regrown_of (H5.out _)) | (go_at_call_of 84 (d); exact Calls.regrown_of (H3.out _)) | (go_at_call 84; exact Calls.regrown_of (H0.out _)) | (go_at_call_of 202 (l); exact Calls.regrown_of (H6.out _)) | (go_at_call 202; exact Calls.regrown_of (H2.out _)) | (go_at_call 151; exact Calls.regrown_of (H4.out _))) | quiet_step (first | (go_at_call_of 84 (l); exact Calls.regrown_of (H5.out _)) | (go_at_call_of 84 (d); exact Calls.regrown_of (H3.out _)) | (go_at_call 84; exact Calls.regrown_of (H0.out _)) | (go_at_call_of 202 (l); exact Calls.regrown_of (H6.out _)) | (go_at_call 202; exact Calls.regrown_of (H2.out _)) | (go_at_call 151; exact Calls.regrown_of (H4.out _))))
  refine wpQuiet_nil ?_
  intro _ hw'
  obtain ⟨⟨dq, osq⟩, hw''⟩ := hw'
  subst hw''
  clear k0 k1 k2 k3 k4
  have hW := below_regrown (w.alloc (.cells #[.int .i64 (p : Int), .int .i64 (d : Int), .int .i64 (l : Int), .int .i64 bx, .int .i64 b'] 37)) dq osq
  generalize Sort.grow (redrawn (w.alloc (.cells #[.int .i64 (p : Int), .int .i64 (d : Int), .int .i64 (l : Int), .int .i64 bx, .int .i64 b'] 37)) dq) osq = W1 at *
  obtain ⟨B1, hE, hz⟩ := box1 w [.int .i64 (p : Int), .int .i64 (d : Int), .int .i64 (l : Int), .int .i64 bx, .int .i64 b'] 37 hW
  clear hW
  have BA := B1.ext (Ext.alloc W1 (.cells #[.int .i64 bx, .int .i64 b'] 38)) (by omega)
  have k0 := (B1 0 _ rfl).1
  have k1 := (B1 1 _ rfl).1
  have k2 := (B1 2 _ rfl).1
  have k3 := (B1 3 _ rfl).1
  have k4 := (B1 4 _ rfl).1
  have j0 := (BA 0 _ rfl).1
  have j1 := (BA 1 _ rfl).1
  have j2 := (BA 2 _ rfl).1
  have j3 := (BA 3 _ rfl).1
  have j4 := (BA 4 _ rfl).1
  clear BA
  go_wp2_with fail
  clear j0 j1 j2 j3 j4
  refine (HO.out _).mono ?_
  rintro r w2 ⟨rfl, hw2⟩
  obtain ⟨B2, hE2, hz2⟩ := box1 W1 [.int .i64 bx, .int .i64 b'] 38 hw2
  replace B1 := B1.ext hE2 (by omega)
  replace hE := hE.trans hE2
  clear hw2 hE2 k0 k1 k2 k3 k4
  have k0 := (B1 0 _ rfl).1
  have k1 := (B1 1 _ rfl).1
  have k2 := (B1 2 _ rfl).1
  have k3 := (B1 3 _ rfl).1
  have k4 := (B1 4 _ rfl).1
  have g0 := (B2 0 _ rfl).1
  have g1 := (B2 1 _ rfl).1
  go_wp2_with fail
  refine (HM.out _).mono ?_
  rintro r w3 ⟨rfl, hw3⟩
  replace hE := hE.trans hw3
  clear hw3
  go_wp2
  go_ret
  exact ⟨rfl, hE⟩

set_option maxHeartbeats 3200000 in
set_option maxRecDepth 100000 in
theorem specEdOk_other (p : Nat) (D L bx b' : Int) (hp : (p : Int) ≤ 9223372036854775807) (h0 : 0 ≤ (p : Int)) (hL : L ≤ 9223372036854775807) (c0 : 13 ≤ (p : Int) ∧ (p : Int) ≤ 1048576) (c1 : (p : Int) % 8 = 5) (c2 : Prime p) (c3 : 2 ≤ D ∧ D ≤ (p : Int) - 1) (c4 : D.toNat ^ ((p - 1) / 2) % p = p - 1) (c5 : 5 ≤ L ∧ L ≤ 2097152) (c6 : Prime L.toNat) (ho : OnE p D ⟨bx, b'⟩) (hn' : ¬ (bx = 0 ∧ b' = 1)) (hm : mulE p D L.toNat ⟨bx, b'⟩ ≠ oneE) (w : World) :
    Calls Tryz.prog 146 #[.agg #[.int .i64 (p : Int), .int .i64 D, .int .i64 L, .int .i64 bx, .int .i64 b']] w fun r w' => r = .returned (.bool false) ∧ Ext w w' := by
  obtain ⟨l, rfl⟩ := Int.eq_ofNat_of_zero_le (show 0 ≤ L by omega)
  rw [Int.toNat_natCast] at hm
  have HM : Hid (∀ w : World, Calls Tryz.prog 100 #[.agg #[.int .i64 (p : Int), .int .i64 D, .int .i64 (l : Int), .int .i64 bx, .int .i64 b'], .int .i64 (l : Int), .agg #[.int .i64 bx, .int .i64 b']] w fun e w' => e = .returned (.agg #[.int .i64 (mulE p D l ⟨bx, b'⟩).x, .int .i64 (mulE p D l ⟨bx, b'⟩).y]) ∧ Ext w w') := fun w => l4Mul_any p D l bx b' l ⟨bx, b'⟩ w c2 (by omega) (by omega) (by omega) (by omega) ho.inE (by omega)
  have HO : Hid (∀ w : World, Calls Tryz.prog 147 #[.agg #[.int .i64 (p : Int), .int .i64 D, .int .i64 (l : Int), .int .i64 bx, .int .i64 b'], .agg #[.int .i64 bx, .int .i64 b']] w fun e w' => e = .returned (.bool true) ∧ Ext w w') := fun w => l4On_at p D l bx b' ⟨bx, b'⟩ true ⟨fun _ => ho, fun _ => rfl⟩ (by omega) (by omega) (by omega) (by omega) w
  have v1 := nePr_yes hn'
  clear hn'
  have v2 := eqPr_no hm
  clear hm
  generalize mulE p D l ⟨bx, b'⟩ = R at *
  have H0 : Hid (∀ w : World, Calls Tryz.prog 84 #[.int .i64 (p : Int), .int .i64 13, .int .i64 1048576] w fun e w' => e = .returned (.bool true) ∧ Ext w w') := fun w => l1In_ext _ _ _ _ w (by simp; omega)
  obtain ⟨r8, hr8⟩ : ∃ r8, r8 = (p : Int) % 8 := ⟨_, rfl⟩
  have ht8 : Int.tmod (p : Int) 8 = r8 := by rw [Int.tmod_eq_emod_of_nonneg (by omega)]; exact hr8.symm
  have ht9 : (p : Int) % 8 = r8 := hr8.symm
  have hw8 : IntKind.i64.wrap r8 = r8 := by rw [IntKind.wrap_i64]; omega
  have hw9 : wrap64 r8 = r8 := by unfold wrap64; omega
  have hb : (r8 != 5) = false := by simp; omega
  clear hr8
  have H2 : Hid (∀ w : World, Calls Tryz.prog 202 #[.int .i64 (p : Int)] w fun e w' => e = .returned (.bool true) ∧ Ext w w') := fun w => prime_ext _ _ w (by omega) (by rw [Int.toNat_natCast]; exact ⟨fun _ => ⟨by omega, by omega, c2⟩, fun _ => rfl⟩)
  have H3 : Hid (∀ w : World, Calls Tryz.prog 84 #[.int .i64 D, .int .i64 2, .int .i64 ((p : Int) - 1)] w fun e w' => e = .returned (.bool true) ∧ Ext w w') := fun w => l1In_ext _ _ _ _ w (by simp; omega)
  obtain ⟨d, rfl⟩ := Int.eq_ofNat_of_zero_le (show 0 ≤ D by omega)
  rw [Int.toNat_natCast] at c4
  obtain ⟨x, he⟩ : ∃ x : Nat, x = (p - 1) / 2 := ⟨_, rfl⟩
  rw [← he] at c4
  have H4 : Hid (∀ w : World, Calls Tryz.prog 151 #[.int .i64 (d : Int), .int .i64 (x : Int), .int .i64 (p : Int)] w fun e w' => e = .returned (.int .i64 ((d ^ x % p : Nat) : Int)) ∧ Ext w w') := fun w => l2Pow_ext d x p w (by omega) (by omega) (by omega) (by omega)
  have hq : Int.tdiv ((p : Int) - 1) 2 = (x : Int) := by rw [Int.tdiv_eq_ediv_of_nonneg (by omega)]; omega
  have hq2 : ((p : Int) - 1) / 2 = (x : Int) := by omega
  obtain ⟨g, hg⟩ : ∃ g : Nat, g = d ^ x % p := ⟨_, rfl⟩
  rw [← hg] at H4 c4
  have hn : (((g : Nat) : Int) != (p : Int) - 1) = false := by simp; omega
  have hz0 : IntKind.i64.wrap ((p : Int) - 1) = (p : Int) - 1 := by rw [IntKind.wrap_i64]; omega
  have hz1 : wrap64 ((p : Int) - 1) = (p : Int) - 1 := by unfold wrap64; omega
  have hz2 : IntKind.i64.wrap (x : Int) = (x : Int) := by rw [IntKind.wrap_i64]; omega
  have hz3 : wrap64 (x : Int) = (x : Int) := by unfold wrap64; omega
  clear he hg c4
  have H5 : Hid (∀ w : World, Calls Tryz.prog 84 #[.int .i64 (l : Int), .int .i64 5, .int .i64 2097152] w fun e w' => e = .returned (.bool true) ∧ Ext w w') := fun w => l1In_ext _ _ _ _ w (by simp; omega)
  have H6 : Hid (∀ w : World, Calls Tryz.prog 202 #[.int .i64 (l : Int)] w fun e w' => e = .returned (.bool true) ∧ Ext w w') := fun w => prime_ext _ _ w (by omega) ⟨fun _ => ⟨by omega, by omega, c6⟩, fun _ => rfl⟩
  go_enter Tryz.func146, Tryz.ntmps146
  go_wp2
  have B1 := Blk.alloc w [.int .i64 (p : Int), .int .i64 (d : Int), .int .i64 (l : Int), .int .i64 bx, .int .i64 b'] 37
  have k0 := cell_regrown (B1 0 _ rfl).1
  have k1 := cell_regrown (B1 1 _ rfl).1
  have k2 := cell_regrown (B1 2 _ rfl).1
  have k3 := cell_regrown (B1 3 _ rfl).1
  have k4 := cell_regrown (B1 4 _ rfl).1
  clear B1
  refine wp_region_quiet_below (by kernel_rfl) (by kernel_rfl) ?_
  repeat (first | go_big_quiet_step (first | (go_at_call_of 84 (l); exact Calls.regrown_of (H5.out _)) | (go_at_call_of 84 (d); exact Calls.regrown_of (H3.out _)) | (go_at_call 84; exact Calls.regrown_of (H0.out _)) | (go_at_call_of 202 (l); exact Calls.regrown_of (H6.out _)) | (go_at_call 202; exact Calls.regrown_of (H2.out _)) | (go_at_call 151; exact Calls.regrown_of (H4.out _))) | quiet_step (first | (go_at_call_of 84 (l); exact Calls.regrown_of (H5.out _)) | (go_at_call_of 84 (d); exact Calls.regrown_of (H3.out _)) | (go_at_call 84; exact Calls.regrown_of (H0.out _)) | (go_at_call_of 202 (l); exact Calls.regrown_of (H6.out _)) | (go_at_call 202; exact Calls.regrown_of (H2.out _)) | (go_at_call 151; exact Calls.regrown_of (H4.out _))))
  refine wpQuiet_nil ?_
  intro _ hw'
  obtain ⟨⟨dq, osq⟩, hw''⟩ := hw'
  subst hw''
  clear k0 k1 k2 k3 k4
  have hW := below_regrown (w.alloc (.cells #[.int .i64 (p : Int), .int .i64 (d : Int), .int .i64 (l : Int), .int .i64 bx, .int .i64 b'] 37)) dq osq
  generalize Sort.grow (redrawn (w.alloc (.cells #[.int .i64 (p : Int), .int .i64 (d : Int), .int .i64 (l : Int), .int .i64 bx, .int .i64 b'] 37)) dq) osq = W1 at *
  obtain ⟨B1, hE, hz⟩ := box1 w [.int .i64 (p : Int), .int .i64 (d : Int), .int .i64 (l : Int), .int .i64 bx, .int .i64 b'] 37 hW
  clear hW
  have BA := B1.ext (Ext.alloc W1 (.cells #[.int .i64 bx, .int .i64 b'] 38)) (by omega)
  have k0 := (B1 0 _ rfl).1
  have k1 := (B1 1 _ rfl).1
  have k2 := (B1 2 _ rfl).1
  have k3 := (B1 3 _ rfl).1
  have k4 := (B1 4 _ rfl).1
  have j0 := (BA 0 _ rfl).1
  have j1 := (BA 1 _ rfl).1
  have j2 := (BA 2 _ rfl).1
  have j3 := (BA 3 _ rfl).1
  have j4 := (BA 4 _ rfl).1
  clear BA
  go_wp2_with fail
  clear j0 j1 j2 j3 j4
  refine (HO.out _).mono ?_
  rintro r w2 ⟨rfl, hw2⟩
  obtain ⟨B2, hE2, hz2⟩ := box1 W1 [.int .i64 bx, .int .i64 b'] 38 hw2
  replace B1 := B1.ext hE2 (by omega)
  replace hE := hE.trans hE2
  clear hw2 hE2 k0 k1 k2 k3 k4
  have k0 := (B1 0 _ rfl).1
  have k1 := (B1 1 _ rfl).1
  have k2 := (B1 2 _ rfl).1
  have k3 := (B1 3 _ rfl).1
  have k4 := (B1 4 _ rfl).1
  have g0 := (B2 0 _ rfl).1
  have g1 := (B2 1 _ rfl).1
  go_wp2_with fail
  refine (HM.out _).mono ?_
  rintro r w3 ⟨rfl, hw3⟩
  replace hE := hE.trans hw3
  clear hw3
  go_wp2
  go_ret
  exact ⟨rfl, hE⟩

set_option maxHeartbeats 1600000 in
theorem sPairOk_yes (P D L bx cy : Int) (a : Pr) (hE' : Hid (∀ W : World, Calls Tryz.prog 146 #[.agg #[.int .i64 P, .int .i64 D, .int .i64 L, .int .i64 bx, .int .i64 cy]] W fun e w' => e = .returned (.bool true) ∧ Ext W w')) (hO : Hid (∀ W : World, Calls Tryz.prog 147 #[.agg #[.int .i64 P, .int .i64 D, .int .i64 L, .int .i64 bx, .int .i64 cy], .agg #[.int .i64 a.x, .int .i64 a.y]] W fun e w' => e = .returned (.bool true) ∧ Ext W w')) (w : World) :
    Calls Tryz.prog 88 #[.agg #[.int .i64 P, .int .i64 D, .int .i64 L, .int .i64 bx, .int .i64 cy], .agg #[.int .i64 a.x, .int .i64 a.y]] w fun e w' => e = .returned (.bool true) ∧ Ext w w' := by
  go_enter Tryz.func88, Tryz.ntmps88
  go_wp2_with fail
  refine (hE'.out _).mono ?_
  rintro r w1 ⟨rfl, hw1⟩
  obtain ⟨B0, B1, hE, hz⟩ := box2 w [.int .i64 P, .int .i64 D, .int .i64 L, .int .i64 bx, .int .i64 cy] [.int .i64 a.x, .int .i64 a.y] 37 38 hw1
  clear hw1
  have k0 := (B0 0 _ rfl).1
  have k1 := (B0 1 _ rfl).1
  have k2 := (B0 2 _ rfl).1
  have k3 := (B0 3 _ rfl).1
  have k4 := (B0 4 _ rfl).1
  have f0 := (B1 0 _ rfl).1
  have f1 := (B1 1 _ rfl).1
  go_wp2_with fail
  refine (hO.out _).mono ?_
  rintro r w2 ⟨rfl, hw2⟩
  replace hE := hE.trans hw2
  clear hw2
  go_wp2
  go_ret
  exact ⟨rfl, hE⟩

set_option maxHeartbeats 1600000 in
theorem sPairOk_no1 (P D L bx cy : Int) (a : Pr) (hE' : Hid (∀ W : World, Calls Tryz.prog 146 #[.agg #[.int .i64 P, .int .i64 D, .int .i64 L, .int .i64 bx, .int .i64 cy]] W fun e w' => e = .returned (.bool false) ∧ Ext W w')) (w : World) :
    Calls Tryz.prog 88 #[.agg #[.int .i64 P, .int .i64 D, .int .i64 L, .int .i64 bx, .int .i64 cy], .agg #[.int .i64 a.x, .int .i64 a.y]] w fun e w' => e = .returned (.bool false) ∧ Ext w w' := by
  go_enter Tryz.func88, Tryz.ntmps88
  go_wp2_with fail
  refine (hE'.out _).mono ?_
  rintro r w1 ⟨rfl, hw1⟩
  obtain ⟨B0, B1, hE, hz⟩ := box2 w [.int .i64 P, .int .i64 D, .int .i64 L, .int .i64 bx, .int .i64 cy] [.int .i64 a.x, .int .i64 a.y] 37 38 hw1
  clear hw1
  have k0 := (B0 0 _ rfl).1
  have k1 := (B0 1 _ rfl).1
  have k2 := (B0 2 _ rfl).1
  have k3 := (B0 3 _ rfl).1
  have k4 := (B0 4 _ rfl).1
  have f0 := (B1 0 _ rfl).1
  have f1 := (B1 1 _ rfl).1
  go_wp2
  go_ret
  exact ⟨rfl, hE⟩

set_option maxHeartbeats 1600000 in
theorem sPairOk_no2 (P D L bx cy : Int) (a : Pr) (hE' : Hid (∀ W : World, Calls Tryz.prog 146 #[.agg #[.int .i64 P, .int .i64 D, .int .i64 L, .int .i64 bx, .int .i64 cy]] W fun e w' => e = .returned (.bool true) ∧ Ext W w')) (hO : Hid (∀ W : World, Calls Tryz.prog 147 #[.agg #[.int .i64 P, .int .i64 D, .int .i64 L, .int .i64 bx, .int .i64 cy], .agg #[.int .i64 a.x, .int .i64 a.y]] W fun e w' => e = .returned (.bool false) ∧ Ext W w')) (w : World) :
    Calls Tryz.prog 88 #[.agg #[.int .i64 P, .int .i64 D, .int .i64 L, .int .i64 bx, .int .i64 cy], .agg #[.int .i64 a.x, .int .i64 a.y]] w fun e w' => e = .returned (.bool false) ∧ Ext w w' := by
  go_enter Tryz.func88, Tryz.ntmps88
  go_wp2_with fail
  refine (hE'.out _).mono ?_
  rintro r w1 ⟨rfl, hw1⟩
  obtain ⟨B0, B1, hE, hz⟩ := box2 w [.int .i64 P, .int .i64 D, .int .i64 L, .int .i64 bx, .int .i64 cy] [.int .i64 a.x, .int .i64 a.y] 37 38 hw1
  clear hw1
  have k0 := (B0 0 _ rfl).1
  have k1 := (B0 1 _ rfl).1
  have k2 := (B0 2 _ rfl).1
  have k3 := (B0 3 _ rfl).1
  have k4 := (B0 4 _ rfl).1
  have f0 := (B1 0 _ rfl).1
  have f1 := (B1 1 _ rfl).1
  go_wp2_with fail
  refine (hO.out _).mono ?_
  rintro r w2 ⟨rfl, hw2⟩
  replace hE := hE.trans hw2
  clear hw2
  go_wp2
  go_ret
  exact ⟨rfl, hE⟩

theorem specEdOk_at (P D L bx cy : Int) (hP1 : P ≤ 9223372036854775807) (hL1 : L ≤ 9223372036854775807) (ok : Bool) (hk : ok = true ↔ EvOk P D L bx cy) (w : World) : Calls Tryz.prog 146 #[.agg #[.int .i64 P, .int .i64 D, .int .i64 L, .int .i64 bx, .int .i64 cy]] w fun r w' => r = .returned (.bool ok) ∧ Ext w w' := by
  have no : ¬ EvOk P D L bx cy → (∀ w : World, Calls Tryz.prog 146 #[.agg #[.int .i64 P, .int .i64 D, .int .i64 L, .int .i64 bx, .int .i64 cy]] w fun r w' => r = .returned (.bool false) ∧ Ext w w') → Calls Tryz.prog 146 #[.agg #[.int .i64 P, .int .i64 D, .int .i64 L, .int .i64 bx, .int .i64 cy]] w fun r w' => r = .returned (.bool ok) ∧ Ext w w' := fun h c => by
    have e : ok = false := by cases ok; rfl; exact absurd (hk.1 rfl) h
    rw [e]; exact c w
  by_cases c0 : 13 ≤ P ∧ P ≤ 1048576
  rotate_left
  · exact no (fun h => c0 ⟨h.p13, h.pM⟩) (specEdOk_no0 P D L bx cy hP1 hL1 c0)
  obtain ⟨p, rfl⟩ := Int.eq_ofNat_of_zero_le (show 0 ≤ P by omega)
  have a1 : (p : Int) ≤ 9223372036854775807 := by omega
  have a2 : 0 ≤ (p : Int) := by omega
  by_cases c1 : (p : Int) % 8 = 5
  rotate_left
  · exact no (fun h => c1 h.p8) (specEdOk_no1 p D L bx cy a1 a2 hL1 c0 c1)
  by_cases c2 : Prime p
  rotate_left
  · exact no (fun h => c2 (by simpa using h.pp)) (specEdOk_no2 p D L bx cy a1 a2 hL1 c0 c1 c2)
  by_cases c3 : 2 ≤ D ∧ D ≤ (p : Int) - 1
  rotate_left
  · exact no (fun h => c3 ⟨h.d2, h.d1⟩) (specEdOk_no3 p D L bx cy a1 a2 hL1 c0 c1 c2 c3)
  by_cases c4 : D.toNat ^ ((p - 1) / 2) % p = p - 1
  rotate_left
  · exact no (fun h => c4 (by simpa using h.pw)) (specEdOk_no4 p D L bx cy a1 a2 hL1 c0 c1 c2 c3 c4)
  by_cases c5 : 5 ≤ L ∧ L ≤ 2097152
  rotate_left
  · exact no (fun h => c5 ⟨h.l5, h.lM⟩) (specEdOk_no5 p D L bx cy a1 a2 hL1 c0 c1 c2 c3 c4 c5)
  by_cases c6 : Prime L.toNat
  rotate_left
  · exact no (fun h => c6 h.lp) (specEdOk_no6 p D L bx cy a1 a2 hL1 c0 c1 c2 c3 c4 c5 c6)
  by_cases ho : OnE p D ⟨bx, cy⟩
  rotate_left
  · exact no (fun h => ho (by simpa using h.on)) (specEdOk_off p D L bx cy a1 a2 hL1 c0 c1 c2 c3 c4 c5 c6 ho)
  by_cases hn : bx = 0 ∧ cy = 1
  · exact no (fun h => h.ne hn) (specEdOk_unit p D L bx cy a1 a2 hL1 c0 c1 c2 c3 c4 c5 c6 ho hn)
  by_cases hm : mulE p D L.toNat ⟨bx, cy⟩ = oneE
  rotate_left
  · exact no (fun h => hm (by simpa using h.fold)) (specEdOk_other p D L bx cy a1 a2 hL1 c0 c1 c2 c3 c4 c5 c6 ho hn hm)
  have e : ok = true := hk.2 ⟨c0.1, c0.2, c1, by simpa using c2, c3.1, c3.2, by simpa using c4, c5.1, c5.2, c6, by simpa using ho, hn, by simpa using hm⟩
  rw [e]
  exact specEdOk_yes p D L bx cy a1 a2 hL1 c0 c1 c2 c3 c4 c5 c6 ho hn hm w

theorem l4On_ok {P D L bx cy : Int} (h : EvOk P D L bx cy) (a : Pr) (ok : Bool) (hk : ok = true ↔ OnE P.toNat D a) (w : World) : Calls Tryz.prog 147 #[.agg #[.int .i64 P, .int .i64 D, .int .i64 L, .int .i64 bx, .int .i64 cy], .agg #[.int .i64 a.x, .int .i64 a.y]] w fun r w' => r = .returned (.bool ok) ∧ Ext w w' := by
  have h13 := h.p13; have hM := h.pM; have h2 := h.d2; have h1 := h.d1
  have := l4On_at P.toNat D L bx cy a ok hk (by omega) (by omega) (by omega) (by omega) w
  rwa [h.nat] at this

theorem specPairOk_at (P D L bx cy : Int) (a : Pr) (hP1 : P ≤ 9223372036854775807) (hL1 : L ≤ 9223372036854775807) (ok : Bool) (hk : ok = true ↔ EvOk P D L bx cy ∧ OnE P.toNat D a) (w : World) : Calls Tryz.prog 88 #[.agg #[.int .i64 P, .int .i64 D, .int .i64 L, .int .i64 bx, .int .i64 cy], .agg #[.int .i64 a.x, .int .i64 a.y]] w fun r w' => r = .returned (.bool ok) ∧ Ext w w' := by
  by_cases h : EvOk P D L bx cy
  · have hE := specEdOk_at P D L bx cy hP1 hL1 true ⟨fun _ => h, fun _ => rfl⟩
    by_cases ha : OnE P.toNat D a
    · rw [hk.2 ⟨h, ha⟩]
      exact sPairOk_yes P D L bx cy a hE (l4On_ok h a true ⟨fun _ => ha, fun _ => rfl⟩) w
    · have e : ok = false := by cases ok; rfl; exact absurd (hk.1 rfl).2 ha
      rw [e]
      exact sPairOk_no2 P D L bx cy a hE (l4On_ok h a false ⟨fun k => by simp at k, fun k => absurd k ha⟩) w
  · have e : ok = false := by cases ok; rfl; exact absurd (hk.1 rfl).1 h
    rw [e]
    exact sPairOk_no1 P D L bx cy a (specEdOk_at P D L bx cy hP1 hL1 false ⟨fun k => by simp at k, fun k => absurd k h⟩) w

theorem l4Mul_ok {P D L bx cy : Int} (h : EvOk P D L bx cy) {a : Pr} (ha : OnE P.toNat D a) {n : Int} (n0 : 0 ≤ n) (n1 : n ≤ 1099511627776) (w : World) : Calls Tryz.prog 100 #[.agg #[.int .i64 P, .int .i64 D, .int .i64 L, .int .i64 bx, .int .i64 cy], .int .i64 n, .agg #[.int .i64 a.x, .int .i64 a.y]] w fun r w' => r = .returned (.agg #[.int .i64 (mulE P.toNat D n.toNat a).x, .int .i64 (mulE P.toNat D n.toNat a).y]) ∧ Ext w w' := by
  have h13 := h.p13; have hM := h.pM; have h2 := h.d2; have h1 := h.d1
  have := l4Mul_any P.toNat D L bx cy n.toNat a w h.pp (by omega) (by omega) (by omega) (by omega) ha.inE (by omega)
  rwa [h.nat, show ((n.toNat : Nat) : Int) = n by omega] at this

theorem l4Add_ok {P D L bx cy : Int} (h : EvOk P D L bx cy) {a b : Pr} (ha : OnE P.toNat D a) (hb : OnE P.toNat D b) (w : World) : Calls Tryz.prog 101 #[.agg #[.int .i64 P, .int .i64 D, .int .i64 L, .int .i64 bx, .int .i64 cy], .agg #[.int .i64 a.x, .int .i64 a.y], .agg #[.int .i64 b.x, .int .i64 b.y]] w fun r w' => r = .returned (.agg #[.int .i64 (addE P.toNat D a b).x, .int .i64 (addE P.toNat D a b).y]) ∧ Ext w w' := by
  have h13 := h.p13; have hM := h.pM; have h2 := h.d2; have h1 := h.d1
  have := l4Add_any P.toNat D L bx cy a b w h.pp (by omega) (by omega) (by omega) (by omega) ha.inE hb.inE
  rwa [h.nat] at this

def AddE (P D L bx cy : Int) (a b : Pr) : Prop := EvOk P D L bx cy ∧ OnE P.toNat D a ∧ OnE P.toNat D b

def MulEQ (P D L bx cy n : Int) (a : Pr) : Prop := (EvOk P D L bx cy ∧ OnE P.toNat D a) ∧ 0 ≤ n ∧ n ≤ 1099511627776

end Go.Proofs.YtdaneanloknkpacGreatDoor
