/- Walks: the model's EdOk. -/
import Derived.Test.YtfhiiakoilkbkaaGreatDoorCv10
import Derived.Test.YtfhiiakoilkbkaaGreatDoorCv17
namespace Go.Proofs.YtfhiiakoilkbkaaGreatDoor
set_option linter.unusedVariables false
set_option linter.unusedSimpArgs false
open Go.RowKit
theorem l1In_ext (x a b : Int) (ok : Bool) (w : World) (h : (decide (a ≤ x) && decide (x ≤ b)) = ok) : Calls Tryz.prog 23 #[.int .i64 x, .int .i64 a, .int .i64 b] w fun e w' => e = .returned (.bool ok) ∧ Ext w w' :=
 (l1In_int x a b w).mono fun r w' k => ⟨by rw [k.1, h], k.2 ▸ Ext.refl _⟩
theorem prime_ext (n : Int) (ok : Bool) (w : World) (h1 : n ≤ 9223372036854775807) (h : ok = true ↔ 2 ≤ n ∧ n ≤ 1099511627776 ∧ Prime n.toNat) : Calls Tryz.prog 141 #[.int .i64 n] w fun e w' => e = .returned (.bool ok) ∧ Ext w w' :=
 (specPrimeInt_any n w h1).mono fun r w' k => by
  obtain ⟨⟨b, rfl, hb⟩, rfl⟩ := k
  exact ⟨by rw [show b = ok by rw [Bool.eq_iff_iff, hb, h]], Ext.refl _⟩
theorem l2Pow_ext (a e m : Nat) (w : World) (ha : a ≤ 9223372036854775807) (he : e ≤ 9223372036854775807) (hm0 : 0 < m) (hm : m ≤ 1073741824) :
  Calls Tryz.prog 144 #[.int .i64 a, .int .i64 e, .int .i64 m] w fun r w' => r = .returned (.int .i64 ((a ^ e % m : Nat) : Int)) ∧ Ext w w' :=
 (l2Pow_any a e m w ha he hm0 hm).mono fun r w' k => ⟨k.1, k.2.below _⟩
set_option maxHeartbeats 3200000 in
set_option maxRecDepth 100000 in
theorem specEdOk_no0 (P D L bx b' : Int) (hp : P ≤ 9223372036854775807) (hL : L ≤ 9223372036854775807)  (c0 : ¬ (13 ≤ P ∧ P ≤ 1048576)) (w : World) :
  Calls Tryz.prog 120 #[.agg #[.int .i64 P, .int .i64 D, .int .i64 L, .int .i64 bx, .int .i64 b']] w fun r w' => r = .returned (.bool false) ∧ Ext w w' := by
 have H0 : Hid (∀ w : World, Calls Tryz.prog 23 #[.int .i64 P, .int .i64 13, .int .i64 1048576] w fun e w' => e = .returned (.bool false) ∧ Ext w w') := fun w => l1In_ext _ _ _ _ w (by simp; omega)
 go_enter Tryz.func120, Tryz.ntmps120
 go_wp2
 have B1 := Blk.alloc w [.int .i64 P, .int .i64 D, .int .i64 L, .int .i64 bx, .int .i64 b'] 48
 have k0 := cell_regrown (B1 0 _ rfl).1
 have k1 := cell_regrown (B1 1 _ rfl).1
 have k2 := cell_regrown (B1 2 _ rfl).1
 have k3 := cell_regrown (B1 3 _ rfl).1
 have k4 := cell_regrown (B1 4 _ rfl).1
 clear B1
 refine wp_region_quiet_below (by kernel_rfl) (by kernel_rfl) ?_
 repeat (first | go_big_quiet_step (first | (go_at_call 23; exact Calls.regrown_of (H0.out _))) | quiet_step (first | (go_at_call 23; exact Calls.regrown_of (H0.out _))))
 refine wpQuiet_nil ?_
 intro _ hw'
 obtain ⟨⟨dq, osq⟩, hw''⟩ := hw'
 subst hw''
 clear k0 k1 k2 k3 k4
 go_wp2
 go_ret
 exact ⟨rfl, below_re (Ext.alloc _ _) (by simp <;> omega) _ _⟩
set_option maxHeartbeats 3200000 in
set_option maxRecDepth 100000 in
theorem specEdOk_no1 (p : Nat) (D L bx b' : Int) (hp : (p : Int) ≤ 9223372036854775807) (h0 : 0 ≤ (p : Int)) (hL : L ≤ 9223372036854775807) (c0 : 13 ≤ (p : Int) ∧ (p : Int) ≤ 1048576) (c1 : ¬ ((p : Int) % 8 = 5)) (w : World) :
  Calls Tryz.prog 120 #[.agg #[.int .i64 (p : Int), .int .i64 D, .int .i64 L, .int .i64 bx, .int .i64 b']] w fun r w' => r = .returned (.bool false) ∧ Ext w w' := by
 have H0 : Hid (∀ w : World, Calls Tryz.prog 23 #[.int .i64 (p : Int), .int .i64 13, .int .i64 1048576] w fun e w' => e = .returned (.bool true) ∧ Ext w w') := fun w => l1In_ext _ _ _ _ w (by simp; omega)
 obtain ⟨r8, hr8⟩ : ∃ r8, r8 = (p : Int) % 8 := ⟨_, rfl⟩
 have ht8 : Int.tmod (p : Int) 8 = r8 := by rw [Int.tmod_eq_emod_of_nonneg (by omega)]; exact hr8.symm
 have ht9 : (p : Int) % 8 = r8 := hr8.symm
 have hw8 : IntKind.i64.wrap r8 = r8 := by rw [IntKind.wrap_i64]; omega
 have hw9 : wrap64 r8 = r8 := by unfold wrap64; omega
 have hb : (r8 != 5) = true := by simp; omega
 clear hr8
 go_enter Tryz.func120, Tryz.ntmps120
 go_wp2
 have B1 := Blk.alloc w [.int .i64 (p : Int), .int .i64 D, .int .i64 L, .int .i64 bx, .int .i64 b'] 48
 have k0 := cell_regrown (B1 0 _ rfl).1
 have k1 := cell_regrown (B1 1 _ rfl).1
 have k2 := cell_regrown (B1 2 _ rfl).1
 have k3 := cell_regrown (B1 3 _ rfl).1
 have k4 := cell_regrown (B1 4 _ rfl).1
 clear B1
 refine wp_region_quiet_below (by kernel_rfl) (by kernel_rfl) ?_
 repeat (first | go_big_quiet_step (first | (go_at_call 23; exact Calls.regrown_of (H0.out _))) | quiet_step (first | (go_at_call 23; exact Calls.regrown_of (H0.out _))))
 refine wpQuiet_nil ?_
 intro _ hw'
 obtain ⟨⟨dq, osq⟩, hw''⟩ := hw'
 subst hw''
 clear k0 k1 k2 k3 k4
 go_wp2
 go_ret
 exact ⟨rfl, below_re (Ext.alloc _ _) (by simp <;> omega) _ _⟩
set_option maxHeartbeats 3200000 in
set_option maxRecDepth 100000 in
theorem specEdOk_no2 (p : Nat) (D L bx b' : Int) (hp : (p : Int) ≤ 9223372036854775807) (h0 : 0 ≤ (p : Int)) (hL : L ≤ 9223372036854775807) (c0 : 13 ≤ (p : Int) ∧ (p : Int) ≤ 1048576) (c1 : (p : Int) % 8 = 5) (c2 : ¬ (Prime p)) (w : World) :
  Calls Tryz.prog 120 #[.agg #[.int .i64 (p : Int), .int .i64 D, .int .i64 L, .int .i64 bx, .int .i64 b']] w fun r w' => r = .returned (.bool false) ∧ Ext w w' := by
 have H0 : Hid (∀ w : World, Calls Tryz.prog 23 #[.int .i64 (p : Int), .int .i64 13, .int .i64 1048576] w fun e w' => e = .returned (.bool true) ∧ Ext w w') := fun w => l1In_ext _ _ _ _ w (by simp; omega)
 obtain ⟨r8, hr8⟩ : ∃ r8, r8 = (p : Int) % 8 := ⟨_, rfl⟩
 have ht8 : Int.tmod (p : Int) 8 = r8 := by rw [Int.tmod_eq_emod_of_nonneg (by omega)]; exact hr8.symm
 have ht9 : (p : Int) % 8 = r8 := hr8.symm
 have hw8 : IntKind.i64.wrap r8 = r8 := by rw [IntKind.wrap_i64]; omega
 have hw9 : wrap64 r8 = r8 := by unfold wrap64; omega
 have hb : (r8 != 5) = false := by simp; omega
 clear hr8
 have H2 : Hid (∀ w : World, Calls Tryz.prog 141 #[.int .i64 (p : Int)] w fun e w' => e = .returned (.bool false) ∧ Ext w w') := fun w => prime_ext _ _ w (by omega) (by rw [Int.toNat_natCast]; exact ⟨fun k => by simp at k, fun k => absurd k.2.2 c2⟩)
 go_enter Tryz.func120, Tryz.ntmps120
 go_wp2
 have B1 := Blk.alloc w [.int .i64 (p : Int), .int .i64 D, .int .i64 L, .int .i64 bx, .int .i64 b'] 48
 have k0 := cell_regrown (B1 0 _ rfl).1
 have k1 := cell_regrown (B1 1 _ rfl).1
 have k2 := cell_regrown (B1 2 _ rfl).1
 have k3 := cell_regrown (B1 3 _ rfl).1
 have k4 := cell_regrown (B1 4 _ rfl).1
 clear B1
 refine wp_region_quiet_below (by kernel_rfl) (by kernel_rfl) ?_
 repeat (first | go_big_quiet_step (first | (go_at_call 23; exact Calls.regrown_of (H0.out _)) | (go_at_call 141; exact Calls.regrown_of (H2.out _))) | quiet_step (first | (go_at_call 23; exact Calls.regrown_of (H0.out _)) | (go_at_call 141; exact Calls.regrown_of (H2.out _))))
 refine wpQuiet_nil ?_
 intro _ hw'
 obtain ⟨⟨dq, osq⟩, hw''⟩ := hw'
 subst hw''
 clear k0 k1 k2 k3 k4
 go_wp2
 go_ret
 exact ⟨rfl, below_re (Ext.alloc _ _) (by simp <;> omega) _ _⟩
set_option maxHeartbeats 3200000 in
set_option maxRecDepth 100000 in
theorem specEdOk_no3 (p : Nat) (D L bx b' : Int) (hp : (p : Int) ≤ 9223372036854775807) (h0 : 0 ≤ (p : Int)) (hL : L ≤ 9223372036854775807) (c0 : 13 ≤ (p : Int) ∧ (p : Int) ≤ 1048576) (c1 : (p : Int) % 8 = 5) (c2 : Prime p) (c3 : ¬ (2 ≤ D ∧ D ≤ (p : Int) - 1)) (w : World) :
  Calls Tryz.prog 120 #[.agg #[.int .i64 (p : Int), .int .i64 D, .int .i64 L, .int .i64 bx, .int .i64 b']] w fun r w' => r = .returned (.bool false) ∧ Ext w w' := by
 have H0 : Hid (∀ w : World, Calls Tryz.prog 23 #[.int .i64 (p : Int), .int .i64 13, .int .i64 1048576] w fun e w' => e = .returned (.bool true) ∧ Ext w w') := fun w => l1In_ext _ _ _ _ w (by simp; omega)
 obtain ⟨r8, hr8⟩ : ∃ r8, r8 = (p : Int) % 8 := ⟨_, rfl⟩
 have ht8 : Int.tmod (p : Int) 8 = r8 := by rw [Int.tmod_eq_emod_of_nonneg (by omega)]; exact hr8.symm
 have ht9 : (p : Int) % 8 = r8 := hr8.symm
 have hw8 : IntKind.i64.wrap r8 = r8 := by rw [IntKind.wrap_i64]; omega
 have hw9 : wrap64 r8 = r8 := by unfold wrap64; omega
 have hb : (r8 != 5) = false := by simp; omega
 clear hr8
 have H2 : Hid (∀ w : World, Calls Tryz.prog 141 #[.int .i64 (p : Int)] w fun e w' => e = .returned (.bool true) ∧ Ext w w') := fun w => prime_ext _ _ w (by omega) (by rw [Int.toNat_natCast]; exact ⟨fun _ => ⟨by omega, by omega, c2⟩, fun _ => rfl⟩)
 have H3 : Hid (∀ w : World, Calls Tryz.prog 23 #[.int .i64 D, .int .i64 2, .int .i64 ((p : Int) - 1)] w fun e w' => e = .returned (.bool false) ∧ Ext w w') := fun w => l1In_ext _ _ _ _ w (by simp; omega)
 have hz0 : IntKind.i64.wrap ((p : Int) - 1) = (p : Int) - 1 := by rw [IntKind.wrap_i64]; omega
 have hz1 : wrap64 ((p : Int) - 1) = (p : Int) - 1 := by unfold wrap64; omega
 go_enter Tryz.func120, Tryz.ntmps120
 go_wp2
 have B1 := Blk.alloc w [.int .i64 (p : Int), .int .i64 D, .int .i64 L, .int .i64 bx, .int .i64 b'] 48
 have k0 := cell_regrown (B1 0 _ rfl).1
 have k1 := cell_regrown (B1 1 _ rfl).1
 have k2 := cell_regrown (B1 2 _ rfl).1
 have k3 := cell_regrown (B1 3 _ rfl).1
 have k4 := cell_regrown (B1 4 _ rfl).1
 clear B1
 refine wp_region_quiet_below (by kernel_rfl) (by kernel_rfl) ?_
 repeat (first | go_big_quiet_step (first | (go_at_call_of 23 (D); exact Calls.regrown_of (H3.out _)) | (go_at_call 23; exact Calls.regrown_of (H0.out _)) | (go_at_call 141; exact Calls.regrown_of (H2.out _))) | quiet_step (first | (go_at_call_of 23 (D); exact Calls.regrown_of (H3.out _)) | (go_at_call 23; exact Calls.regrown_of (H0.out _)) | (go_at_call 141; exact Calls.regrown_of (H2.out _))))
 refine wpQuiet_nil ?_
 intro _ hw'
 obtain ⟨⟨dq, osq⟩, hw''⟩ := hw'
 subst hw''
 clear k0 k1 k2 k3 k4
 go_wp2
 go_ret
 exact ⟨rfl, below_re (Ext.alloc _ _) (by simp <;> omega) _ _⟩
set_option maxHeartbeats 3200000 in
set_option maxRecDepth 100000 in
theorem specEdOk_no4 (p : Nat) (D L bx b' : Int) (hp : (p : Int) ≤ 9223372036854775807) (h0 : 0 ≤ (p : Int)) (hL : L ≤ 9223372036854775807) (c0 : 13 ≤ (p : Int) ∧ (p : Int) ≤ 1048576) (c1 : (p : Int) % 8 = 5) (c2 : Prime p) (c3 : 2 ≤ D ∧ D ≤ (p : Int) - 1) (c4 : ¬ (D.toNat ^ ((p - 1) / 2) % p = p - 1)) (w : World) :
  Calls Tryz.prog 120 #[.agg #[.int .i64 (p : Int), .int .i64 D, .int .i64 L, .int .i64 bx, .int .i64 b']] w fun r w' => r = .returned (.bool false) ∧ Ext w w' := by
 have H0 : Hid (∀ w : World, Calls Tryz.prog 23 #[.int .i64 (p : Int), .int .i64 13, .int .i64 1048576] w fun e w' => e = .returned (.bool true) ∧ Ext w w') := fun w => l1In_ext _ _ _ _ w (by simp; omega)
 obtain ⟨r8, hr8⟩ : ∃ r8, r8 = (p : Int) % 8 := ⟨_, rfl⟩
 have ht8 : Int.tmod (p : Int) 8 = r8 := by rw [Int.tmod_eq_emod_of_nonneg (by omega)]; exact hr8.symm
 have ht9 : (p : Int) % 8 = r8 := hr8.symm
 have hw8 : IntKind.i64.wrap r8 = r8 := by rw [IntKind.wrap_i64]; omega
 have hw9 : wrap64 r8 = r8 := by unfold wrap64; omega
 have hb : (r8 != 5) = false := by simp; omega
 clear hr8
 have H2 : Hid (∀ w : World, Calls Tryz.prog 141 #[.int .i64 (p : Int)] w fun e w' => e = .returned (.bool true) ∧ Ext w w') := fun w => prime_ext _ _ w (by omega) (by rw [Int.toNat_natCast]; exact ⟨fun _ => ⟨by omega, by omega, c2⟩, fun _ => rfl⟩)
 have H3 : Hid (∀ w : World, Calls Tryz.prog 23 #[.int .i64 D, .int .i64 2, .int .i64 ((p : Int) - 1)] w fun e w' => e = .returned (.bool true) ∧ Ext w w') := fun w => l1In_ext _ _ _ _ w (by simp; omega)
 obtain ⟨d, rfl⟩ := Int.eq_ofNat_of_zero_le (show 0 ≤ D by omega)
 rw [Int.toNat_natCast] at c4
 obtain ⟨x, he⟩ : ∃ x : Nat, x = (p - 1) / 2 := ⟨_, rfl⟩
 rw [← he] at c4
 have H4 : Hid (∀ w : World, Calls Tryz.prog 144 #[.int .i64 (d : Int), .int .i64 (x : Int), .int .i64 (p : Int)] w fun e w' => e = .returned (.int .i64 ((d ^ x % p : Nat) : Int)) ∧ Ext w w') := fun w => l2Pow_ext d x p w (by omega) (by omega) (by omega) (by omega)
 have hq : Int.tdiv ((p : Int) - 1) 2 = (x : Int) := by rw [Int.tdiv_eq_ediv_of_nonneg (by omega)]; omega
 have hq2 : ((p : Int) - 1) / 2 = (x : Int) := by omega
 obtain ⟨g, hg⟩ : ∃ g : Nat, g = d ^ x % p := ⟨_, rfl⟩
 rw [← hg] at H4 c4
 have hn : (((g : Nat) : Int) != (p : Int) - 1) = true := by simp; omega
 have hz0 : IntKind.i64.wrap ((p : Int) - 1) = (p : Int) - 1 := by rw [IntKind.wrap_i64]; omega
 have hz1 : wrap64 ((p : Int) - 1) = (p : Int) - 1 := by unfold wrap64; omega
 have hz2 : IntKind.i64.wrap (x : Int) = (x : Int) := by rw [IntKind.wrap_i64]; omega
 have hz3 : wrap64 (x : Int) = (x : Int) := by unfold wrap64; omega
 clear he hg c4
 go_enter Tryz.func120, Tryz.ntmps120
 go_wp2
 have B1 := Blk.alloc w [.int .i64 (p : Int), .int .i64 (d : Int), .int .i64 L, .int .i64 bx, .int .i64 b'] 48
 have k0 := cell_regrown (B1 0 _ rfl).1
 have k1 := cell_regrown (B1 1 _ rfl).1
 have k2 := cell_regrown (B1 2 _ rfl).1
 have k3 := cell_regrown (B1 3 _ rfl).1
 have k4 := cell_regrown (B1 4 _ rfl).1
 clear B1
 refine wp_region_quiet_below (by kernel_rfl) (by kernel_rfl) ?_
 repeat (first | go_big_quiet_step (first | (go_at_call_of 23 (d); exact Calls.regrown_of (H3.out _)) | (go_at_call 23; exact Calls.regrown_of (H0.out _)) | (go_at_call 141; exact Calls.regrown_of (H2.out _)) | (go_at_call 144; exact Calls.regrown_of (H4.out _))) | quiet_step (first | (go_at_call_of 23 (d); exact Calls.regrown_of (H3.out _)) | (go_at_call 23; exact Calls.regrown_of (H0.out _)) | (go_at_call 141; exact Calls.regrown_of (H2.out _)) | (go_at_call 144; exact Calls.regrown_of (H4.out _))))
 refine wpQuiet_nil ?_
 intro _ hw'
 obtain ⟨⟨dq, osq⟩, hw''⟩ := hw'
 subst hw''
 clear k0 k1 k2 k3 k4
 go_wp2
 go_ret
 exact ⟨rfl, below_re (Ext.alloc _ _) (by simp <;> omega) _ _⟩
set_option maxHeartbeats 3200000 in
set_option maxRecDepth 100000 in
theorem specEdOk_no5 (p : Nat) (D L bx b' : Int) (hp : (p : Int) ≤ 9223372036854775807) (h0 : 0 ≤ (p : Int)) (hL : L ≤ 9223372036854775807) (c0 : 13 ≤ (p : Int) ∧ (p : Int) ≤ 1048576) (c1 : (p : Int) % 8 = 5) (c2 : Prime p) (c3 : 2 ≤ D ∧ D ≤ (p : Int) - 1) (c4 : D.toNat ^ ((p - 1) / 2) % p = p - 1) (c5 : ¬ (5 ≤ L ∧ L ≤ 2097152)) (w : World) :
  Calls Tryz.prog 120 #[.agg #[.int .i64 (p : Int), .int .i64 D, .int .i64 L, .int .i64 bx, .int .i64 b']] w fun r w' => r = .returned (.bool false) ∧ Ext w w' := by
 have H0 : Hid (∀ w : World, Calls Tryz.prog 23 #[.int .i64 (p : Int), .int .i64 13, .int .i64 1048576] w fun e w' => e = .returned (.bool true) ∧ Ext w w') := fun w => l1In_ext _ _ _ _ w (by simp; omega)
 obtain ⟨r8, hr8⟩ : ∃ r8, r8 = (p : Int) % 8 := ⟨_, rfl⟩
 have ht8 : Int.tmod (p : Int) 8 = r8 := by rw [Int.tmod_eq_emod_of_nonneg (by omega)]; exact hr8.symm
 have ht9 : (p : Int) % 8 = r8 := hr8.symm
 have hw8 : IntKind.i64.wrap r8 = r8 := by rw [IntKind.wrap_i64]; omega
 have hw9 : wrap64 r8 = r8 := by unfold wrap64; omega
 have hb : (r8 != 5) = false := by simp; omega
 clear hr8
 have H2 : Hid (∀ w : World, Calls Tryz.prog 141 #[.int .i64 (p : Int)] w fun e w' => e = .returned (.bool true) ∧ Ext w w') := fun w => prime_ext _ _ w (by omega) (by rw [Int.toNat_natCast]; exact ⟨fun _ => ⟨by omega, by omega, c2⟩, fun _ => rfl⟩)
 have H3 : Hid (∀ w : World, Calls Tryz.prog 23 #[.int .i64 D, .int .i64 2, .int .i64 ((p : Int) - 1)] w fun e w' => e = .returned (.bool true) ∧ Ext w w') := fun w => l1In_ext _ _ _ _ w (by simp; omega)
 obtain ⟨d, rfl⟩ := Int.eq_ofNat_of_zero_le (show 0 ≤ D by omega)
 rw [Int.toNat_natCast] at c4
 obtain ⟨x, he⟩ : ∃ x : Nat, x = (p - 1) / 2 := ⟨_, rfl⟩
 rw [← he] at c4
 have H4 : Hid (∀ w : World, Calls Tryz.prog 144 #[.int .i64 (d : Int), .int .i64 (x : Int), .int .i64 (p : Int)] w fun e w' => e = .returned (.int .i64 ((d ^ x % p : Nat) : Int)) ∧ Ext w w') := fun w => l2Pow_ext d x p w (by omega) (by omega) (by omega) (by omega)
 have hq : Int.tdiv ((p : Int) - 1) 2 = (x : Int) := by rw [Int.tdiv_eq_ediv_of_nonneg (by omega)]; omega
 have hq2 : ((p : Int) - 1) / 2 = (x : Int) := by omega
 obtain ⟨g, hg⟩ : ∃ g : Nat, g = d ^ x % p := ⟨_, rfl⟩
 rw [← hg] at H4 c4
 have hn : (((g : Nat) : Int) != (p : Int) - 1) = false := by simp; omega
 have hz0 : IntKind.i64.wrap ((p : Int) - 1) = (p : Int) - 1 := by rw [IntKind.wrap_i64]; omega
 have hz1 : wrap64 ((p : Int) - 1) = (p : Int) - 1 := by unfold wrap64; omega
 have hz2 : IntKind.i64.wrap (x : Int) = (x : Int) := by rw [IntKind.wrap_i64]; omega
 have hz3 : wrap64 (x : Int) = (x : Int) := by unfold wrap64; omega
 clear he hg c4
 have H5 : Hid (∀ w : World, Calls Tryz.prog 23 #[.int .i64 L, .int .i64 5, .int .i64 2097152] w fun e w' => e = .returned (.bool false) ∧ Ext w w') := fun w => l1In_ext _ _ _ _ w (by simp; omega)
 go_enter Tryz.func120, Tryz.ntmps120
 go_wp2
 have B1 := Blk.alloc w [.int .i64 (p : Int), .int .i64 (d : Int), .int .i64 L, .int .i64 bx, .int .i64 b'] 48
 have k0 := cell_regrown (B1 0 _ rfl).1
 have k1 := cell_regrown (B1 1 _ rfl).1
 have k2 := cell_regrown (B1 2 _ rfl).1
 have k3 := cell_regrown (B1 3 _ rfl).1
 have k4 := cell_regrown (B1 4 _ rfl).1
 clear B1
 refine wp_region_quiet_below (by kernel_rfl) (by kernel_rfl) ?_
 repeat (first | go_big_quiet_step (first | (go_at_call_of 23 (L); exact Calls.regrown_of (H5.out _)) | (go_at_call_of 23 (d); exact Calls.regrown_of (H3.out _)) | (go_at_call 23; exact Calls.regrown_of (H0.out _)) | (go_at_call 141; exact Calls.regrown_of (H2.out _)) | (go_at_call 144; exact Calls.regrown_of (H4.out _))) | quiet_step (first | (go_at_call_of 23 (L); exact Calls.regrown_of (H5.out _)) | (go_at_call_of 23 (d); exact Calls.regrown_of (H3.out _)) | (go_at_call 23; exact Calls.regrown_of (H0.out _)) | (go_at_call 141; exact Calls.regrown_of (H2.out _)) | (go_at_call 144; exact Calls.regrown_of (H4.out _))))
 refine wpQuiet_nil ?_
 intro _ hw'
 obtain ⟨⟨dq, osq⟩, hw''⟩ := hw'
 subst hw''
 clear k0 k1 k2 k3 k4
 go_wp2
 go_ret
 exact ⟨rfl, below_re (Ext.alloc _ _) (by simp <;> omega) _ _⟩
set_option maxHeartbeats 3200000 in
set_option maxRecDepth 100000 in
theorem specEdOk_no6 (p : Nat) (D L bx b' : Int) (hp : (p : Int) ≤ 9223372036854775807) (h0 : 0 ≤ (p : Int)) (hL : L ≤ 9223372036854775807) (c0 : 13 ≤ (p : Int) ∧ (p : Int) ≤ 1048576) (c1 : (p : Int) % 8 = 5) (c2 : Prime p) (c3 : 2 ≤ D ∧ D ≤ (p : Int) - 1) (c4 : D.toNat ^ ((p - 1) / 2) % p = p - 1) (c5 : 5 ≤ L ∧ L ≤ 2097152) (c6 : ¬ (Prime L.toNat)) (w : World) :
  Calls Tryz.prog 120 #[.agg #[.int .i64 (p : Int), .int .i64 D, .int .i64 L, .int .i64 bx, .int .i64 b']] w fun r w' => r = .returned (.bool false) ∧ Ext w w' := by
 have H0 : Hid (∀ w : World, Calls Tryz.prog 23 #[.int .i64 (p : Int), .int .i64 13, .int .i64 1048576] w fun e w' => e = .returned (.bool true) ∧ Ext w w') := fun w => l1In_ext _ _ _ _ w (by simp; omega)
 obtain ⟨r8, hr8⟩ : ∃ r8, r8 = (p : Int) % 8 := ⟨_, rfl⟩
 have ht8 : Int.tmod (p : Int) 8 = r8 := by rw [Int.tmod_eq_emod_of_nonneg (by omega)]; exact hr8.symm
 have ht9 : (p : Int) % 8 = r8 := hr8.symm
 have hw8 : IntKind.i64.wrap r8 = r8 := by rw [IntKind.wrap_i64]; omega
 have hw9 : wrap64 r8 = r8 := by unfold wrap64; omega
 have hb : (r8 != 5) = false := by simp; omega
 clear hr8
 have H2 : Hid (∀ w : World, Calls Tryz.prog 141 #[.int .i64 (p : Int)] w fun e w' => e = .returned (.bool true) ∧ Ext w w') := fun w => prime_ext _ _ w (by omega) (by rw [Int.toNat_natCast]; exact ⟨fun _ => ⟨by omega, by omega, c2⟩, fun _ => rfl⟩)
 have H3 : Hid (∀ w : World, Calls Tryz.prog 23 #[.int .i64 D, .int .i64 2, .int .i64 ((p : Int) - 1)] w fun e w' => e = .returned (.bool true) ∧ Ext w w') := fun w => l1In_ext _ _ _ _ w (by simp; omega)
 obtain ⟨d, rfl⟩ := Int.eq_ofNat_of_zero_le (show 0 ≤ D by omega)
 rw [Int.toNat_natCast] at c4
 obtain ⟨x, he⟩ : ∃ x : Nat, x = (p - 1) / 2 := ⟨_, rfl⟩
 rw [← he] at c4
 have H4 : Hid (∀ w : World, Calls Tryz.prog 144 #[.int .i64 (d : Int), .int .i64 (x : Int), .int .i64 (p : Int)] w fun e w' => e = .returned (.int .i64 ((d ^ x % p : Nat) : Int)) ∧ Ext w w') := fun w => l2Pow_ext d x p w (by omega) (by omega) (by omega) (by omega)
 have hq : Int.tdiv ((p : Int) - 1) 2 = (x : Int) := by rw [Int.tdiv_eq_ediv_of_nonneg (by omega)]; omega
 have hq2 : ((p : Int) - 1) / 2 = (x : Int) := by omega
 obtain ⟨g, hg⟩ : ∃ g : Nat, g = d ^ x % p := ⟨_, rfl⟩
 rw [← hg] at H4 c4
 have hn : (((g : Nat) : Int) != (p : Int) - 1) = false := by simp; omega
 have hz0 : IntKind.i64.wrap ((p : Int) - 1) = (p : Int) - 1 := by rw [IntKind.wrap_i64]; omega
 have hz1 : wrap64 ((p : Int) - 1) = (p : Int) - 1 := by unfold wrap64; omega
 have hz2 : IntKind.i64.wrap (x : Int) = (x : Int) := by rw [IntKind.wrap_i64]; omega
 have hz3 : wrap64 (x : Int) = (x : Int) := by unfold wrap64; omega
 clear he hg c4
 have H5 : Hid (∀ w : World, Calls Tryz.prog 23 #[.int .i64 L, .int .i64 5, .int .i64 2097152] w fun e w' => e = .returned (.bool true) ∧ Ext w w') := fun w => l1In_ext _ _ _ _ w (by simp; omega)
 have H6 : Hid (∀ w : World, Calls Tryz.prog 141 #[.int .i64 L] w fun e w' => e = .returned (.bool false) ∧ Ext w w') := fun w => prime_ext _ _ w (by omega) ⟨fun k => by simp at k, fun k => absurd k.2.2 c6⟩
 go_enter Tryz.func120, Tryz.ntmps120
 go_wp2
 have B1 := Blk.alloc w [.int .i64 (p : Int), .int .i64 (d : Int), .int .i64 L, .int .i64 bx, .int .i64 b'] 48
 have k0 := cell_regrown (B1 0 _ rfl).1
 have k1 := cell_regrown (B1 1 _ rfl).1
 have k2 := cell_regrown (B1 2 _ rfl).1
 have k3 := cell_regrown (B1 3 _ rfl).1
 have k4 := cell_regrown (B1 4 _ rfl).1
 clear B1
 refine wp_region_quiet_below (by kernel_rfl) (by kernel_rfl) ?_
 repeat (first | go_big_quiet_step (first | (go_at_call_of 23 (L); exact Calls.regrown_of (H5.out _)) | (go_at_call_of 23 (d); exact Calls.regrown_of (H3.out _)) | (go_at_call 23; exact Calls.regrown_of (H0.out _)) | (go_at_call_of 141 (L); exact Calls.regrown_of (H6.out _)) | (go_at_call 141; exact Calls.regrown_of (H2.out _)) | (go_at_call 144; exact Calls.regrown_of (H4.out _))) | quiet_step (first | (go_at_call_of 23 (L); exact Calls.regrown_of (H5.out _)) | (go_at_call_of 23 (d); exact Calls.regrown_of (H3.out _)) | (go_at_call 23; exact Calls.regrown_of (H0.out _)) | (go_at_call_of 141 (L); exact Calls.regrown_of (H6.out _)) | (go_at_call 141; exact Calls.regrown_of (H2.out _)) | (go_at_call 144; exact Calls.regrown_of (H4.out _))))
 refine wpQuiet_nil ?_
 intro _ hw'
 obtain ⟨⟨dq, osq⟩, hw''⟩ := hw'
 subst hw''
 clear k0 k1 k2 k3 k4
 go_wp2
 go_ret
 exact ⟨rfl, below_re (Ext.alloc _ _) (by simp <;> omega) _ _⟩
end Go.Proofs.YtfhiiakoilkbkaaGreatDoor
