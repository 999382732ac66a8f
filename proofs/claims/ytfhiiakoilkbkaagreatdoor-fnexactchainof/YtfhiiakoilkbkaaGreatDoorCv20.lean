/- Walks: the model's EdOk, its end. -/
import Derived.Test.YtfhiiakoilkbkaaGreatDoorCv18
import Derived.Test.YtfhiiakoilkbkaaGreatDoorCv19
namespace Go.Proofs.YtfhiiakoilkbkaaGreatDoor
set_option linter.unusedVariables false
set_option linter.unusedSimpArgs false
open Go.RowKit
theorem l4On_at (p : Nat) (D L bx b' : Int) (a : Pr) (ok : Bool) (hk : ok = true ↔ OnE p D a) (hp0 : 2 ≤ (p : Int)) (hp : (p : Int) ≤ 1048576) (hD0 : 0 ≤ D) (hD : D ≤ 1048576) (w : World) :
  Calls Tryz.prog 121 #[.agg #[.int .i64 (p : Int), .int .i64 D, .int .i64 L, .int .i64 bx, .int .i64 b'], .agg #[.int .i64 a.x, .int .i64 a.y]] w fun r w' => r = .returned (.bool ok) ∧ Ext w w' :=
 (l4On_any p D L bx b' a.x a.y w hp0 hp hD0 hD).mono fun r w' k => by
  obtain ⟨⟨b, rfl, hb⟩, hw⟩ := k
  rw [Int.toNat_natCast] at hb
  exact ⟨by rw [show b = ok by rw [Bool.eq_iff_iff, hb, hk]], hw⟩
set_option maxHeartbeats 3200000 in
set_option maxRecDepth 100000 in
theorem specEdOk_off (p : Nat) (D L bx b' : Int) (hp : (p : Int) ≤ 9223372036854775807) (h0 : 0 ≤ (p : Int)) (hL : L ≤ 9223372036854775807) (c0 : 13 ≤ (p : Int) ∧ (p : Int) ≤ 1048576) (c1 : (p : Int) % 8 = 5) (c2 : Prime p) (c3 : 2 ≤ D ∧ D ≤ (p : Int) - 1) (c4 : D.toNat ^ ((p - 1) / 2) % p = p - 1) (c5 : 5 ≤ L ∧ L ≤ 2097152) (c6 : Prime L.toNat) (ho : ¬ OnE p D ⟨bx, b'⟩) (w : World) :
  Calls Tryz.prog 120 #[.agg #[.int .i64 (p : Int), .int .i64 D, .int .i64 L, .int .i64 bx, .int .i64 b']] w fun r w' => r = .returned (.bool false) ∧ Ext w w' := by
 have HO : Hid (∀ w : World, Calls Tryz.prog 121 #[.agg #[.int .i64 (p : Int), .int .i64 D, .int .i64 L, .int .i64 bx, .int .i64 b'], .agg #[.int .i64 bx, .int .i64 b']] w fun e w' => e = .returned (.bool false) ∧ Ext w w') := fun w => l4On_at p D L bx b' ⟨bx, b'⟩ false ⟨fun k => by simp at k, fun k => absurd k ho⟩ (by omega) (by omega) (by omega) (by omega) w
 have H0 : Hid (∀ w : World, Calls Tryz.prog 23 #[.int .i64 (p : Int), .int .i64 13, .int .i64 1048576] w fun e w' => e = .returned (.bool true) ∧ Ext w w') := fun w => l1In_ext _ _ _ _ w (by simp; omega)
 obtain ⟨r8, hr8⟩ : ∃ r8, r8 = (p : Int) % 8 := ⟨_, rfl⟩
 have ht8 : Int.tmod (p : Int) 8 = r8 := by rw [Int.tmod_eq_emod_of_nonneg (by omega)]; exact hr8.symm
 have ht9 : (p : Int) % 8 = r8 := hr8.symm
 have hw8 : IntKind.i64.wrap r8 = r8 := by rw [IntKind.wrap_i64]; omega
 have hw9 : wrap64 r8 = r8 := by unfold wrap64; omega
 have hb : (r8 != 5) = false := by simp; omega
 clear hr8
 have H2 : Hid (∀ w : World, Calls Tryz.prog 141 #[.int .i64 (p : Int)] w fun e w' => e = .returned (.bool true) ∧ Ext w w') := fun w => prime_ext _ _ w (by omega) (by rw [Int.toNat_natCast]; exact ⟨fun _ => ⟨by omega, by omega, c2⟩, fun _ => rfl⟩)
 have H3 : Hid (∀ w : World, Calls Tryz.prog 23 #[.int .i64 D, .int .i64 2, .int .i64 ((p : Int) - 1)] w fun e w' => e = .returned (.bool true) ∧ Ext w w') := fun w => l1In_ext _ _ _ _ w (by simp; omega)
 obtain ⟨d, rfl⟩ := Int.eq_ofNat_of_zero_le (show 0 ≤ D by omega)
 rw [Int.toNat_natCast] at c4
 obtain ⟨x, he⟩ : ∃ x : Nat, x = (p - 1) / 2 := ⟨_, rfl⟩
 rw [← he] at c4
 have H4 : Hid (∀ w : World, Calls Tryz.prog 144 #[.int .i64 (d : Int), .int .i64 (x : Int), .int .i64 (p : Int)] w fun e w' => e = .returned (.int .i64 ((d ^ x % p : Nat) : Int)) ∧ Ext w w') := fun w => l2Pow_ext d x p w (by omega) (by omega) (by omega) (by omega)
 have hq : Int.tdiv ((p : Int) - 1) 2 = (x : Int) := by rw [Int.tdiv_eq_ediv_of_nonneg (by omega)]; omega
 have hq2 : ((p : Int) - 1) / 2 = (x : Int) := by omega
 obtain ⟨g, hg⟩ : ∃ g : Nat, g = d ^ x % p := ⟨_, rfl⟩
 rw [← hg] at H4 c4
 have hn : (((g : Nat) : Int) != (p : Int) - 1) = false := by simp; omega
 have hz0 : IntKind.i64.wrap ((p : Int) - 1) = (p : Int) - 1 := by rw [IntKind.wrap_i64]; omega
 have hz1 : wrap64 ((p : Int) - 1) = (p : Int) - 1 := by unfold wrap64; omega
 have hz2 : IntKind.i64.wrap (x : Int) = (x : Int) := by rw [IntKind.wrap_i64]; omega
 have hz3 : wrap64 (x : Int) = (x : Int) := by unfold wrap64; omega
 clear he hg c4
 have H5 : Hid (∀ w : World, Calls Tryz.prog 23 #[.int .i64 L, .int .i64 5, .int .i64 2097152] w fun e w' => e = .returned (.bool true) ∧ Ext w w') := fun w => l1In_ext _ _ _ _ w (by simp; omega)
 have H6 : Hid (∀ w : World, Calls Tryz.prog 141 #[.int .i64 L] w fun e w' => e = .returned (.bool true) ∧ Ext w w') := fun w => prime_ext _ _ w (by omega) ⟨fun _ => ⟨by omega, by omega, c6⟩, fun _ => rfl⟩
 go_enter Tryz.func120, Tryz.ntmps120
 go_wp2
 have B1 := Blk.alloc w [.int .i64 (p : Int), .int .i64 (d : Int), .int .i64 L, .int .i64 bx, .int .i64 b'] 48
 have k0 := cell_regrown (B1 0 _ rfl).1
 have k1 := cell_regrown (B1 1 _ rfl).1
 have k2 := cell_regrown (B1 2 _ rfl).1
 have k3 := cell_regrown (B1 3 _ rfl).1
 have k4 := cell_regrown (B1 4 _ rfl).1
 clear B1
 refine wp_region_quiet_below (by kernel_rfl) (by kernel_rfl) ?_
 repeat (first | go_big_quiet_step (first | (go_at_call_of 23 (L); exact Calls.regrown_of (H5.out _)) | (go_at_call_of 23 (d); exact Calls.regrown_of (H3.out _)) | (go_at_call 23; exact Calls.regrown_of (H0.out _)) | (go_at_call_of 141 (L); exact Calls.regrown_of (H6.out _)) | (go_at_call 141; exact Calls.regrown_of (H2.out _)) | (go_at_call 144; exact Calls.regrown_of (H4.out _))) | quiet_step (first | (go_at_call_of 23 (L); exact Calls.regrown_of (H5.out _)) | (go_at_call_of 23 (d); exact Calls.regrown_of (H3.out _)) | (go_at_call 23; exact Calls.regrown_of (H0.out _)) | (go_at_call_of 141 (L); exact Calls.regrown_of (H6.out _)) | (go_at_call 141; exact Calls.regrown_of (H2.out _)) | (go_at_call 144; exact Calls.regrown_of (H4.out _))))
 refine wpQuiet_nil ?_
 intro _ hw'
 obtain ⟨⟨dq, osq⟩, hw''⟩ := hw'
 subst hw''
 clear k0 k1 k2 k3 k4
 have hW := below_regrown (w.alloc (.cells #[.int .i64 (p : Int), .int .i64 (d : Int), .int .i64 L, .int .i64 bx, .int .i64 b'] 48)) dq osq
 generalize Sort.grow (redrawn (w.alloc (.cells #[.int .i64 (p : Int), .int .i64 (d : Int), .int .i64 L, .int .i64 bx, .int .i64 b'] 48)) dq) osq = W1 at *
 obtain ⟨B1, hE, hz⟩ := box1 w [.int .i64 (p : Int), .int .i64 (d : Int), .int .i64 L, .int .i64 bx, .int .i64 b'] 48 hW
 clear hW
 have BA := B1.ext (Ext.alloc W1 (.cells #[.int .i64 bx, .int .i64 b'] 49)) (by omega)
 have k0 := (B1 0 _ rfl).1
 have k1 := (B1 1 _ rfl).1
 have k2 := (B1 2 _ rfl).1
 have k3 := (B1 3 _ rfl).1
 have k4 := (B1 4 _ rfl).1
 have j0 := (BA 0 _ rfl).1
 have j1 := (BA 1 _ rfl).1
 have j2 := (BA 2 _ rfl).1
 have j3 := (BA 3 _ rfl).1
 have j4 := (BA 4 _ rfl).1
 clear BA
 go_wp2_with fail
 clear j0 j1 j2 j3 j4
 refine (HO.out _).mono ?_
 rintro r w2 ⟨rfl, hw2⟩
 obtain ⟨B2, hE2, hz2⟩ := box1 W1 [.int .i64 bx, .int .i64 b'] 49 hw2
 replace B1 := B1.ext hE2 (by omega)
 replace hE := hE.trans hE2
 clear hw2 hE2 k0 k1 k2 k3 k4
 have k0 := (B1 0 _ rfl).1
 have k1 := (B1 1 _ rfl).1
 have k2 := (B1 2 _ rfl).1
 have k3 := (B1 3 _ rfl).1
 have k4 := (B1 4 _ rfl).1
 have g0 := (B2 0 _ rfl).1
 have g1 := (B2 1 _ rfl).1
 go_wp2
 go_ret
 exact ⟨rfl, hE⟩
set_option maxHeartbeats 3200000 in
set_option maxRecDepth 100000 in
theorem specEdOk_unit (p : Nat) (D L bx b' : Int) (hp : (p : Int) ≤ 9223372036854775807) (h0 : 0 ≤ (p : Int)) (hL : L ≤ 9223372036854775807) (c0 : 13 ≤ (p : Int) ∧ (p : Int) ≤ 1048576) (c1 : (p : Int) % 8 = 5) (c2 : Prime p) (c3 : 2 ≤ D ∧ D ≤ (p : Int) - 1) (c4 : D.toNat ^ ((p - 1) / 2) % p = p - 1) (c5 : 5 ≤ L ∧ L ≤ 2097152) (c6 : Prime L.toNat) (ho : OnE p D ⟨bx, b'⟩) (hn' : bx = 0 ∧ b' = 1) (w : World) :
  Calls Tryz.prog 120 #[.agg #[.int .i64 (p : Int), .int .i64 D, .int .i64 L, .int .i64 bx, .int .i64 b']] w fun r w' => r = .returned (.bool false) ∧ Ext w w' := by
 have HO : Hid (∀ w : World, Calls Tryz.prog 121 #[.agg #[.int .i64 (p : Int), .int .i64 D, .int .i64 L, .int .i64 bx, .int .i64 b'], .agg #[.int .i64 bx, .int .i64 b']] w fun e w' => e = .returned (.bool true) ∧ Ext w w') := fun w => l4On_at p D L bx b' ⟨bx, b'⟩ true ⟨fun _ => ho, fun _ => rfl⟩ (by omega) (by omega) (by omega) (by omega) w
 have v1 := nePr_no hn'
 clear hn'
 have H0 : Hid (∀ w : World, Calls Tryz.prog 23 #[.int .i64 (p : Int), .int .i64 13, .int .i64 1048576] w fun e w' => e = .returned (.bool true) ∧ Ext w w') := fun w => l1In_ext _ _ _ _ w (by simp; omega)
 obtain ⟨r8, hr8⟩ : ∃ r8, r8 = (p : Int) % 8 := ⟨_, rfl⟩
 have ht8 : Int.tmod (p : Int) 8 = r8 := by rw [Int.tmod_eq_emod_of_nonneg (by omega)]; exact hr8.symm
 have ht9 : (p : Int) % 8 = r8 := hr8.symm
 have hw8 : IntKind.i64.wrap r8 = r8 := by rw [IntKind.wrap_i64]; omega
 have hw9 : wrap64 r8 = r8 := by unfold wrap64; omega
 have hb : (r8 != 5) = false := by simp; omega
 clear hr8
 have H2 : Hid (∀ w : World, Calls Tryz.prog 141 #[.int .i64 (p : Int)] w fun e w' => e = .returned (.bool true) ∧ Ext w w') := fun w => prime_ext _ _ w (by omega) (by rw [Int.toNat_natCast]; exact ⟨fun _ => ⟨by omega, by omega, c2⟩, fun _ => rfl⟩)
 have H3 : Hid (∀ w : World, Calls Tryz.prog 23 #[.int .i64 D, .int .i64 2, .int .i64 ((p : Int) - 1)] w fun e w' => e = .returned (.bool true) ∧ Ext w w') := fun w => l1In_ext _ _ _ _ w (by simp; omega)
 obtain ⟨d, rfl⟩ := Int.eq_ofNat_of_zero_le (show 0 ≤ D by omega)
 rw [Int.toNat_natCast] at c4
 obtain ⟨x, he⟩ : ∃ x : Nat, x = (p - 1) / 2 := ⟨_, rfl⟩
 rw [← he] at c4
 have H4 : Hid (∀ w : World, Calls Tryz.prog 144 #[.int .i64 (d : Int), .int .i64 (x : Int), .int .i64 (p : Int)] w fun e w' => e = .returned (.int .i64 ((d ^ x % p : Nat) : Int)) ∧ Ext w w') := fun w => l2Pow_ext d x p w (by omega) (by omega) (by omega) (by omega)
 have hq : Int.tdiv ((p : Int) - 1) 2 = (x : Int) := by rw [Int.tdiv_eq_ediv_of_nonneg (by omega)]; omega
 have hq2 : ((p : Int) - 1) / 2 = (x : Int) := by omega
 obtain ⟨g, hg⟩ : ∃ g : Nat, g = d ^ x % p := ⟨_, rfl⟩
 rw [← hg] at H4 c4
 have hn : (((g : Nat) : Int) != (p : Int) - 1) = false := by simp; omega
 have hz0 : IntKind.i64.wrap ((p : Int) - 1) = (p : Int) - 1 := by rw [IntKind.wrap_i64]; omega
 have hz1 : wrap64 ((p : Int) - 1) = (p : Int) - 1 := by unfold wrap64; omega
 have hz2 : IntKind.i64.wrap (x : Int) = (x : Int) := by rw [IntKind.wrap_i64]; omega
 have hz3 : wrap64 (x : Int) = (x : Int) := by unfold wrap64; omega
 clear he hg c4
 have H5 : Hid (∀ w : World, Calls Tryz.prog 23 #[.int .i64 L, .int .i64 5, .int .i64 2097152] w fun e w' => e = .returned (.bool true) ∧ Ext w w') := fun w => l1In_ext _ _ _ _ w (by simp; omega)
 have H6 : Hid (∀ w : World, Calls Tryz.prog 141 #[.int .i64 L] w fun e w' => e = .returned (.bool true) ∧ Ext w w') := fun w => prime_ext _ _ w (by omega) ⟨fun _ => ⟨by omega, by omega, c6⟩, fun _ => rfl⟩
 go_enter Tryz.func120, Tryz.ntmps120
 go_wp2
 have B1 := Blk.alloc w [.int .i64 (p : Int), .int .i64 (d : Int), .int .i64 L, .int .i64 bx, .int .i64 b'] 48
 have k0 := cell_regrown (B1 0 _ rfl).1
 have k1 := cell_regrown (B1 1 _ rfl).1
 have k2 := cell_regrown (B1 2 _ rfl).1
 have k3 := cell_regrown (B1 3 _ rfl).1
 have k4 := cell_regrown (B1 4 _ rfl).1
 clear B1
 refine wp_region_quiet_below (by kernel_rfl) (by kernel_rfl) ?_
 repeat (first | go_big_quiet_step (first | (go_at_call_of 23 (L); exact Calls.regrown_of (H5.out _)) | (go_at_call_of 23 (d); exact Calls.regrown_of (H3.out _)) | (go_at_call 23; exact Calls.regrown_of (H0.out _)) | (go_at_call_of 141 (L); exact Calls.regrown_of (H6.out _)) | (go_at_call 141; exact Calls.regrown_of (H2.out _)) | (go_at_call 144; exact Calls.regrown_of (H4.out _))) | quiet_step (first | (go_at_call_of 23 (L); exact Calls.regrown_of (H5.out _)) | (go_at_call_of 23 (d); exact Calls.regrown_of (H3.out _)) | (go_at_call 23; exact Calls.regrown_of (H0.out _)) | (go_at_call_of 141 (L); exact Calls.regrown_of (H6.out _)) | (go_at_call 141; exact Calls.regrown_of (H2.out _)) | (go_at_call 144; exact Calls.regrown_of (H4.out _))))
 refine wpQuiet_nil ?_
 intro _ hw'
 obtain ⟨⟨dq, osq⟩, hw''⟩ := hw'
 subst hw''
 clear k0 k1 k2 k3 k4
 have hW := below_regrown (w.alloc (.cells #[.int .i64 (p : Int), .int .i64 (d : Int), .int .i64 L, .int .i64 bx, .int .i64 b'] 48)) dq osq
 generalize Sort.grow (redrawn (w.alloc (.cells #[.int .i64 (p : Int), .int .i64 (d : Int), .int .i64 L, .int .i64 bx, .int .i64 b'] 48)) dq) osq = W1 at *
 obtain ⟨B1, hE, hz⟩ := box1 w [.int .i64 (p : Int), .int .i64 (d : Int), .int .i64 L, .int .i64 bx, .int .i64 b'] 48 hW
 clear hW
 have BA := B1.ext (Ext.alloc W1 (.cells #[.int .i64 bx, .int .i64 b'] 49)) (by omega)
 have k0 := (B1 0 _ rfl).1
 have k1 := (B1 1 _ rfl).1
 have k2 := (B1 2 _ rfl).1
 have k3 := (B1 3 _ rfl).1
 have k4 := (B1 4 _ rfl).1
 have j0 := (BA 0 _ rfl).1
 have j1 := (BA 1 _ rfl).1
 have j2 := (BA 2 _ rfl).1
 have j3 := (BA 3 _ rfl).1
 have j4 := (BA 4 _ rfl).1
 clear BA
 go_wp2_with fail
 clear j0 j1 j2 j3 j4
 refine (HO.out _).mono ?_
 rintro r w2 ⟨rfl, hw2⟩
 obtain ⟨B2, hE2, hz2⟩ := box1 W1 [.int .i64 bx, .int .i64 b'] 49 hw2
 replace B1 := B1.ext hE2 (by omega)
 replace hE := hE.trans hE2
 clear hw2 hE2 k0 k1 k2 k3 k4
 have k0 := (B1 0 _ rfl).1
 have k1 := (B1 1 _ rfl).1
 have k2 := (B1 2 _ rfl).1
 have k3 := (B1 3 _ rfl).1
 have k4 := (B1 4 _ rfl).1
 have g0 := (B2 0 _ rfl).1
 have g1 := (B2 1 _ rfl).1
 go_wp2
 go_ret
 exact ⟨rfl, hE⟩
set_option maxHeartbeats 3200000 in
set_option maxRecDepth 100000 in
theorem specEdOk_yes (p : Nat) (D L bx b' : Int) (hp : (p : Int) ≤ 9223372036854775807) (h0 : 0 ≤ (p : Int)) (hL : L ≤ 9223372036854775807) (c0 : 13 ≤ (p : Int) ∧ (p : Int) ≤ 1048576) (c1 : (p : Int) % 8 = 5) (c2 : Prime p) (c3 : 2 ≤ D ∧ D ≤ (p : Int) - 1) (c4 : D.toNat ^ ((p - 1) / 2) % p = p - 1) (c5 : 5 ≤ L ∧ L ≤ 2097152) (c6 : Prime L.toNat) (ho : OnE p D ⟨bx, b'⟩) (hn' : ¬ (bx = 0 ∧ b' = 1)) (hm : mulE p D L.toNat ⟨bx, b'⟩ = oneE) (w : World) :
  Calls Tryz.prog 120 #[.agg #[.int .i64 (p : Int), .int .i64 D, .int .i64 L, .int .i64 bx, .int .i64 b']] w fun r w' => r = .returned (.bool true) ∧ Ext w w' := by
 obtain ⟨l, rfl⟩ := Int.eq_ofNat_of_zero_le (show 0 ≤ L by omega)
 rw [Int.toNat_natCast] at hm
 have HM : Hid (∀ w : World, Calls Tryz.prog 145 #[.agg #[.int .i64 (p : Int), .int .i64 D, .int .i64 (l : Int), .int .i64 bx, .int .i64 b'], .int .i64 (l : Int), .agg #[.int .i64 bx, .int .i64 b']] w fun e w' => e = .returned (.agg #[.int .i64 (mulE p D l ⟨bx, b'⟩).x, .int .i64 (mulE p D l ⟨bx, b'⟩).y]) ∧ Ext w w') := fun w => l4Mul_any p D l bx b' l ⟨bx, b'⟩ w c2 (by omega) (by omega) (by omega) (by omega) ho.inE (by omega)
 have HO : Hid (∀ w : World, Calls Tryz.prog 121 #[.agg #[.int .i64 (p : Int), .int .i64 D, .int .i64 (l : Int), .int .i64 bx, .int .i64 b'], .agg #[.int .i64 bx, .int .i64 b']] w fun e w' => e = .returned (.bool true) ∧ Ext w w') := fun w => l4On_at p D l bx b' ⟨bx, b'⟩ true ⟨fun _ => ho, fun _ => rfl⟩ (by omega) (by omega) (by omega) (by omega) w
 have v1 := nePr_yes hn'
 clear hn'
 rw [hm] at HM
 replace HM : Hid (∀ w : World, Calls Tryz.prog 145 #[.agg #[.int .i64 (p : Int), .int .i64 D, .int .i64 (l : Int), .int .i64 bx, .int .i64 b'], .int .i64 (l : Int), .agg #[.int .i64 bx, .int .i64 b']] w fun e w' => e = .returned (.agg #[.int .i64 0, .int .i64 1]) ∧ Ext w w') := HM.out
 have v2 := eqPr_yes
 clear hm
 have H0 : Hid (∀ w : World, Calls Tryz.prog 23 #[.int .i64 (p : Int), .int .i64 13, .int .i64 1048576] w fun e w' => e = .returned (.bool true) ∧ Ext w w') := fun w => l1In_ext _ _ _ _ w (by simp; omega)
 obtain ⟨r8, hr8⟩ : ∃ r8, r8 = (p : Int) % 8 := ⟨_, rfl⟩
 have ht8 : Int.tmod (p : Int) 8 = r8 := by rw [Int.tmod_eq_emod_of_nonneg (by omega)]; exact hr8.symm
 have ht9 : (p : Int) % 8 = r8 := hr8.symm
 have hw8 : IntKind.i64.wrap r8 = r8 := by rw [IntKind.wrap_i64]; omega
 have hw9 : wrap64 r8 = r8 := by unfold wrap64; omega
 have hb : (r8 != 5) = false := by simp; omega
 clear hr8
 have H2 : Hid (∀ w : World, Calls Tryz.prog 141 #[.int .i64 (p : Int)] w fun e w' => e = .returned (.bool true) ∧ Ext w w') := fun w => prime_ext _ _ w (by omega) (by rw [Int.toNat_natCast]; exact ⟨fun _ => ⟨by omega, by omega, c2⟩, fun _ => rfl⟩)
 have H3 : Hid (∀ w : World, Calls Tryz.prog 23 #[.int .i64 D, .int .i64 2, .int .i64 ((p : Int) - 1)] w fun e w' => e = .returned (.bool true) ∧ Ext w w') := fun w => l1In_ext _ _ _ _ w (by simp; omega)
 obtain ⟨d, rfl⟩ := Int.eq_ofNat_of_zero_le (show 0 ≤ D by omega)
 rw [Int.toNat_natCast] at c4
 obtain ⟨x, he⟩ : ∃ x : Nat, x = (p - 1) / 2 := ⟨_, rfl⟩
 rw [← he] at c4
 have H4 : Hid (∀ w : World, Calls Tryz.prog 144 #[.int .i64 (d : Int), .int .i64 (x : Int), .int .i64 (p : Int)] w fun e w' => e = .returned (.int .i64 ((d ^ x % p : Nat) : Int)) ∧ Ext w w') := fun w => l2Pow_ext d x p w (by omega) (by omega) (by omega) (by omega)
 have hq : Int.tdiv ((p : Int) - 1) 2 = (x : Int) := by rw [Int.tdiv_eq_ediv_of_nonneg (by omega)]; omega
 have hq2 : ((p : Int) - 1) / 2 = (x : Int) := by omega
 obtain ⟨g, hg⟩ : ∃ g : Nat, g = d ^ x % p := ⟨_, rfl⟩
 rw [← hg] at H4 c4
 have hn : (((g : Nat) : Int) != (p : Int) - 1) = false := by simp; omega
 have hz0 : IntKind.i64.wrap ((p : Int) - 1) = (p : Int) - 1 := by rw [IntKind.wrap_i64]; omega
 have hz1 : wrap64 ((p : Int) - 1) = (p : Int) - 1 := by unfold wrap64; omega
 have hz2 : IntKind.i64.wrap (x : Int) = (x : Int) := by rw [IntKind.wrap_i64]; omega
 have hz3 : wrap64 (x : Int) = (x : Int) := by unfold wrap64; omega
 clear he hg c4
 have H5 : Hid (∀ w : World, Calls Tryz.prog 23 #[.int .i64 (l : Int), .int .i64 5, .int .i64 2097152] w fun e w' => e = .returned (.bool true) ∧ Ext w w') := fun w => l1In_ext _ _ _ _ w (by simp; omega)
 have H6 : Hid (∀ w : World, Calls Tryz.prog 141 #[.int .i64 (l : Int)] w fun e w' => e = .returned (.bool true) ∧ Ext w w') := fun w => prime_ext _ _ w (by omega) ⟨fun _ => ⟨by omega, by omega, c6⟩, fun _ => rfl⟩
 go_enter Tryz.func120, Tryz.ntmps120
 go_wp2
 have B1 := Blk.alloc w [.int .i64 (p : Int), .int .i64 (d : Int), .int .i64 (l : Int), .int .i64 bx, .int .i64 b'] 48
 have k0 := cell_regrown (B1 0 _ rfl).1
 have k1 := cell_regrown (B1 1 _ rfl).1
 have k2 := cell_regrown (B1 2 _ rfl).1
 have k3 := cell_regrown (B1 3 _ rfl).1
 have k4 := cell_regrown (B1 4 _ rfl).1
 clear B1
 refine wp_region_quiet_below (by kernel_rfl) (by kernel_rfl) ?_
 repeat (first | go_big_quiet_step (first | (go_at_call_of 23 (l); exact Calls.regrown_of (H5.out _)) | (go_at_call_of 23 (d); exact Calls.regrown_of (H3.out _)) | (go_at_call 23; exact Calls.regrown_of (H0.out _)) | (go_at_call_of 141 (l); exact Calls.regrown_of (H6.out _)) | (go_at_call 141; exact Calls.regrown_of (H2.out _)) | (go_at_call 144; exact Calls.regrown_of (H4.out _))) | quiet_step (first | (go_at_call_of 23 (l); exact Calls.regrown_of (H5.out _)) | (go_at_call_of 23 (d); exact Calls.regrown_of (H3.out _)) | (go_at_call 23; exact Calls.regrown_of (H0.out _)) | (go_at_call_of 141 (l); exact Calls.regrown_of (H6.out _)) | (go_at_call 141; exact Calls.regrown_of (H2.out _)) | (go_at_call 144; exact Calls.regrown_of (H4.out _))))
 refine wpQuiet_nil ?_
 intro _ hw'
 obtain ⟨⟨dq, osq⟩, hw''⟩ := hw'
 subst hw''
 clear k0 k1 k2 k3 k4
 have hW := below_regrown (w.alloc (.cells #[.int .i64 (p : Int), .int .i64 (d : Int), .int .i64 (l : Int), .int .i64 bx, .int .i64 b'] 48)) dq osq
 generalize Sort.grow (redrawn (w.alloc (.cells #[.int .i64 (p : Int), .int .i64 (d : Int), .int .i64 (l : Int), .int .i64 bx, .int .i64 b'] 48)) dq) osq = W1 at *
 obtain ⟨B1, hE, hz⟩ := box1 w [.int .i64 (p : Int), .int .i64 (d : Int), .int .i64 (l : Int), .int .i64 bx, .int .i64 b'] 48 hW
 clear hW
 have BA := B1.ext (Ext.alloc W1 (.cells #[.int .i64 bx, .int .i64 b'] 49)) (by omega)
 have k0 := (B1 0 _ rfl).1
 have k1 := (B1 1 _ rfl).1
 have k2 := (B1 2 _ rfl).1
 have k3 := (B1 3 _ rfl).1
 have k4 := (B1 4 _ rfl).1
 have j0 := (BA 0 _ rfl).1
 have j1 := (BA 1 _ rfl).1
 have j2 := (BA 2 _ rfl).1
 have j3 := (BA 3 _ rfl).1
 have j4 := (BA 4 _ rfl).1
 clear BA
 go_wp2_with fail
 clear j0 j1 j2 j3 j4
 refine (HO.out _).mono ?_
 rintro r w2 ⟨rfl, hw2⟩
 obtain ⟨B2, hE2, hz2⟩ := box1 W1 [.int .i64 bx, .int .i64 b'] 49 hw2
 replace B1 := B1.ext hE2 (by omega)
 replace hE := hE.trans hE2
 clear hw2 hE2 k0 k1 k2 k3 k4
 have k0 := (B1 0 _ rfl).1
 have k1 := (B1 1 _ rfl).1
 have k2 := (B1 2 _ rfl).1
 have k3 := (B1 3 _ rfl).1
 have k4 := (B1 4 _ rfl).1
 have g0 := (B2 0 _ rfl).1
 have g1 := (B2 1 _ rfl).1
 go_wp2_with fail
 refine (HM.out _).mono ?_
 rintro r w3 ⟨rfl, hw3⟩
 replace hE := hE.trans hw3
 clear hw3
 go_wp2
 go_ret
 exact ⟨rfl, hE⟩
set_option maxHeartbeats 3200000 in
set_option maxRecDepth 100000 in
theorem specEdOk_other (p : Nat) (D L bx b' : Int) (hp : (p : Int) ≤ 9223372036854775807) (h0 : 0 ≤ (p : Int)) (hL : L ≤ 9223372036854775807) (c0 : 13 ≤ (p : Int) ∧ (p : Int) ≤ 1048576) (c1 : (p : Int) % 8 = 5) (c2 : Prime p) (c3 : 2 ≤ D ∧ D ≤ (p : Int) - 1) (c4 : D.toNat ^ ((p - 1) / 2) % p = p - 1) (c5 : 5 ≤ L ∧ L ≤ 2097152) (c6 : Prime L.toNat) (ho : OnE p D ⟨bx, b'⟩) (hn' : ¬ (bx = 0 ∧ b' = 1)) (hm : mulE p D L.toNat ⟨bx, b'⟩ ≠ oneE) (w : World) :
  Calls Tryz.prog 120 #[.agg #[.int .i64 (p : Int), .int .i64 D, .int .i64 L, .int .i64 bx, .int .i64 b']] w fun r w' => r = .returned (.bool false) ∧ Ext w w' := by
 obtain ⟨l, rfl⟩ := Int.eq_ofNat_of_zero_le (show 0 ≤ L by omega)
 rw [Int.toNat_natCast] at hm
 have HM : Hid (∀ w : World, Calls Tryz.prog 145 #[.agg #[.int .i64 (p : Int), .int .i64 D, .int .i64 (l : Int), .int .i64 bx, .int .i64 b'], .int .i64 (l : Int), .agg #[.int .i64 bx, .int .i64 b']] w fun e w' => e = .returned (.agg #[.int .i64 (mulE p D l ⟨bx, b'⟩).x, .int .i64 (mulE p D l ⟨bx, b'⟩).y]) ∧ Ext w w') := fun w => l4Mul_any p D l bx b' l ⟨bx, b'⟩ w c2 (by omega) (by omega) (by omega) (by omega) ho.inE (by omega)
 have HO : Hid (∀ w : World, Calls Tryz.prog 121 #[.agg #[.int .i64 (p : Int), .int .i64 D, .int .i64 (l : Int), .int .i64 bx, .int .i64 b'], .agg #[.int .i64 bx, .int .i64 b']] w fun e w' => e = .returned (.bool true) ∧ Ext w w') := fun w => l4On_at p D l bx b' ⟨bx, b'⟩ true ⟨fun _ => ho, fun _ => rfl⟩ (by omega) (by omega) (by omega) (by omega) w
 have v1 := nePr_yes hn'
 clear hn'
 have v2 := eqPr_no hm
 clear hm
 generalize mulE p D l ⟨bx, b'⟩ = R at *
 have H0 : Hid (∀ w : World, Calls Tryz.prog 23 #[.int .i64 (p : Int), .int .i64 13, .int .i64 1048576] w fun e w' => e = .returned (.bool true) ∧ Ext w w') := fun w => l1In_ext _ _ _ _ w (by simp; omega)
 obtain ⟨r8, hr8⟩ : ∃ r8, r8 = (p : Int) % 8 := ⟨_, rfl⟩
 have ht8 : Int.tmod (p : Int) 8 = r8 := by rw [Int.tmod_eq_emod_of_nonneg (by omega)]; exact hr8.symm
 have ht9 : (p : Int) % 8 = r8 := hr8.symm
 have hw8 : IntKind.i64.wrap r8 = r8 := by rw [IntKind.wrap_i64]; omega
 have hw9 : wrap64 r8 = r8 := by unfold wrap64; omega
 have hb : (r8 != 5) = false := by simp; omega
 clear hr8
 have H2 : Hid (∀ w : World, Calls Tryz.prog 141 #[.int .i64 (p : Int)] w fun e w' => e = .returned (.bool true) ∧ Ext w w') := fun w => prime_ext _ _ w (by omega) (by rw [Int.toNat_natCast]; exact ⟨fun _ => ⟨by omega, by omega, c2⟩, fun _ => rfl⟩)
 have H3 : Hid (∀ w : World, Calls Tryz.prog 23 #[.int .i64 D, .int .i64 2, .int .i64 ((p : Int) - 1)] w fun e w' => e = .returned (.bool true) ∧ Ext w w') := fun w => l1In_ext _ _ _ _ w (by simp; omega)
 obtain ⟨d, rfl⟩ := Int.eq_ofNat_of_zero_le (show 0 ≤ D by omega)
 rw [Int.toNat_natCast] at c4
 obtain ⟨x, he⟩ : ∃ x : Nat, x = (p - 1) / 2 := ⟨_, rfl⟩
 rw [← he] at c4
 have H4 : Hid (∀ w : World, Calls Tryz.prog 144 #[.int .i64 (d : Int), .int .i64 (x : Int), .int .i64 (p : Int)] w fun e w' => e = .returned (.int .i64 ((d ^ x % p : Nat) : Int)) ∧ Ext w w') := fun w => l2Pow_ext d x p w (by omega) (by omega) (by omega) (by omega)
 have hq : Int.tdiv ((p : Int) - 1) 2 = (x : Int) := by rw [Int.tdiv_eq_ediv_of_nonneg (by omega)]; omega
 have hq2 : ((p : Int) - 1) / 2 = (x : Int) := by omega
 obtain ⟨g, hg⟩ : ∃ g : Nat, g = d ^ x % p := ⟨_, rfl⟩
 rw [← hg] at H4 c4
 have hn : (((g : Nat) : Int) != (p : Int) - 1) = false := by simp; omega
 have hz0 : IntKind.i64.wrap ((p : Int) - 1) = (p : Int) - 1 := by rw [IntKind.wrap_i64]; omega
 have hz1 : wrap64 ((p : Int) - 1) = (p : Int) - 1 := by unfold wrap64; omega
 have hz2 : IntKind.i64.wrap (x : Int) = (x : Int) := by rw [IntKind.wrap_i64]; omega
 have hz3 : wrap64 (x : Int) = (x : Int) := by unfold wrap64; omega
 clear he hg c4
 have H5 : Hid (∀ w : World, Calls Tryz.prog 23 #[.int .i64 (l : Int), .int .i64 5, .int .i64 2097152] w fun e w' => e = .returned (.bool true) ∧ Ext w w') := fun w => l1In_ext _ _ _ _ w (by simp; omega)
 have H6 : Hid (∀ w : World, Calls Tryz.prog 141 #[.int .i64 (l : Int)] w fun e w' => e = .returned (.bool true) ∧ Ext w w') := fun w => prime_ext _ _ w (by omega) ⟨fun _ => ⟨by omega, by omega, c6⟩, fun _ => rfl⟩
 go_enter Tryz.func120, Tryz.ntmps120
 go_wp2
 have B1 := Blk.alloc w [.int .i64 (p : Int), .int .i64 (d : Int), .int .i64 (l : Int), .int .i64 bx, .int .i64 b'] 48
 have k0 := cell_regrown (B1 0 _ rfl).1
 have k1 := cell_regrown (B1 1 _ rfl).1
 have k2 := cell_regrown (B1 2 _ rfl).1
 have k3 := cell_regrown (B1 3 _ rfl).1
 have k4 := cell_regrown (B1 4 _ rfl).1
 clear B1
 refine wp_region_quiet_below (by kernel_rfl) (by kernel_rfl) ?_
 repeat (first | go_big_quiet_step (first | (go_at_call_of 23 (l); exact Calls.regrown_of (H5.out _)) | (go_at_call_of 23 (d); exact Calls.regrown_of (H3.out _)) | (go_at_call 23; exact Calls.regrown_of (H0.out _)) | (go_at_call_of 141 (l); exact Calls.regrown_of (H6.out _)) | (go_at_call 141; exact Calls.regrown_of (H2.out _)) | (go_at_call 144; exact Calls.regrown_of (H4.out _))) | quiet_step (first | (go_at_call_of 23 (l); exact Calls.regrown_of (H5.out _)) | (go_at_call_of 23 (d); exact Calls.regrown_of (H3.out _)) | (go_at_call 23; exact Calls.regrown_of (H0.out _)) | (go_at_call_of 141 (l); exact Calls.regrown_of (H6.out _)) | (go_at_call 141; exact Calls.regrown_of (H2.out _)) | (go_at_call 144; exact Calls.regrown_of (H4.out _))))
 refine wpQuiet_nil ?_
 intro _ hw'
 obtain ⟨⟨dq, osq⟩, hw''⟩ := hw'
 subst hw''
 clear k0 k1 k2 k3 k4
 have hW := below_regrown (w.alloc (.cells #[.int .i64 (p : Int), .int .i64 (d : Int), .int .i64 (l : Int), .int .i64 bx, .int .i64 b'] 48)) dq osq
 generalize Sort.grow (redrawn (w.alloc (.cells #[.int .i64 (p : Int), .int .i64 (d : Int), .int .i64 (l : Int), .int .i64 bx, .int .i64 b'] 48)) dq) osq = W1 at *
 obtain ⟨B1, hE, hz⟩ := box1 w [.int .i64 (p : Int), .int .i64 (d : Int), .int .i64 (l : Int), .int .i64 bx, .int .i64 b'] 48 hW
 clear hW
 have BA := B1.ext (Ext.alloc W1 (.cells #[.int .i64 bx, .int .i64 b'] 49)) (by omega)
 have k0 := (B1 0 _ rfl).1
 have k1 := (B1 1 _ rfl).1
 have k2 := (B1 2 _ rfl).1
 have k3 := (B1 3 _ rfl).1
 have k4 := (B1 4 _ rfl).1
 have j0 := (BA 0 _ rfl).1
 have j1 := (BA 1 _ rfl).1
 have j2 := (BA 2 _ rfl).1
 have j3 := (BA 3 _ rfl).1
 have j4 := (BA 4 _ rfl).1
 clear BA
 go_wp2_with fail
 clear j0 j1 j2 j3 j4
 refine (HO.out _).mono ?_
 rintro r w2 ⟨rfl, hw2⟩
 obtain ⟨B2, hE2, hz2⟩ := box1 W1 [.int .i64 bx, .int .i64 b'] 49 hw2
 replace B1 := B1.ext hE2 (by omega)
 replace hE := hE.trans hE2
 clear hw2 hE2 k0 k1 k2 k3 k4
 have k0 := (B1 0 _ rfl).1
 have k1 := (B1 1 _ rfl).1
 have k2 := (B1 2 _ rfl).1
 have k3 := (B1 3 _ rfl).1
 have k4 := (B1 4 _ rfl).1
 have g0 := (B2 0 _ rfl).1
 have g1 := (B2 1 _ rfl).1
 go_wp2_with fail
 refine (HM.out _).mono ?_
 rintro r w3 ⟨rfl, hw3⟩
 replace hE := hE.trans hw3
 clear hw3
 go_wp2
 go_ret
 exact ⟨rfl, hE⟩
end Go.Proofs.YtfhiiakoilkbkaaGreatDoor
