/- Walks: the program's turned, readWord, round. -/
import Derived.Test.YtjkojofpkeglpabShaA
namespace Go.Proofs.Ytjkojofpkeglpab
set_option linter.unusedVariables false
set_option linter.unusedSimpArgs false
open Go.RowKit

/-- The counts by which the program turns. -/
def cntB (m : Int) : Bool := m == 2 || m == 6 || m == 7 || m == 11 || m == 13 || m == 17 || m == 18 || m == 19 || m == 22 || m == 25

theorem turned_2 (x : Int) (h0 : 0 ≤ x) (h1 : x < 4294967296) (w : World) : Calls Try.prog 138 #[.int .u32 x, .int .i64 2] w fun e w' => e = .returned (.int .u32 (turnI x 2)) ∧ w' = w := by
  have hs : bits .and .u64 (IntKind.u64.wrap (-2)) 31 = 30 := by decide +kernel
  go_enter Try.func138, Try.ntmps138
  go_wp2
  go_ret
  exact ⟨ret_int (by rw [bits_u32_or_comm]; rfl), rfl⟩

theorem turned_6 (x : Int) (h0 : 0 ≤ x) (h1 : x < 4294967296) (w : World) : Calls Try.prog 138 #[.int .u32 x, .int .i64 6] w fun e w' => e = .returned (.int .u32 (turnI x 6)) ∧ w' = w := by
  have hs : bits .and .u64 (IntKind.u64.wrap (-6)) 31 = 26 := by decide +kernel
  go_enter Try.func138, Try.ntmps138
  go_wp2
  go_ret
  exact ⟨ret_int (by rw [bits_u32_or_comm]; rfl), rfl⟩

theorem turned_7 (x : Int) (h0 : 0 ≤ x) (h1 : x < 4294967296) (w : World) : Calls Try.prog 138 #[.int .u32 x, .int .i64 7] w fun e w' => e = .returned (.int .u32 (turnI x 7)) ∧ w' = w := by
  have hs : bits .and .u64 (IntKind.u64.wrap (-7)) 31 = 25 := by decide +kernel
  go_enter Try.func138, Try.ntmps138
  go_wp2
  go_ret
  exact ⟨ret_int (by rw [bits_u32_or_comm]; rfl), rfl⟩

theorem turned_11 (x : Int) (h0 : 0 ≤ x) (h1 : x < 4294967296) (w : World) : Calls Try.prog 138 #[.int .u32 x, .int .i64 11] w fun e w' => e = .returned (.int .u32 (turnI x 11)) ∧ w' = w := by
  have hs : bits .and .u64 (IntKind.u64.wrap (-11)) 31 = 21 := by decide +kernel
  go_enter Try.func138, Try.ntmps138
  go_wp2
  go_ret
  exact ⟨ret_int (by rw [bits_u32_or_comm]; rfl), rfl⟩

theorem turned_13 (x : Int) (h0 : 0 ≤ x) (h1 : x < 4294967296) (w : World) : Calls Try.prog 138 #[.int .u32 x, .int .i64 13] w fun e w' => e = .returned (.int .u32 (turnI x 13)) ∧ w' = w := by
  have hs : bits .and .u64 (IntKind.u64.wrap (-13)) 31 = 19 := by decide +kernel
  go_enter Try.func138, Try.ntmps138
  go_wp2
  go_ret
  exact ⟨ret_int (by rw [bits_u32_or_comm]; rfl), rfl⟩

theorem turned_17 (x : Int) (h0 : 0 ≤ x) (h1 : x < 4294967296) (w : World) : Calls Try.prog 138 #[.int .u32 x, .int .i64 17] w fun e w' => e = .returned (.int .u32 (turnI x 17)) ∧ w' = w := by
  have hs : bits .and .u64 (IntKind.u64.wrap (-17)) 31 = 15 := by decide +kernel
  go_enter Try.func138, Try.ntmps138
  go_wp2
  go_ret
  exact ⟨ret_int (by rw [bits_u32_or_comm]; rfl), rfl⟩

theorem turned_18 (x : Int) (h0 : 0 ≤ x) (h1 : x < 4294967296) (w : World) : Calls Try.prog 138 #[.int .u32 x, .int .i64 18] w fun e w' => e = .returned (.int .u32 (turnI x 18)) ∧ w' = w := by
  have hs : bits .and .u64 (IntKind.u64.wrap (-18)) 31 = 14 := by decide +kernel
  go_enter Try.func138, Try.ntmps138
  go_wp2
  go_ret
  exact ⟨ret_int (by rw [bits_u32_or_comm]; rfl), rfl⟩

theorem turned_19 (x : Int) (h0 : 0 ≤ x) (h1 : x < 4294967296) (w : World) : Calls Try.prog 138 #[.int .u32 x, .int .i64 19] w fun e w' => e = .returned (.int .u32 (turnI x 19)) ∧ w' = w := by
  have hs : bits .and .u64 (IntKind.u64.wrap (-19)) 31 = 13 := by decide +kernel
  go_enter Try.func138, Try.ntmps138
  go_wp2
  go_ret
  exact ⟨ret_int (by rw [bits_u32_or_comm]; rfl), rfl⟩

theorem turned_22 (x : Int) (h0 : 0 ≤ x) (h1 : x < 4294967296) (w : World) : Calls Try.prog 138 #[.int .u32 x, .int .i64 22] w fun e w' => e = .returned (.int .u32 (turnI x 22)) ∧ w' = w := by
  have hs : bits .and .u64 (IntKind.u64.wrap (-22)) 31 = 10 := by decide +kernel
  go_enter Try.func138, Try.ntmps138
  go_wp2
  go_ret
  exact ⟨ret_int (by rw [bits_u32_or_comm]; rfl), rfl⟩

theorem turned_25 (x : Int) (h0 : 0 ≤ x) (h1 : x < 4294967296) (w : World) : Calls Try.prog 138 #[.int .u32 x, .int .i64 25] w fun e w' => e = .returned (.int .u32 (turnI x 25)) ∧ w' = w := by
  have hs : bits .and .u64 (IntKind.u64.wrap (-25)) 31 = 7 := by decide +kernel
  go_enter Try.func138, Try.ntmps138
  go_wp2
  go_ret
  exact ⟨ret_int (by rw [bits_u32_or_comm]; rfl), rfl⟩

theorem turned_int (x m : Int) (hm : cntB m = true) (h0 : 0 ≤ x) (h1 : x < 4294967296) (w : World) : Calls Try.prog 138 #[.int .u32 x, .int .i64 m] w fun e w' => e = .returned (.int .u32 (turnI x m)) ∧ Ext w w' := by
  have key : Calls Try.prog 138 #[.int .u32 x, .int .i64 m] w fun e w' => e = .returned (.int .u32 (turnI x m)) ∧ w' = w := by
    simp only [cntB, Bool.or_eq_true, beq_iff_eq] at hm
    rcases hm with ((((((((rfl | rfl) | rfl) | rfl) | rfl) | rfl) | rfl) | rfl) | rfl) | rfl
    · exact turned_2 x h0 h1 w
    · exact turned_6 x h0 h1 w
    · exact turned_7 x h0 h1 w
    · exact turned_11 x h0 h1 w
    · exact turned_13 x h0 h1 w
    · exact turned_17 x h0 h1 w
    · exact turned_18 x h0 h1 w
    · exact turned_19 x h0 h1 w
    · exact turned_22 x h0 h1 w
    · exact turned_25 x h0 h1 w
  exact key.mono (fun e w' h => ⟨h.1, by rw [h.2]; exact Ext.refl _⟩)

set_option maxHeartbeats 1600000 in
theorem readWord_any (b : Nat → Int) (r : Option Addr) (g off n cap : Nat) (w : World) (hb : BSeg w r g off n b) (hn : 4 ≤ n) (hby : ∀ i, i < 4 → 0 ≤ b i ∧ b i < 256) : Calls Try.prog 65 #[.slice r n cap] w fun e w' => e = .returned (.int .u32 (wordV b 0)) ∧ Ext w w' := by
  obtain rfl := hb.at' (by omega)
  have c0 := hb.cell 0 (by omega)
  have c1 := hb.cell 1 (by omega)
  have c2 := hb.cell 2 (by omega)
  have c3 := hb.cell 3 (by omega)
  rw [Nat.add_zero] at c0
  obtain ⟨y0, hy0⟩ : ∃ y, b 0 = y := ⟨_, rfl⟩
  rw [hy0] at c0
  have v0 : IntKind.u32.wrap y0 = y0 := by have := hby 0 (by omega); rw [IntKind.wrap_u32]; omega
  obtain ⟨y1, hy1⟩ : ∃ y, b 1 = y := ⟨_, rfl⟩
  rw [hy1] at c1
  have v1 : IntKind.u32.wrap y1 = y1 := by have := hby 1 (by omega); rw [IntKind.wrap_u32]; omega
  obtain ⟨y2, hy2⟩ : ∃ y, b 2 = y := ⟨_, rfl⟩
  rw [hy2] at c2
  have v2 : IntKind.u32.wrap y2 = y2 := by have := hby 2 (by omega); rw [IntKind.wrap_u32]; omega
  obtain ⟨y3, hy3⟩ : ∃ y, b 3 = y := ⟨_, rfl⟩
  rw [hy3] at c3
  have v3 : IntKind.u32.wrap y3 = y3 := by have := hby 3 (by omega); rw [IntKind.wrap_u32]; omega
  have H : Hid (wordV b 0 = bits .or .u32 (bits .or .u32 (bits .or .u32 (y0 * 2 ^ 24 % 4294967296) (y1 * 2 ^ 16 % 4294967296)) (y2 * 2 ^ 8 % 4294967296)) y3) := by
    refine hide ?_
    unfold wordV
    rw [hy0, hy1, hy2, hy3]
  have l0 : (0 : Int) < n := by omega
  have l1 : (1 : Int) < n := by omega
  have l2 : (2 : Int) < n := by omega
  have l3 : (3 : Int) < n := by omega
  have m0 : 0 < n := by omega
  have m1 : 1 < n := by omega
  have m2 : 2 < n := by omega
  have m3 : 3 < n := by omega
  have d0 : 0 ≤ y0 ∧ y0 < 256 := by have := hby 0 (by omega); omega
  have d1 : 0 ≤ y1 ∧ y1 < 256 := by have := hby 1 (by omega); omega
  have d2 : 0 ≤ y2 ∧ y2 < 256 := by have := hby 2 (by omega); omega
  obtain ⟨z0, hz0⟩ : ∃ z, IntKind.u32.wrap (y0 * 16777216) = z := ⟨_, rfl⟩
  obtain ⟨z1, hz1⟩ : ∃ z, IntKind.u32.wrap (y1 * 65536) = z := ⟨_, rfl⟩
  obtain ⟨z2, hz2⟩ : ∃ z, IntKind.u32.wrap (y2 * 256) = z := ⟨_, rfl⟩
  have H2 : Hid (wordV b 0 = bits .or .u32 (bits .or .u32 (bits .or .u32 z0 z1) z2) y3) := by
    refine hide ?_
    rw [H.out, ← hz0, ← hz1, ← hz2, IntKind.wrap_u32, IntKind.wrap_u32, IntKind.wrap_u32]; rfl
  clear hb hby hy0 hy1 hy2 hy3 H d0 d1 d2
  obtain ⟨X, hX⟩ : ∃ X : Nat → Prop, X = fun _ => False := ⟨_, rfl⟩
  have x0 : ∀ k, ¬ X k := fun k => by rw [hX]; exact fun e => e
  clear hX
  have k0 := cell_reC (X := X) c0 (x0 _)
  have k1 := cell_reC (X := X) c1 (x0 _)
  have k2 := cell_reC (X := X) c2 (x0 _)
  have k3 := cell_reC (X := X) c3 (x0 _)
  clear c0 c1 c2 c3
  go_enter Try.func65, Try.ntmps65
  go_wp2
  refine anyK_begin X 23 rfl (by kernel_rfl) ?_
  refine anyK_take 0 23 0 rfl (by decide) (by kernel_rfl) (fun _ _ d _ _ h => by cases d <;> exact h) ?_
  repeat (refine headC_step (fun K hK => ?_); go_simp; first | (refine hK _ ?_; clear hK K) | (apply Exists.intro; refine ⟨fun _ => ?_, hK _ ?_⟩; (fail); clear hK K))
  refine headC_nil ?_
  clear k0 k1 k2 k3 v0 v1 v2 v3 l0 l1 l2 l3 m0 m1 m2 m3 hz0 hz1 hz2
  refine anyK_done (by kernel_rfl) ?_ 0
  intro w5 h5
  go_wp2
  go_ret
  exact ⟨ret_int H2.out.symm, h5⟩

/-- A value of eight words is read as a whole. -/
theorem run_load8 (cs : List Value) (hl : cs.length = 8) (b : Nat) (w : World) (hc : ∀ j v, cs[j]? = some v → w.cell? ⟨b, j, none⟩ = some v) :
    (loadVar 113 ⟨b, 0, none⟩).run Try.prog w = .ok (.agg cs.toArray) w := by
  have hs : (Go.sizeOf 113).run Try.prog w = .ok 8 w := by kernel_rfl
  have ha : (isAgg 113).run Try.prog w = .ok true w := by kernel_rfl
  have hld := run_loadCells_list (P := Try.prog) w ⟨b, 0, none⟩ cs (fun j v h => by
    have := hc j v h
    rwa [show (⟨b, 0, none⟩ : Addr).add j = ⟨b, j, none⟩ by unfold Addr.add; split <;> simp_all])
  rw [hl] at hld
  simp only [loadVar, Sem.run_bind, ha, Result.andThen_ok, if_true, hs, hld, Sem.run_pure]

set_option maxHeartbeats 3200000 in
set_option maxRecDepth 100000 in
theorem round_any (v : Nat → Int) (m : Int) (hv : ∀ i, i < 8 → 0 ≤ v i ∧ v i < 4294967296) (w : World) : Calls Try.prog 131 #[.agg #[.int .u32 (v 0), .int .u32 (v 1), .int .u32 (v 2), .int .u32 (v 3), .int .u32 (v 4), .int .u32 (v 5), .int .u32 (v 6), .int .u32 (v 7)], .int .u32 m] w fun e w' => e = .returned (.agg #[.int .u32 (roundV v m 0), .int .u32 (roundV v m 1), .int .u32 (roundV v m 2), .int .u32 (roundV v m 3), .int .u32 (roundV v m 4), .int .u32 (roundV v m 5), .int .u32 (roundV v m 6), .int .u32 (roundV v m 7)]) ∧ Ext w w' := by
  have HT : Hid (∀ (x m : Int) (hm : cntB m = true) (h0 : 0 ≤ x) (h1 : x < 4294967296) (w : World), Calls Try.prog 138 #[.int .u32 x, .int .i64 m] w fun e w' => e = .returned (.int .u32 (turnI x m)) ∧ Ext w w') := turned_int
  obtain ⟨R, hR⟩ : ∃ R : Value, R = .agg #[.int .u32 (roundV v m 0), .int .u32 (roundV v m 1), .int .u32 (roundV v m 2), .int .u32 (roundV v m 3), .int .u32 (roundV v m 4), .int .u32 (roundV v m 5), .int .u32 (roundV v m 6), .int .u32 (roundV v m 7)] := ⟨_, rfl⟩
  rw [← hR]
  obtain ⟨v0, hv0⟩ : ∃ x, v 0 = x := ⟨_, rfl⟩
  obtain ⟨a0, b0⟩ := hv 0 (by omega)
  obtain ⟨v1, hv1⟩ : ∃ x, v 1 = x := ⟨_, rfl⟩
  obtain ⟨a1, b1⟩ := hv 1 (by omega)
  obtain ⟨v2, hv2⟩ : ∃ x, v 2 = x := ⟨_, rfl⟩
  obtain ⟨a2, b2⟩ := hv 2 (by omega)
  obtain ⟨v3, hv3⟩ : ∃ x, v 3 = x := ⟨_, rfl⟩
  obtain ⟨a3, b3⟩ := hv 3 (by omega)
  obtain ⟨v4, hv4⟩ : ∃ x, v 4 = x := ⟨_, rfl⟩
  obtain ⟨a4, b4⟩ := hv 4 (by omega)
  obtain ⟨v5, hv5⟩ : ∃ x, v 5 = x := ⟨_, rfl⟩
  obtain ⟨a5, b5⟩ := hv 5 (by omega)
  obtain ⟨v6, hv6⟩ : ∃ x, v 6 = x := ⟨_, rfl⟩
  obtain ⟨a6, b6⟩ := hv 6 (by omega)
  obtain ⟨v7, hv7⟩ : ∃ x, v 7 = x := ⟨_, rfl⟩
  obtain ⟨a7, b7⟩ := hv 7 (by omega)
  rw [hv0] at a0 b0 ⊢
  rw [hv1] at a1 b1 ⊢
  rw [hv2] at a2 b2 ⊢
  rw [hv3] at a3 b3 ⊢
  rw [hv4] at a4 b4 ⊢
  rw [hv5] at a5 b5 ⊢
  rw [hv6] at a6 b6 ⊢
  rw [hv7] at a7 b7 ⊢
  obtain ⟨T1, hT1⟩ : ∃ x, t1V v m = x := ⟨_, rfl⟩
  obtain ⟨T2, hT2⟩ : ∃ x, t2V v = x := ⟨_, rfl⟩
  have e1 : IntKind.u32.wrap (IntKind.u32.wrap (IntKind.u32.wrap (v7 + bits .xor .u32 (bits .xor .u32 (turnI v4 6) (turnI v4 11)) (turnI v4 25)) + bits .xor .u32 (bits .and .u32 v4 v5) (bits .and .u32 (bits .xor .u32 (if IntKind.u32.signed = true then -1 else IntKind.u32.max) v4) v6)) + m) = T1 := by
    rw [← hT1]
    unfold t1V
    rw [hv7, hv4, hv5, hv6, show bits .xor .u32 (bits .xor .u32 (turnI v4 6) (turnI v4 11)) (turnI v4 25) = big1 v4 from rfl, show bits .xor .u32 (bits .and .u32 v4 v5) (bits .and .u32 (bits .xor .u32 (if IntKind.u32.signed = true then -1 else IntKind.u32.max) v4) v6) = chV v4 v5 v6 from rfl]
    simp only [IntKind.wrap_u32]
    omega
  have e2 : IntKind.u32.wrap (bits .xor .u32 (bits .xor .u32 (turnI v0 2) (turnI v0 13)) (turnI v0 22) + bits .xor .u32 (bits .xor .u32 (bits .and .u32 v0 v1) (bits .and .u32 v0 v2)) (bits .and .u32 v1 v2)) = T2 := by
    rw [← hT2]
    unfold t2V
    rw [hv0, hv1, hv2, show bits .xor .u32 (bits .xor .u32 (turnI v0 2) (turnI v0 13)) (turnI v0 22) = big0 v0 from rfl, show bits .xor .u32 (bits .xor .u32 (bits .and .u32 v0 v1) (bits .and .u32 v0 v2)) (bits .and .u32 v1 v2) = majV v0 v1 v2 from rfl, IntKind.wrap_u32]
  have HX : Hid ((T1 + (bits .xor .u32 (bits .xor .u32 (turnI v0 2) (turnI v0 13)) (turnI v0 22) + bits .xor .u32 (bits .xor .u32 (bits .and .u32 v0 v1) (bits .and .u32 v0 v2)) (bits .and .u32 v1 v2))) % 4294967296 = (T1 + T2) % 4294967296) := by
    refine hide ?_
    rw [← e2, IntKind.wrap_u32]
    omega
  have HR : Hid (R = .agg #[.int .u32 ((T1 + T2) % 4294967296), .int .u32 v0, .int .u32 v1, .int .u32 v2, .int .u32 ((v3 + T1) % 4294967296), .int .u32 v4, .int .u32 v5, .int .u32 v6]) := by
    refine hide ?_
    rw [hR]
    simp only [roundV, hT1, hT2, hv0, hv1, hv2, hv3, hv4, hv5, hv6, hv7]
  replace e1 := hide e1
  replace e2 := hide e2
  clear hv hR hT1 hT2 hv0 hv1 hv2 hv3 hv4 hv5 hv6 hv7
  go_enter Try.func131, Try.ntmps131
  go_wp2
  obtain ⟨V, hV⟩ : ∃ V, (w.alloc (.cells #[.int .u32 v0, .int .u32 v1, .int .u32 v2, .int .u32 v3, .int .u32 v4, .int .u32 v5, .int .u32 v6, .int .u32 v7] 113)).alloc (.cells #[.int .u32 0, .int .u32 0, .int .u32 0, .int .u32 0, .int .u32 0, .int .u32 0, .int .u32 0, .int .u32 0] 113) = V := ⟨_, rfl⟩
  obtain ⟨B1, B2, hE, hz⟩ := box2 w [.int .u32 v0, .int .u32 v1, .int .u32 v2, .int .u32 v3, .int .u32 v4, .int .u32 v5, .int .u32 v6, .int .u32 v7] [.int .u32 0, .int .u32 0, .int .u32 0, .int .u32 0, .int .u32 0, .int .u32 0, .int .u32 0, .int .u32 0] 113 113 (hV ▸ Ext.refl _ : Ext _ V)
  simp only [hV]
  clear hV
  obtain ⟨X, hX⟩ : ∃ X : Nat → Prop, X = fun _ => False := ⟨_, rfl⟩
  have x0 : ∀ k, ¬ X k := fun k => by rw [hX]; exact fun e => e
  clear hX
  have k0 := cell_reC (X := X) (B1 0 _ rfl).1 (x0 _)
  have k1 := cell_reC (X := X) (B1 1 _ rfl).1 (x0 _)
  have k2 := cell_reC (X := X) (B1 2 _ rfl).1 (x0 _)
  have k3 := cell_reC (X := X) (B1 3 _ rfl).1 (x0 _)
  have k4 := cell_reC (X := X) (B1 4 _ rfl).1 (x0 _)
  have k5 := cell_reC (X := X) (B1 5 _ rfl).1 (x0 _)
  have k6 := cell_reC (X := X) (B1 6 _ rfl).1 (x0 _)
  have k7 := cell_reC (X := X) (B1 7 _ rfl).1 (x0 _)
  refine anyK_begin X 18 rfl (by kernel_rfl) ?_
  refine anyK_take 0 18 0 rfl (by decide) (by kernel_rfl) (fun _ _ d _ _ h => by cases d <;> exact h) ?_
  repeat (refine headC_step (fun K hK => ?_); go_simp; first | (refine hK _ ?_; clear hK K) | (apply Exists.intro; refine ⟨fun _ => ?_, hK _ ?_⟩; (fail); clear hK K))
  refine headC_nil ?_
  clear k0 k1 k2 k3 k4 k5 k6 k7
  refine anyK_done (by kernel_rfl) ?_ 0
  intro w5 h5
  have k7 := cell_reC (X := X) ((B1.ext h5 (by omega)) 7 _ rfl).1 (x0 _)
  go_wp2
  refine anyK_begin X 23 rfl (by kernel_rfl) ?_
  refine anyK_take 0 23 0 rfl (by decide) (by kernel_rfl) (fun _ _ d _ _ h => by cases d <;> exact h) ?_
  repeat (refine headC_step (fun K hK => ?_); go_simp; first | (refine hK _ ?_; clear hK K) | (apply Exists.intro; refine ⟨fun _ => ?_, hK _ ?_⟩; ((go_at_call 138; exact Calls.re_of (HT.out _ _ (by decide) (by assumption) (by assumption) _))); clear hK K))
  refine headC_nil ?_
  rw [e1.out]
  clear k7 e1
  refine anyK_done (by kernel_rfl) ?_ 0
  intro w6 h6
  replace h6 := h5.trans h6
  clear h5
  go_wp2_with fail
  refine (HT.out _ _ (by decide) (by assumption) (by assumption) _).mono ?_
  rintro e w7 ⟨rfl, h7⟩
  replace h7 := h6.trans h7
  clear h6
  go_wp2_with fail
  refine (HT.out _ _ (by decide) (by assumption) (by assumption) _).mono ?_
  rintro e w8 ⟨rfl, h8⟩
  replace h8 := h7.trans h8
  clear h7
  go_wp2_with fail
  refine (HT.out _ _ (by decide) (by assumption) (by assumption) _).mono ?_
  rintro e w9 ⟨rfl, h9⟩
  replace h9 := h8.trans h9
  clear h8
  have B3 := B1.ext h9 (by omega)
  have B4 := B2.ext h9 (by omega)
  have c3 := (B3 3 _ rfl).1
  obtain ⟨d0, f0⟩ := B4 0 _ rfl
  obtain ⟨d1, f1⟩ := B4 1 _ rfl
  obtain ⟨d2, f2⟩ := B4 2 _ rfl
  obtain ⟨d3, f3⟩ := B4 3 _ rfl
  obtain ⟨d4, f4⟩ := B4 4 _ rfl
  obtain ⟨d5, f5⟩ := B4 5 _ rfl
  obtain ⟨d6, f6⟩ := B4 6 _ rfl
  obtain ⟨d7, f7⟩ := B4 7 _ rfl
  go_wp2
  have BR := B4.put [.int .u32 ((T1 + (bits .xor .u32 (bits .xor .u32 (turnI v0 2) (turnI v0 13)) (turnI v0 22) + bits .xor .u32 (bits .xor .u32 (bits .and .u32 v0 v1) (bits .and .u32 v0 v2)) (bits .and .u32 v1 v2))) % 4294967296), .int .u32 v0, .int .u32 v1, .int .u32 v2, .int .u32 ((v3 + T1) % 4294967296), .int .u32 v4, .int .u32 v5, .int .u32 v6] rfl
  have hW := (hE.trans h9).putL (C := w.heap.size + 1) (by omega) [.int .u32 ((T1 + (bits .xor .u32 (bits .xor .u32 (turnI v0 2) (turnI v0 13)) (turnI v0 22) + bits .xor .u32 (bits .xor .u32 (bits .and .u32 v0 v1) (bits .and .u32 v0 v2)) (bits .and .u32 v1 v2))) % 4294967296), .int .u32 v0, .int .u32 v1, .int .u32 v2, .int .u32 ((v3 + T1) % 4294967296), .int .u32 v4, .int .u32 v5, .int .u32 v6]
  simp only [putL] at BR hW
  generalize World.setCell _ ⟨w.heap.size + 1, 7, none⟩ _ = WE at *
  have hl := run_load8 _ rfl _ _ (fun j v h => (BR j v h).1)
  rw [HX.out] at hl
  refine bodyPost_ret (v := R) ?_ rfl ⟨rfl, hW⟩
  rw [HR.out]
  exact results_cell Try.results131 rfl hl

end Go.Proofs.Ytjkojofpkeglpab
