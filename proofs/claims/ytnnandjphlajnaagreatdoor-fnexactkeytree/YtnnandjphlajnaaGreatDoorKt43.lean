/- Walks: a point's bytes, by the program. -/
import Derived.Test.YtnnandjphlajnaaGreatDoorKt15
import Derived.Test.YtnnandjphlajnaaGreatDoorKt39
import Derived.Test.YtnnandjphlajnaaGreatDoorKt42
namespace Go.Proofs.YtnnandjphlajnaaGreatDoor

section
set_option linter.unusedVariables false
set_option linter.unusedSimpArgs false

open Go.RowKit

theorem byts_long (x y : Int) : #[.int .u8 4, .int .u8 (x / 65536), .int .u8 (x / 256 % 256), .int .u8 (x % 256), .int .u8 (y / 65536), .int .u8 (y / 256 % 256), .int .u8 (y % 256)] = (byts (ptByte ⟨x, y, false⟩ false) 7).toArray := rfl

set_option maxHeartbeats 3200000 in
set_option maxRecDepth 100000 in
theorem pointBytes_long (x y : Int) (x0 : 0 ≤ x) (x1 : x ≤ 16777215) (y0 : 0 ≤ y) (y1 : y ≤ 16777215) (w : World) : Calls Tryz.prog 104 #[.agg #[.int .i64 x, .int .i64 y, .bool false], .bool false] w fun e w' => GivesBb w 7 (ptByte ⟨x, y, false⟩ false) e w' := by
  have hEq := run_eqPt
  have HX := hide (fun w => highBytes_any x w x0 x1)
  have HY := hide (fun w => highBytes_any y w y0 y1)
  have HP := hide (parityPt ⟨x, y, false⟩ y0)
  have HG : Hid (∀ e w', GivesBb w 7 (ptByte ⟨x, y, false⟩ false) e w' → GivesBb w 7 (ptByte ⟨x, y, false⟩ false) e w') := fun _ _ h => h
  have HE := hide (byts_long x y)
  simp only at HP
  obtain ⟨q, hq⟩ : ∃ q, y % 2 = q := ⟨_, rfl⟩
  have q0 : 0 ≤ q := by omega
  have q1 : q ≤ 1 := by omega
  rw [hq] at HP
  have w1' : IntKind.u8.wrap (2 + q) = 2 + q := by simp [IntKind.wrap_u8]; omega
  have w2' : IntKind.i64.wrap (2 + q) = 2 + q := by rw [IntKind.wrap_i64]; omega
  have w3' : wrap64 (2 + q) = 2 + q := by unfold wrap64; omega
  obtain ⟨u0, hu0⟩ : ∃ h, x / 65536 = h := ⟨_, rfl⟩
  obtain ⟨u1, hu1⟩ : ∃ h, x / 256 % 256 = h := ⟨_, rfl⟩
  obtain ⟨u2, hu2⟩ : ∃ h, x % 256 = h := ⟨_, rfl⟩
  obtain ⟨v0, hv0⟩ : ∃ h, y / 65536 = h := ⟨_, rfl⟩
  obtain ⟨v1, hv1⟩ : ∃ h, y / 256 % 256 = h := ⟨_, rfl⟩
  obtain ⟨v2, hv2⟩ : ∃ h, y % 256 = h := ⟨_, rfl⟩
  rw [hu0, hu1, hu2] at HX HE
  rw [hv0, hv1, hv2] at HY HE
  clear hu0 hu1 hu2 hv0 hv1 hv2 hq x0 x1 y0 y1
  go_enter Tryz.func104, Tryz.ntmps104
  go_wp2
  obtain ⟨V0, hV⟩ : ∃ V, w.alloc (.cells #[.int .i64 x, .int .i64 y, .bool false] 38) = V := ⟨_, rfl⟩
  obtain ⟨B0, hE0, hz0⟩ := box1 w [.int .i64 x, .int .i64 y, .bool false] 38 (hV ▸ Ext.refl _ : Ext (w.alloc (.cells #[.int .i64 x, .int .i64 y, .bool false] 38)) V0)
  simp only [hV]
  clear hV
  obtain ⟨X, hX⟩ : ∃ X : Nat → Prop, X = fun _ => False := ⟨_, rfl⟩
  have x0 : ∀ k, k < V0.heap.size → ¬ X k := fun k h => by rw [hX]; exact fun e => e
  clear hX
  have k0 := cell_reC (B0 0 _ rfl).1 (x0 _ (by first | omega | (simp only; omega)))
  have k1 := cell_reC (B0 1 _ rfl).1 (x0 _ (by first | omega | (simp only; omega)))
  have k2 := cell_reC (B0 2 _ rfl).1 (x0 _ (by first | omega | (simp only; omega)))
  refine anyK_begin X 3 rfl (by kernel_rfl) ?_
  refine anyK_take 0 3 0 rfl (by decide) (by kernel_rfl) (fun _ _ d _ _ h => by cases d <;> exact h) ?_
  repeat (refine headC_step (fun K hK => ?_); go_simp; first | (refine hK _ ?_; clear hK K) | (apply Exists.intro; refine ⟨fun _ => ?_, hK _ ?_⟩; (exact Calls.re_of (unitPt _)); clear hK K))
  refine headC_nil ?_
  clear k0 k1 k2
  refine anyK_done (by kernel_rfl) ?_ 0
  intro V h2
  clear x0 X
  have B1 := B0.ext h2 (by omega)
  have hE := hE0.trans h2
  have hz : w.heap.size + 1 ≤ V.heap.size := Nat.le_trans hz0 (Below.size h2)
  clear h2 B0 hE0 hz0 hEq
  go_wp2
  obtain ⟨X, hX⟩ : ∃ X : Nat → Prop, X = fun k => V.heap.size ≤ k := ⟨_, rfl⟩
  have x0 : ∀ k, k < V.heap.size → ¬ X k := fun k h => by rw [hX]; simp; omega
  have x1 : ∀ k, V.heap.size ≤ k → X k := fun k h => by rw [hX]; exact h
  clear hX
  have k0 := cell_reC (B1 0 _ rfl).1 (x0 _ (by first | omega | (simp only; omega)))
  have k1 := cell_reC (B1 1 _ rfl).1 (x0 _ (by first | omega | (simp only; omega)))
  have k2 := cell_reC (B1 2 _ rfl).1 (x0 _ (by first | omega | (simp only; omega)))
  refine anyK_begin X 10 rfl (by kernel_rfl) ?_
  refine anyK_take 0 6 4 rfl (by decide) (by kernel_rfl) (fun _ _ d _ _ h => by cases d <;> exact h) ?_
  repeat (refine headC_step (fun K hK => ?_); go_simp; first | (refine hK _ ?_; clear hK K) | (apply Exists.intro; refine ⟨fun _ => ?_, hK _ ?_⟩; (first | (go_at_call_of 172 (x); exact Calls.re_of (HX.out _)) | (go_at_call_of 172 (y); exact Calls.re_of (HY.out _))); clear hK K))
  refine headC_nil ?_
  clear k0 k1 k2 HX HY
  refine anyK_two 6 7 (by kernel_rfl) ?_ ?_
  · refine stepK_run rfl ?_
    intro w2 h2 K hK
    go_simp
    refine hK _ _ (.of_ext (h2.trans (Ext.alloc _ _))) ?_
    clear hK K
    refine anyK_one 7 (by kernel_rfl) ?_
    refine stepK_run rfl ?_
    intro w3 h3 K hK
    go_simp
    refine hK _ _ (.of_ext (((h2.trans (Ext.alloc _ _)).trans h3).trans (Ext.alloc _ _))) ?_
    clear hK K
    refine anyK_one 8 (by kernel_rfl) ?_
    refine stepK_run rfl ?_
    intro w4 h4 K hK
    obtain ⟨BS, BT, hV4, lS, lT, ne, sS, sT⟩ := two_alloc (z := [.int .u8 0, .int .u8 0, .int .u8 0]) (z' := [.int .u8 0, .int .u8 0, .int .u8 0]) h2 h3 h4
    clear h2 h3 h4
    generalize w2.heap.size = S at *
    generalize w3.heap.size = T at *
    have s0 := (BS 0 _ rfl).1
    have s1 := (BS 1 _ rfl).1
    have s2 := (BS 2 _ rfl).1
    have y0 := (BS 0 _ rfl).2
    have y1 := (BS 1 _ rfl).2
    have y2 := (BS 2 _ rfl).2
    go_simp
    refine hK _ _ (show Grw X V (putL S 0 [.int .u8 u0, .int .u8 u1, .int .u8 u2] w4) from Grw.putL (x1 _ lS) _ _ _ (.of_ext hV4)) ?_
    clear hK K s0 s1 s2 y0 y1 y2
    refine anyK_one 9 (by kernel_rfl) ?_
    refine stepK_run rfl ?_
    intro w5 h5 K hK
    replace h5 : Ext (putL S 0 [.int .u8 u0, .int .u8 u1, .int .u8 u2] w4) w5 := h5
    have BT5 := (BT.put_other [.int .u8 u0, .int .u8 u1, .int .u8 u2] ne.symm).ext h5 (by rw [size_putL]; exact sT)
    have s0 := (BT5 0 _ rfl).1
    have s1 := (BT5 1 _ rfl).1
    have s2 := (BT5 2 _ rfl).1
    have y0 := (BT5 0 _ rfl).2
    have y1 := (BT5 1 _ rfl).2
    have y2 := (BT5 2 _ rfl).2
    go_simp
    refine hK _ _ (show Grw X V (putL T 0 [.int .u8 v0, .int .u8 v1, .int .u8 v2] w5) from Grw.putL (x1 _ lT) _ _ _ ((Grw.putL (x1 _ lS) _ _ _ (.of_ext hV4)).trans (.of_ext h5))) ?_
    clear hK K s0 s1 s2 y0 y1 y2 BT5
    refine anyK_done (by kernel_rfl) ?_ 0
    intro w6 h6
    replace h6 : Ext (putL T 0 [.int .u8 v0, .int .u8 v1, .int .u8 v2] w5) w6 := h6
    obtain ⟨B4, B5, hV6, sS6, sT6⟩ := two_put (z := [.int .u8 0, .int .u8 0, .int .u8 0]) (u := [.int .u8 u0, .int .u8 u1, .int .u8 u2]) (v := [.int .u8 v0, .int .u8 v1, .int .u8 v2]) rfl rfl BS BT hV4 lS lT ne sS sT h5 h6
    replace B1 := B1.ext hV6 (by omega)
    replace hE := hE.trans hV6
    have hz6 := Nat.le_trans hz (Below.size hV6)
    clear BS BT hV4 lS lT ne sS sT h5 h6 hV6 x0 x1 X w4 w5 hz
    have s0 := (B4 0 _ rfl).1
    have s1 := (B4 1 _ rfl).1
    have s2 := (B4 2 _ rfl).1
    have t0 := (B5 0 _ rfl).1
    have t1 := (B5 1 _ rfl).1
    have t2 := (B5 2 _ rfl).1
    go_wp2
    go_ret
    exact HG.out _ _ (GivesBb.of hE HE.out (Ext.refl _))
  · refine stepK_run rfl ?_
    intro w2 h2 K hK
    go_simp
    refine hK _ _ (.of_ext (h2.trans (Ext.alloc _ _))) ?_
    clear hK K
    refine anyK_one 6 (by kernel_rfl) ?_
    refine stepK_run rfl ?_
    intro w3 h3 K hK
    go_simp
    refine hK _ _ (.of_ext (((h2.trans (Ext.alloc _ _)).trans h3).trans (Ext.alloc _ _))) ?_
    clear hK K
    refine anyK_one 8 (by kernel_rfl) ?_
    refine stepK_run rfl ?_
    intro w4 h4 K hK
    obtain ⟨BT, BS, hV4, lT, lS, ne, sT, sS⟩ := two_alloc (z := [.int .u8 0, .int .u8 0, .int .u8 0]) (z' := [.int .u8 0, .int .u8 0, .int .u8 0]) h2 h3 h4
    replace ne := ne.symm
    clear h2 h3 h4
    generalize w2.heap.size = T at *
    generalize w3.heap.size = S at *
    have s0 := (BS 0 _ rfl).1
    have s1 := (BS 1 _ rfl).1
    have s2 := (BS 2 _ rfl).1
    have y0 := (BS 0 _ rfl).2
    have y1 := (BS 1 _ rfl).2
    have y2 := (BS 2 _ rfl).2
    go_simp
    refine hK _ _ (show Grw X V (putL S 0 [.int .u8 u0, .int .u8 u1, .int .u8 u2] w4) from Grw.putL (x1 _ lS) _ _ _ (.of_ext hV4)) ?_
    clear hK K s0 s1 s2 y0 y1 y2
    refine anyK_one 9 (by kernel_rfl) ?_
    refine stepK_run rfl ?_
    intro w5 h5 K hK
    replace h5 : Ext (putL S 0 [.int .u8 u0, .int .u8 u1, .int .u8 u2] w4) w5 := h5
    have BT5 := (BT.put_other [.int .u8 u0, .int .u8 u1, .int .u8 u2] ne.symm).ext h5 (by rw [size_putL]; exact sT)
    have s0 := (BT5 0 _ rfl).1
    have s1 := (BT5 1 _ rfl).1
    have s2 := (BT5 2 _ rfl).1
    have y0 := (BT5 0 _ rfl).2
    have y1 := (BT5 1 _ rfl).2
    have y2 := (BT5 2 _ rfl).2
    go_simp
    refine hK _ _ (show Grw X V (putL T 0 [.int .u8 v0, .int .u8 v1, .int .u8 v2] w5) from Grw.putL (x1 _ lT) _ _ _ ((Grw.putL (x1 _ lS) _ _ _ (.of_ext hV4)).trans (.of_ext h5))) ?_
    clear hK K s0 s1 s2 y0 y1 y2 BT5
    refine anyK_done (by kernel_rfl) ?_ 0
    intro w6 h6
    replace h6 : Ext (putL T 0 [.int .u8 v0, .int .u8 v1, .int .u8 v2] w5) w6 := h6
    obtain ⟨B4, B5, hV6, sS6, sT6⟩ := two_put (z := [.int .u8 0, .int .u8 0, .int .u8 0]) (u := [.int .u8 u0, .int .u8 u1, .int .u8 u2]) (v := [.int .u8 v0, .int .u8 v1, .int .u8 v2]) rfl rfl BS BT hV4 lS lT ne sS sT h5 h6
    replace B1 := B1.ext hV6 (by omega)
    replace hE := hE.trans hV6
    have hz6 := Nat.le_trans hz (Below.size hV6)
    clear BS BT hV4 lS lT ne sS sT h5 h6 hV6 x0 x1 X w4 w5 hz
    have s0 := (B4 0 _ rfl).1
    have s1 := (B4 1 _ rfl).1
    have s2 := (B4 2 _ rfl).1
    have t0 := (B5 0 _ rfl).1
    have t1 := (B5 1 _ rfl).1
    have t2 := (B5 2 _ rfl).1
    go_wp2
    go_ret
    exact HG.out _ _ (GivesBb.of hE HE.out (Ext.refl _))
end

end Go.Proofs.YtnnandjphlajnaaGreatDoor
