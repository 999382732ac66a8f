/- Walk: DrawCurve of the model: one of the three curves and two multiples of its base point. -/
import Derived.Test.YtejlgcnhfomadaaDoorDrawC
import Derived.Test.YtejlgcnhfomadaaDoorCurveP
namespace Go.Proofs.YtejlgcnhfomadaaDoor
set_option linter.unusedVariables false
open Go.RowKit Go.Sort

/-- A drawn curve and two points of it. -/
def GivesCurve (w : World) (e : Ending) (w' : World) : Prop :=
  ∃ (j m n : Nat), j < 3 ∧ m ≤ 20000 ∧ n ≤ 20000 ∧ e = .returned (.tuple #[.agg #[.int .i64 (kP j), .int .i64 (kA j), .int .i64 (kB j), .int .i64 (kN j), .int .i64 (kX j), .int .i64 (kY j)], ptV (mulF (kP j).toNat (kA j) m ⟨kX j, kY j, false⟩), ptV (mulF (kP j).toNat (kA j) n ⟨kX j, kY j, false⟩)]) ∧ Below w.heap.size w w'

theorem touch_putPt (w : World) (C : Nat) (a : Pt) : Touch C w (putPt w C a) := (((Touch.refl C w).set 0 _).set 1 _).set 2 _

theorem touch_putCv (w : World) (C : Nat) (p A B N x y : Int) : Touch C w (putCv w C p A B N x y) := ((((((Touch.refl C w).set 0 _).set 1 _).set 2 _).set 3 _).set 4 _).set 5 _

theorem CvF.put {w : World} {C : Nat} {p A B N x y : Int} (h : CvF w C p A B N x y) (p' A' B' N' x' y' : Int) : CvF (putCv w C p' A' B' N' x' y') C p' A' B' N' x' y' := by
  obtain ⟨⟨c0, c1, c2, c3, c4, c5⟩, f⟩ := h
  refine ⟨⟨?_, ?_, ?_, ?_, ?_, ?_⟩, fun o => ?_⟩
  all_goals unfold putCv
  all_goals first | (simp [go_sem, c0, c1, c2, c3, c4, c5, f]; done) | skip

theorem PtAt.of_block {w w' : World} {C : Nat} {a : Pt} (h : PtAt w C a) (e : w'.heap[C]? = w.heap[C]?) : PtAt w' C a := by
  have k : ∀ q, w'.cell? ⟨C, q, none⟩ = w.cell? ⟨C, q, none⟩ := fun q => World.cell?_of_block (a := ⟨C, q, none⟩) e
  have z : ∀ q, w'.frozen? ⟨C, q, none⟩ = w.frozen? ⟨C, q, none⟩ := fun q => World.frozen?_of_block (a := ⟨C, q, none⟩) e
  obtain ⟨c0, c1, c2, f0, f1, f2⟩ := h
  exact ⟨(k _).trans c0, (k _).trans c1, (k _).trans c2, (z _).trans f0, (z _).trans f1, (z _).trans f2⟩

theorem PtAt.lt {w : World} {C : Nat} {a : Pt} (h : PtAt w C a) : C < w.heap.size := block_lt_of_cell h.c0
theorem CvF.lt {w : World} {C : Nat} {p A B N x y : Int} (h : CvF w C p A B N x y) : C < w.heap.size := block_lt_of_cell h.c.c0

set_option maxHeartbeats 1600000 in
set_option maxRecDepth 100000 in
theorem drawCurve_any (a : Option Addr) (b off n cap : Nat) (f : Nat → Int) (w : World) (hs : BSeg w a b off n f) (hB : ∀ i, i < n → 0 ≤ f i ∧ f i ≤ 255) (hn : n ≤ 1048576) :
    Calls Tryd.prog 10 #[.slice a n cap] w fun e w' => GivesCurve w e w' := by
  go_enter Tryd.func10, Tryd.ntmps10
  go_wp2_with fail
  have E0 : Ext w (((w.alloc (.cells #[.int .i64 0, .int .i64 0, .int .i64 0, .int .i64 0, .int .i64 0, .int .i64 0] 25)).alloc (.cells #[.int .i64 0, .int .i64 0, .bool false] 27)).alloc (.cells #[.int .i64 0, .int .i64 0, .bool false] 27)) := ((Ext.alloc _ _).trans (Ext.alloc _ _)).trans (Ext.alloc _ _)
  refine (l1New_any a b off n cap f _ (hs.of_all E0) hB hn).mono ?_
  rintro e w1 ⟨rfl, hC1, sz1, hw1⟩
  have Fr : CvF w1 w.heap.size 0 0 0 0 0 0 := (((CvF.alloc w 0 0 0 0 0 0 25).of_block (Below.heap_alloc _ _ _ (by simp))).of_block (Below.heap_alloc _ _ _ (by simp; omega))).of_block (hw1.block _ (by simp; omega))
  have Pr : PtAt w1 (w.heap.size + 1) zeroP := ((by have := PtAt.alloc (w.alloc (.cells #[.int .i64 0, .int .i64 0, .int .i64 0, .int .i64 0, .int .i64 0, .int .i64 0] 25)) zeroP 27; rwa [World.size_alloc] at this : PtAt ((w.alloc (.cells #[.int .i64 0, .int .i64 0, .int .i64 0, .int .i64 0, .int .i64 0, .int .i64 0] 25)).alloc (.cells #[.int .i64 0, .int .i64 0, .bool false] 27)) (w.heap.size + 1) zeroP).of_block (Below.heap_alloc _ _ _ (by simp))).of_block (hw1.block _ (by simp))
  have Qr : PtAt w1 (w.heap.size + 1 + 1) zeroP := (by have := PtAt.alloc ((w.alloc (.cells #[.int .i64 0, .int .i64 0, .int .i64 0, .int .i64 0, .int .i64 0, .int .i64 0] 25)).alloc (.cells #[.int .i64 0, .int .i64 0, .bool false] 27)) zeroP 27; rwa [World.size_alloc, World.size_alloc] at this : PtAt (((w.alloc (.cells #[.int .i64 0, .int .i64 0, .int .i64 0, .int .i64 0, .int .i64 0, .int .i64 0] 25)).alloc (.cells #[.int .i64 0, .int .i64 0, .bool false] 27)).alloc (.cells #[.int .i64 0, .int .i64 0, .bool false] 27)) (w.heap.size + 1 + 1) zeroP).of_block (hw1.block _ (by simp))
  have E1 : Ext w w1 := E0.trans hw1
  have hK1 : Code w1 (w.heap.size + 1 + 1 + 1) a b off n f := ⟨hs.of_all E1, hB, fun h => by have := hs.lt h; omega⟩
  simp only [World.size_alloc] at hC1 sz1
  clear E0 hw1
  generalize hCn : w.heap.size + 1 + 1 + 1 = C at *
  go_wp2_with fail
  show Calls Tryd.prog 36 #[.pointer (some ⟨C, 0, none⟩)] w1 _
  refine (l3Draw_any C a b off n cap f _ hC1 hK1 hn).mono ?_
  rintro e w2 ⟨j, hj, rfl, hC2, G2⟩
  have hck := crv_ok hj
  have hbC : 0 < n → b < w.heap.size := fun h => hs.lt h
  have hcC : ∀ k, k < w1.heap.size → k ≠ C → w2.heap[k]? = w1.heap[k]? := fun k hk hne => G2.block k hk hne
  have hK2 : Code w2 C a b off n f := hK1.grw G2 hK1.ne
  have Fr2 : CvF w2 w.heap.size 0 0 0 0 0 0 := Fr.of_block (hcC _ Fr.lt (by omega))
  have Pr2 : PtAt w2 (w.heap.size + 1) zeroP := Pr.of_block (hcC _ Pr.lt (by omega))
  have Qr2 : PtAt w2 (w.heap.size + 1 + 1) zeroP := Qr.of_block (hcC _ Qr.lt (by omega))
  have B2 : Below w.heap.size w w2 := ⟨G2.os.trans E1.os, G2.tape.trans E1.tape, G2.output.trans E1.output, Nat.le_trans (Below.size E1) G2.size, fun k hk => (hcC k (Nat.lt_of_lt_of_le hk (Below.size E1)) (by omega)).trans (E1.block k hk)⟩
  clear Fr Pr Qr E1 hK1 hC1 G2 hcC sz1
  have EV : Ext w2 ((w2.alloc (.cells #[.int .i64 (kP j), .int .i64 (kA j), .int .i64 (kB j), .int .i64 (kN j), .int .i64 (kX j), .int .i64 (kY j)] 25)).alloc (.cells #[.int .i64 (kX j), .int .i64 (kY j), .bool false] 27)) := (Ext.alloc _ _).trans (Ext.alloc _ _)
  have KV : CvF ((w2.alloc (.cells #[.int .i64 (kP j), .int .i64 (kA j), .int .i64 (kB j), .int .i64 (kN j), .int .i64 (kX j), .int .i64 (kY j)] 25)).alloc (.cells #[.int .i64 (kX j), .int .i64 (kY j), .bool false] 27)) w2.heap.size (kP j) (kA j) (kB j) (kN j) (kX j) (kY j) := (CvF.alloc w2 (kP j) (kA j) (kB j) (kN j) (kX j) (kY j) 25).of_block (Below.heap_alloc _ _ _ (by simp))
  have GV : PtAt ((w2.alloc (.cells #[.int .i64 (kP j), .int .i64 (kA j), .int .i64 (kB j), .int .i64 (kN j), .int .i64 (kX j), .int .i64 (kY j)] 25)).alloc (.cells #[.int .i64 (kX j), .int .i64 (kY j), .bool false] 27)) (w2.heap.size + 1) ⟨kX j, kY j, false⟩ := by
    have := PtAt.alloc (w2.alloc (.cells #[.int .i64 (kP j), .int .i64 (kA j), .int .i64 (kB j), .int .i64 (kN j), .int .i64 (kX j), .int .i64 (kY j)] 25)) ⟨kX j, kY j, false⟩ 27
    rwa [World.size_alloc] at this
  go_wp2
  generalize ((w2.alloc (.cells #[.int .i64 (kP j), .int .i64 (kA j), .int .i64 (kB j), .int .i64 (kN j), .int .i64 (kX j), .int .i64 (kY j)] 25)).alloc (.cells #[.int .i64 (kX j), .int .i64 (kY j), .bool false] 27)) = V at *
  have s2 : C < w2.heap.size := hC2.lt
  have hCV := hC2.ext EV
  have hKV := hK2.ext EV
  have FV : CvF V w.heap.size 0 0 0 0 0 0 := Fr2.of_block (EV.block _ Fr2.lt)
  have PV : PtAt V (w.heap.size + 1) zeroP := Pr2.of_block (EV.block _ Pr2.lt)
  have QV : PtAt V (w.heap.size + 1 + 1) zeroP := Qr2.of_block (EV.block _ Qr2.lt)
  have BV : Below w.heap.size w V := B2.trans ((show Below w2.heap.size w2 V from EV).mono B2.size)
  clear Fr2 Pr2 Qr2 B2 EV hC2 hK2
  generalize w2.heap.size = S at *
  clear w2 w1
  obtain ⟨X, hX⟩ : ∃ X : Nat → Prop, X = fun k => w.heap.size ≤ k ∧ k ≤ C := ⟨_, rfl⟩
  have xS : ¬ X S := by rw [hX]; simp; omega
  have xG : ¬ X (S + 1) := by rw [hX]; simp; omega
  have x0 : X w.heap.size := by rw [hX]; simp; omega
  have x1 : X (w.heap.size + 1) := by rw [hX]; simp; omega
  have x2 : X (w.heap.size + 1 + 1) := by rw [hX]; simp; omega
  have xC : X C := by rw [hX]; simp; omega
  have xb : 0 < n → ¬ X b := fun h => by have := hbC h; rw [hX]; simp; omega
  have xw : ∀ k, k < w.heap.size → ¬ X k := fun k h => by rw [hX]; simp; omega
  clear hX
  obtain ⟨⟨k0, k1, k2, k3, k4, k5⟩, -⟩ := KV
  obtain ⟨g0, g1, g2, -, -, -⟩ := GV
  have e0 := cell_reC k0 xS
  have e1 := cell_reC k1 xS
  have e2 := cell_reC k2 xS
  have e3 := cell_reC k3 xS
  have e4 := cell_reC k4 xS
  have e5 := cell_reC k5 xS
  have d0 := cell_reC g0 xG
  have d1 := cell_reC g1 xG
  have d2 := cell_reC g2 xG
  clear k0 k1 k2 k3 k4 k5 g0 g1 g2
  refine anyK_begin X 14 rfl (by kernel_rfl) ?_
  refine anyK_take 0 3 11 rfl (by decide) (by kernel_rfl) (fun _ _ d _ _ h => by cases d <;> exact h) ?_
  repeat (refine headC_step (fun K hK => ?_); go_simp; first | (refine hK _ ?_; clear hK K) | (apply Exists.intro; refine ⟨fun _ => ?_, hK _ ?_⟩; (fail); clear hK K))
  refine headC_nil ?_
  refine anyK_take 4 1 10 rfl (by decide) (by kernel_rfl) (fun _ _ d _ _ h => by cases d <;> exact h) ?_
  repeat (refine headC_step (fun K hK => ?_); go_simp; first | (refine hK _ ?_; clear hK K) | (apply Exists.intro; refine ⟨fun _ => ?_, hK _ ?_⟩; (fail); clear hK K))
  refine headC_nil ?_
  refine anyK_take 6 2 8 rfl (by decide) (by kernel_rfl) (fun _ _ d _ _ h => by cases d <;> exact h) ?_
  repeat (refine headC_step (fun K hK => ?_); go_simp; first | (refine hK _ ?_; clear hK K) | (apply Exists.intro; refine ⟨fun _ => ?_, hK _ ?_⟩; (fail); clear hK K))
  refine headC_nil ?_
  refine anyK_take 9 1 7 rfl (by decide) (by kernel_rfl) (fun _ _ d _ _ h => by cases d <;> exact h) ?_
  repeat (refine headC_step (fun K hK => ?_); go_simp; first | (refine hK _ ?_; clear hK K) | (apply Exists.intro; refine ⟨fun _ => ?_, hK _ ?_⟩; (fail); clear hK K))
  refine headC_nil ?_
  clear e0 e1 e2 e3 e4 e5 d0 d1 d2
  have HV : Grw (Cx C) V V := .refl _ _
  refine anyK_one 3 (by kernel_rfl) ?_
  refine stepK_run rfl ?_
  intro w3' h3 K hK
  go_simp
  refine (l1Below_any C a b off n cap f 20000 _ (hCV.ext h3) (hKV.ext h3) hn (by omega) (by omega)).mono ?_
  rintro e w3 ⟨m3, rfl, m30, m31, hC3, T3⟩
  have H3 : Grw (Cx C) V w3 := (HV.trans (.of_ext h3)).trans (.of_touch T3 rfl)
  have hK3 := (hKV.ext h3).touch T3
  go_simp
  refine hK _ _ (H3.mono (by rintro k rfl; exact xC)) ?_
  clear hK K h3 T3 hCV hKV HV w3'
  obtain ⟨A1, hA1⟩ : ∃ A1, mulF (kP j).toNat (kA j) m3.toNat ⟨kX j, kY j, false⟩ = A1 := ⟨_, rfl⟩
  have M5 := l3Mul_ok hck hck.g m3 m30 (by omega)
  rw [hA1] at M5
  simp only [ptV] at M5
  replace M5 := hide M5
  refine anyK_one 5 (by kernel_rfl) ?_
  refine stepK_run rfl ?_
  intro w5' h5 K hK
  go_simp
  refine (M5.out _).mono ?_
  rintro e w5 ⟨rfl, hw5⟩
  replace hw5 := Ext.trans h5 hw5
  have H5 : Grw (Cx C) V w5 := H3.trans (.of_ext hw5)
  have hC5 := hC3.ext hw5
  have hK5 := hK3.ext hw5
  go_simp
  refine hK _ _ (H5.mono (by rintro k rfl; exact xC)) ?_
  clear hK K h5 hw5 hC3 hK3 H3 w5' M5
  refine anyK_one 8 (by kernel_rfl) ?_
  refine stepK_run rfl ?_
  intro w8' h8 K hK
  go_simp
  refine (l1Below_any C a b off n cap f 300 _ (hC5.ext h8) (hK5.ext h8) hn (by omega) (by omega)).mono ?_
  rintro e w8 ⟨m8, rfl, m80, m81, hC8, T8⟩
  have H8 : Grw (Cx C) V w8 := (H5.trans (.of_ext h8)).trans (.of_touch T8 rfl)
  have hK8 := (hK5.ext h8).touch T8
  go_simp
  refine hK _ _ (H8.mono (by rintro k rfl; exact xC)) ?_
  clear hK K h8 T8 hC5 hK5 H5 w8'
  obtain ⟨A2, hA2⟩ : ∃ A2, mulF (kP j).toNat (kA j) m8.toNat ⟨kX j, kY j, false⟩ = A2 := ⟨_, rfl⟩
  have M10 := l3Mul_ok hck hck.g m8 m80 (by omega)
  rw [hA2] at M10
  simp only [ptV] at M10
  replace M10 := hide M10
  refine anyK_one 10 (by kernel_rfl) ?_
  refine stepK_run rfl ?_
  intro w10' h10 K hK
  go_simp
  refine (M10.out _).mono ?_
  rintro e w10 ⟨rfl, hw10⟩
  replace hw10 := Ext.trans h10 hw10
  have H10 : Grw (Cx C) V w10 := H8.trans (.of_ext hw10)
  have hC10 := hC8.ext hw10
  have hK10 := hK8.ext hw10
  go_simp
  refine hK _ _ (H10.mono (by rintro k rfl; exact xC)) ?_
  clear hK K h10 hw10 hC8 hK8 H8 w10' M10
  have F : CvF w10 w.heap.size 0 0 0 0 0 0 := FV.of_block (H10.block _ FV.lt (by unfold Cx; omega))
  have P1 : PtAt w10 (w.heap.size + 1) zeroP := PV.of_block (H10.block _ PV.lt (by unfold Cx; omega))
  have Q1 : PtAt w10 (w.heap.size + 1 + 1) zeroP := QV.of_block (H10.block _ QV.lt (by unfold Cx; omega))
  replace H10 : Grw X V w10 := H10.mono (by rintro k rfl; exact xC)
  clear hC10 hK10 FV PV QV
  refine anyK_one 11 (by kernel_rfl) ?_
  refine stepK_run rfl ?_
  intro w11 h11 K hK
  replace F := F.of_block (h11.block _ F.lt)
  replace P1 := P1.of_block (h11.block _ P1.lt)
  replace Q1 := Q1.of_block (h11.block _ Q1.lt)
  have H11 : Grw X V (putCv w11 w.heap.size (kP j) (kA j) (kB j) (kN j) (kX j) (kY j)) := (H10.trans (.of_ext h11)).trans (.of_touch (touch_putCv _ _ _ _ _ _ _ _) x0)
  have F' := F
  obtain ⟨⟨z0, z1, z2, z3, z4, z5⟩, fz⟩ := F'
  go_simp
  refine hK _ (putCv w11 w.heap.size (kP j) (kA j) (kB j) (kN j) (kX j) (kY j)) H11 ?_
  clear hK K z0 z1 z2 z3 z4 z5 fz H10 h11
  replace F := F.put (kP j) (kA j) (kB j) (kN j) (kX j) (kY j)
  replace P1 := P1.of_block (heap_putCv w11 w.heap.size (kP j) (kA j) (kB j) (kN j) (kX j) (kY j) (by omega))
  replace Q1 := Q1.of_block (heap_putCv w11 w.heap.size (kP j) (kA j) (kB j) (kN j) (kX j) (kY j) (by omega))
  generalize putCv w11 w.heap.size (kP j) (kA j) (kB j) (kN j) (kX j) (kY j) = W11 at *
  refine anyK_one 12 (by kernel_rfl) ?_
  refine stepK_run rfl ?_
  intro w12 h12 K hK
  replace F := F.of_block (h12.block _ F.lt)
  replace P1 := P1.of_block (h12.block _ P1.lt)
  replace Q1 := Q1.of_block (h12.block _ Q1.lt)
  have H12 : Grw X V (putPt w12 (w.heap.size + 1) A1) := (H11.trans (.of_ext h12)).trans (.of_touch (touch_putPt _ _ _) x1)
  have P' := P1
  obtain ⟨z0, z1, z2, y0, y1, y2⟩ := P'
  simp only [zeroP] at z0 z1 z2
  go_simp
  refine hK _ (putPt w12 (w.heap.size + 1) A1) H12 ?_
  clear hK K z0 z1 z2 y0 y1 y2 H11 h12
  replace P1 := P1.put A1
  replace F := F.of_block ((touch_putPt w12 (w.heap.size + 1) A1).grown.block _ F.lt (by simp <;> omega))
  replace Q1 := Q1.of_block ((touch_putPt w12 (w.heap.size + 1) A1).grown.block _ Q1.lt (by simp))
  generalize putPt w12 (w.heap.size + 1) A1 = W12 at *
  refine anyK_one 13 (by kernel_rfl) ?_
  refine stepK_run rfl ?_
  intro w13 h13 K hK
  replace F := F.of_block (h13.block _ F.lt)
  replace P1 := P1.of_block (h13.block _ P1.lt)
  replace Q1 := Q1.of_block (h13.block _ Q1.lt)
  have H13 : Grw X V (putPt w13 (w.heap.size + 1 + 1) A2) := (H12.trans (.of_ext h13)).trans (.of_touch (touch_putPt _ _ _) x2)
  have P' := Q1
  obtain ⟨z0, z1, z2, y0, y1, y2⟩ := P'
  simp only [zeroP] at z0 z1 z2
  go_simp
  refine hK _ (putPt w13 (w.heap.size + 1 + 1) A2) H13 ?_
  clear hK K z0 z1 z2 y0 y1 y2 H12 h13
  replace Q1 := Q1.put A2
  replace F := F.of_block ((touch_putPt w13 (w.heap.size + 1 + 1) A2).grown.block _ F.lt (by simp <;> omega))
  replace P1 := P1.of_block ((touch_putPt w13 (w.heap.size + 1 + 1) A2).grown.block _ P1.lt (by simp))
  generalize putPt w13 (w.heap.size + 1 + 1) A2 = W13 at *
  refine anyK_done (by kernel_rfl) ?_ 0
  intro wz hz
  replace F := F.of_block (hz.block _ F.lt)
  replace P1 := P1.of_block (hz.block _ P1.lt)
  replace Q1 := Q1.of_block (hz.block _ Q1.lt)
  have HG : Hid (GivesCurve w (.returned (.tuple #[.agg #[.int .i64 (kP j), .int .i64 (kA j), .int .i64 (kB j), .int .i64 (kN j), .int .i64 (kX j), .int .i64 (kY j)], .agg #[.int .i64 A1.x, .int .i64 A1.y, .bool A1.far], .agg #[.int .i64 A2.x, .int .i64 A2.y, .bool A2.far]])) wz) := by
    refine ⟨j, m3.toNat, m8.toNat, hj, by omega, by omega, ?_, BV.trans ((H13.trans (.of_ext hz)).below xw BV.size)⟩
    rw [hA1, hA2]; rfl
  obtain ⟨⟨k0, k1, k2, k3, k4, k5⟩, -⟩ := F
  obtain ⟨p0, p1, p2, -, -, -⟩ := P1
  obtain ⟨q0, q1, q2, -, -, -⟩ := Q1
  clear H13 hz hA1 hA2 BV xw xb xC x0 x1 x2 xS xG
  go_wp2
  refine bodyPost_ret (v := .tuple #[.agg #[.int .i64 (kP j), .int .i64 (kA j), .int .i64 (kB j), .int .i64 (kN j), .int .i64 (kX j), .int .i64 (kY j)], .agg #[.int .i64 A1.x, .int .i64 A1.y, .bool A1.far], .agg #[.int .i64 A2.x, .int .i64 A2.y, .bool A2.far]]) (by simp [results, Tryd.results10, go_sem, k0, k1, k2, k3, k4, k5, p0, p1, p2, q0, q1, q2]) rfl HG.out

end Go.Proofs.YtejlgcnhfomadaaDoor
