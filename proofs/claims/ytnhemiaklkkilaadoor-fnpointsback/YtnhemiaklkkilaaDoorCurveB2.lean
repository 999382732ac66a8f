/- Walks: PointBytes of the program. -/
import Derived.Test.YtnhemiaklkkilaaDoorCurveU
import Derived.Test.YtnhemiaklkkilaaDoorCurveB
namespace Go.Proofs.YtnhemiaklkkilaaDoor
set_option linter.unusedVariables false
open Go.RowKit Go.Sort

/-- Three bytes in a block of their own. -/
structure TrAt (w : World) (C : Nat) (a b c : Int) : Prop where
  c0 : w.cell? ⟨C, 0, none⟩ = some (.int .u8 a)
  c1 : w.cell? ⟨C, 1, none⟩ = some (.int .u8 b)
  c2 : w.cell? ⟨C, 2, none⟩ = some (.int .u8 c)
  f0 : w.frozen? ⟨C, 0, none⟩ = false
  f1 : w.frozen? ⟨C, 1, none⟩ = false
  f2 : w.frozen? ⟨C, 2, none⟩ = false

theorem TrAt.below {w w' : World} {C : Nat} {a b c : Int} (h : TrAt w C a b c) {S : Nat} (hb : Below S w w') (hC : C < S) : TrAt w' C a b c :=
  ⟨(hb.cell (p := ⟨C, 0, none⟩) hC).trans h.c0, (hb.cell (p := ⟨C, 1, none⟩) hC).trans h.c1, (hb.cell (p := ⟨C, 2, none⟩) hC).trans h.c2,
   (hb.frozen (p := ⟨C, 0, none⟩) hC).trans h.f0, (hb.frozen (p := ⟨C, 1, none⟩) hC).trans h.f1, (hb.frozen (p := ⟨C, 2, none⟩) hC).trans h.f2⟩

theorem TrAt.lt {w : World} {C : Nat} {a b c : Int} (h : TrAt w C a b c) : C < w.heap.size := World.block_lt_of_cell? _ _ h.c0

theorem TrAt.ext {w w' : World} {C : Nat} {a b c : Int} (h : TrAt w C a b c) (hx : Ext w w') : TrAt w' C a b c := h.below hx h.lt

def put3 (w : World) (C : Nat) (a b c : Int) : World := ((w.setCell ⟨C, 0, none⟩ (.int .u8 a)).setCell ⟨C, 1, none⟩ (.int .u8 b)).setCell ⟨C, 2, none⟩ (.int .u8 c)

theorem TrAt.put {w : World} {C : Nat} {a b c : Int} (h : TrAt w C a b c) (a' b' c' : Int) : TrAt (put3 w C a' b' c') C a' b' c' := by
  have e01 : (⟨C, 0, none⟩ : Addr) ≠ ⟨C, 1, none⟩ := fun e => by have := congrArg Addr.off e; simp at this
  have e02 : (⟨C, 0, none⟩ : Addr) ≠ ⟨C, 2, none⟩ := fun e => by have := congrArg Addr.off e; simp at this
  have e12 : (⟨C, 1, none⟩ : Addr) ≠ ⟨C, 2, none⟩ := fun e => by have := congrArg Addr.off e; simp at this
  unfold put3
  refine ⟨?_, ?_, ?_, ?_, ?_, ?_⟩
  · rw [World.cell?_setCell_other _ _ _ _ e02.symm, World.cell?_setCell_other _ _ _ _ e01.symm, World.cell?_setCell_same _ _ _ h.c0]
  · rw [World.cell?_setCell_other _ _ _ _ e12.symm, World.cell?_setCell_same _ _ _ ((World.cell?_setCell_other _ _ _ _ e01).trans h.c1)]
  · rw [World.cell?_setCell_same _ _ _ ((World.cell?_setCell_other _ _ _ _ e12).trans ((World.cell?_setCell_other _ _ _ _ e02).trans h.c2))]
  · rw [World.frozen?_setCell, World.frozen?_setCell, World.frozen?_setCell]; exact h.f0
  · rw [World.frozen?_setCell, World.frozen?_setCell, World.frozen?_setCell]; exact h.f1
  · rw [World.frozen?_setCell, World.frozen?_setCell, World.frozen?_setCell]; exact h.f2

theorem cell_put3 {w : World} {C : Nat} {a b c : Int} {D o : Nat} (h : D ≠ C) : (put3 w C a b c).cell? ⟨D, o, none⟩ = w.cell? ⟨D, o, none⟩ := by
  unfold put3
  rw [World.cell?_setCell_other _ _ _ _ (fun e => h (congrArg Addr.block e).symm), World.cell?_setCell_other _ _ _ _ (fun e => h (congrArg Addr.block e).symm), World.cell?_setCell_other _ _ _ _ (fun e => h (congrArg Addr.block e).symm)]

theorem frozen_put3 {w : World} {C : Nat} {a b c : Int} {D o : Nat} : (put3 w C a b c).frozen? ⟨D, o, none⟩ = w.frozen? ⟨D, o, none⟩ := by
  unfold put3
  rw [World.frozen?_setCell, World.frozen?_setCell, World.frozen?_setCell]

theorem TrAt.put_other {w : World} {C D : Nat} {a b c a' b' c' : Int} (h : TrAt w D a b c) (hne : D ≠ C) : TrAt (put3 w C a' b' c') D a b c :=
  ⟨(cell_put3 hne).trans h.c0, (cell_put3 hne).trans h.c1, (cell_put3 hne).trans h.c2, frozen_put3.trans h.f0, frozen_put3.trans h.f1, frozen_put3.trans h.f2⟩

theorem ext_put3 {V w : World} (h : Ext V w) {C : Nat} (hC : V.heap.size ≤ C) (a b c : Int) : Ext V (put3 w C a b c) := Below.setCell (p := ⟨C, 2, none⟩) (Below.setCell (p := ⟨C, 1, none⟩) (Below.setCell (p := ⟨C, 0, none⟩) h hC _) hC _) hC _

theorem TrAt.alloc (w : World) (a b c : Int) (t : TypeId) : TrAt (w.alloc (.cells #[.int .u8 a, .int .u8 b, .int .u8 c] t)) w.heap.size a b c :=
  ⟨by simp [go_sem], by simp [go_sem], by simp [go_sem], by simp [go_sem], by simp [go_sem], by simp [go_sem]⟩

theorem farPoint_lit (w : World) : Calls Tryd.prog 35 #[] w fun r w' => r = .returned (.agg #[.int .i64 0, .int .i64 0, .bool true]) ∧ Below w.heap.size w w' := farPoint_any w

set_option maxHeartbeats 400000 in
theorem highBytes_any (x : Int) (w : World) (x0 : 0 ≤ x) (x1 : x ≤ 16777215) : Calls Tryd.prog 37 #[.int .i64 x] w fun r w' => r = .returned (.agg #[.int .u8 (x / 65536), .int .u8 (x / 256 % 256), .int .u8 (x % 256)]) ∧ Below w.heap.size w w' := by
  go_enter Tryd.func37, Tryd.ntmps37
  go_wp2
  refine bodyPost_ret (v := .agg #[.int .u8 (x / 65536), .int .u8 (x / 256 % 256), .int .u8 (x % 256)]) (by simp [results, Tryd.results37, go_sem]) rfl ⟨rfl, ?_⟩
  exact (Below.refl _ _).alloc (Nat.le_refl _) _

set_option maxHeartbeats 1600000 in
set_option maxRecDepth 100000 in
theorem implPointBytes_any (P A B N gx gy : Int) (a : Pt) (short : Bool) (w : World) (hP1 : P ≤ 9223372036854775807) (hN1 : N ≤ 9223372036854775807) :
    Calls Tryd.prog 17 #[.agg #[.int .i64 P, .int .i64 A, .int .i64 B, .int .i64 N, .int .i64 gx, .int .i64 gy], .agg #[.int .i64 a.x, .int .i64 a.y, .bool a.far], .bool short] w fun e w' => GivesPB P A B N gx gy a short w e w' := by
  have hEq := run_eqPt
  have F0 := Fr2b w P A B N gx gy a 25 27
  have HF0 := hide F0
  go_enter Tryd.func17, Tryd.ntmps17
  obtain ⟨⟨k0, k1, k2, k3, k4, k5⟩, ⟨a0, a1, a2, -, -, -⟩⟩ := F0
  go_wp2_with fail
  refine (implPointOk_any P A B N gx gy a _ hP1 hN1).mono ?_
  rintro r w1 ⟨⟨ok, rfl, h1⟩, hw1⟩
  have K1 := HF0.out.2.below hw1 (by simp)
  have B1 : Below w.heap.size w w1 := (((Below.refl w.heap.size w).alloc (Nat.le_refl _) _).alloc (by simp) _).trans (hw1.mono (by simp <;> omega))
  have z1 : w.heap.size + 1 < w1.heap.size := by have := hw1.size; simp at this; omega
  clear k0 k1 k2 k3 k4 k5 a0 a1 a2 HF0
  cases ok
  · have HG : Hid (∀ e w', GivesBs w 0 (ptByte a short) false e w' → GivesPB P A B N gx gy a short w e w') := fun e w' h => ⟨false, h1, h⟩
    clear h1 K1 hw1
    go_wp2
    go_ret2
    exact HG.out _ _ ⟨_, w1.heap.size, _, rfl, B1.size, BOwn.nil _ _ _ _ _, B1.alloc B1.size _, Nat.zero_le _, (Lies.new w1 #[]).owns B1.size rfl (by decide)⟩
  have hc := h1.1 rfl
  have HG : Hid (∀ e w', GivesBs w (ptLen a short true) (ptByte a short) true e w' → GivesPB P A B N gx gy a short w e w') := fun e w' h => ⟨true, h1, h⟩
  have HB := hide B1
  have HK := hide K1
  clear h1 hw1
  obtain ⟨p0, p1, p2, -, -, -⟩ := K1
  cases hf : a.far
  rotate_left
  · have HG : Hid (∀ e w', GivesBs w 1 (fun _ => 0) true e w' → GivesPB P A B N gx gy a short w e w') := fun e w' h => HG.out e w' (by
      have e1 : ptLen a short true = 1 := by simp [ptLen, hf]
      have e2 : ptByte a short = fun _ => 0 := by funext i; simp [ptByte, hf]
      rw [e1, e2]; exact h)
    have hz := hc.2.far_eq hf
    rw [hf] at p2
    rw [show a.x = 0 by rw [hz]; rfl] at p0
    rw [show a.y = 0 by rw [hz]; rfl] at p1
    have e0 := cell_regrown p0
    have e1 := cell_regrown p1
    have e2 := cell_regrown p2
    clear hf hz hc p0 p1 p2 B1
    go_wp2
    refine anyW_begin 3 rfl (by kernel_rfl) ?_
    refine anyW_take 0 3 0 rfl (by decide) (by kernel_rfl) (fun _ _ d _ _ h => by cases d <;> exact h) ?_
    repeat (refine headS_step (fun K hK => ?_); go_simp; first | (refine hK _ ?_; clear hK K) | (apply Exists.intro; refine ⟨fun _ => ?_, hK _ ?_⟩; ((go_at_call 35; exact calls_head (farPoint_lit _))); clear hK K))
    refine headS_nil ?_
    refine anyW_done (by kernel_rfl) ?_ 0
    intro wq hwq
    clear e0 e1 e2
    go_wp2
    go_ret2
    exact HG.out _ _ (givesBs_of_owns (f := fun _ => 0) ((Lies.new wq #[.int .u8 0]).owns (Nat.le_refl _) rfl (by decide)) (Nat.le_trans HB.out.size (Below.size hwq)) rfl ((HB.out.trans ((show Below w1.heap.size w1 wq from hwq).mono HB.out.size)).alloc (Nat.le_trans HB.out.size (Below.size hwq)) _))
  rw [hf] at p2
  obtain ⟨⟨x0, x1⟩, y0, y1⟩ := on_range hc.1 hc.2
  have e0 := cell_regrown p0
  have e1 := cell_regrown p1
  have e2 := cell_regrown p2
  clear hc B1 p0 p1 p2
  have Hf := hide hf
  clear hf
  go_wp2
  refine anyW_begin 3 rfl (by kernel_rfl) ?_
  refine anyW_take 0 3 0 rfl (by decide) (by kernel_rfl) (fun _ _ d _ _ h => by cases d <;> exact h) ?_
  repeat (refine headS_step (fun K hK => ?_); go_simp; first | (refine hK _ ?_; clear hK K) | (apply Exists.intro; refine ⟨fun _ => ?_, hK _ ?_⟩; ((go_at_call 35; exact calls_head (farPoint_lit _))); clear hK K))
  refine headS_nil ?_
  refine anyW_done (by kernel_rfl) ?_ 0
  intro wq hwq
  clear e0 e1 e2
  have Kq := HK.out.below hwq z1
  have zq : w.heap.size + 1 < wq.heap.size := Nat.lt_of_lt_of_le z1 (Below.size hwq)
  have HBq : Hid (Below w.heap.size w wq) := HB.out.trans ((show Below w1.heap.size w1 wq from hwq).mono HB.out.size)
  have HKq := hide Kq
  clear HK HB z1 hwq
  obtain ⟨p0, p1, p2, -, -, -⟩ := Kq
  have e0 := cell_regrown p0
  have e1 := cell_regrown p1
  clear p0 p1 p2
  go_wp2
  refine anyW_begin 10 rfl (by kernel_rfl) ?_
  refine anyW_take 0 6 4 rfl (by decide) (by kernel_rfl) (fun _ _ d _ _ h => by cases d <;> exact h) ?_
  repeat (refine headS_step (fun K hK => ?_); go_simp; first | (refine hK _ ?_; clear hK K) | (apply Exists.intro; refine ⟨fun _ => ?_, hK _ ?_⟩; ((first | (go_at_call_of 37 (a.x); exact calls_head (highBytes_any _ _ x0 x1)) | (go_at_call_of 37 (a.y); exact calls_head (highBytes_any _ _ y0 y1)))); clear hK K))
  refine headS_nil ?_
  clear e0 e1
  refine anyW_two 6 7 (by kernel_rfl) ?_ ?_
  · skip
    refine stepW_run rfl ?_
    intro wa' hwa K hK
    go_simp
    have Ewa := Ext.trans (Ext.refl wq) (Ext.trans hwa (ext_alloc wa' (.cells #[.int .u8 0, .int .u8 0, .int .u8 0] 67)))
    have Xwa := Ext.trans hwa (ext_alloc wa' (.cells #[.int .u8 0, .int .u8 0, .int .u8 0] 67))
    have TgX := TrAt.alloc wa' 0 0 0 67
    have sgX : wq.heap.size ≤ wa'.heap.size := Nat.le_trans (Below.size (Ext.refl wq)) (Below.size hwa)
    have LgX : wq.heap.size ≤ wa'.heap.size := Below.size hwa
    refine hK _ _ Ewa ?_
    clear hK K hwa
    generalize wa'.alloc (.cells #[.int .u8 0, .int .u8 0, .int .u8 0] 67) = wa at *
    generalize wa'.heap.size = gX at *
    clear wa'
    refine anyW_one 7 (by kernel_rfl) ?_
    refine stepW_run rfl ?_
    intro wb' hwb K hK
    go_simp
    have Ewb := Ext.trans (Ewa) (Ext.trans hwb (ext_alloc wb' (.cells #[.int .u8 0, .int .u8 0, .int .u8 0] 67)))
    have Xwb := Ext.trans hwb (ext_alloc wb' (.cells #[.int .u8 0, .int .u8 0, .int .u8 0] 67))
    have TgY := TrAt.alloc wb' 0 0 0 67
    have sgY : wq.heap.size ≤ wb'.heap.size := Nat.le_trans (Below.size (Ewa)) (Below.size hwb)
    have LgY : wa.heap.size ≤ wb'.heap.size := Below.size hwb
    refine hK _ _ Ewb ?_
    clear hK K hwb
    generalize wb'.alloc (.cells #[.int .u8 0, .int .u8 0, .int .u8 0] 67) = wb at *
    generalize wb'.heap.size = gY at *
    clear wb'
    have ne : gX ≠ gY := by have := TgX.lt; omega
    replace TgX := TgX.ext Xwb
    clear Xwa Xwb Ewa LgX LgY
    refine anyW_one 8 (by kernel_rfl) ?_
    refine stepW_run rfl ?_
    intro wc' hwc K hK
    replace TgX := TgX.ext hwc
    have Ewc := ext_put3 (Ext.trans Ewb hwc) sgX (a.x / 65536) (a.x / 256 % 256) (a.x % 256)
    have TgX' := TgX
    obtain ⟨t0, t1, t2, v0, v1, v2⟩ := TgX'
    go_simp
    refine hK _ (put3 wc' gX (a.x / 65536) (a.x / 256 % 256) (a.x % 256)) Ewc ?_
    clear hK K t0 t1 t2 v0 v1 v2
    replace TgX := TgX.put (a.x / 65536) (a.x / 256 % 256) (a.x % 256)
    replace TgY := (TgY.ext hwc).put_other (a' := a.x / 65536) (b' := a.x / 256 % 256) (c' := a.x % 256) ne.symm
    clear hwc
    generalize put3 wc' gX (a.x / 65536) (a.x / 256 % 256) (a.x % 256) = wc at *
    clear wc'
    refine anyW_one 9 (by kernel_rfl) ?_
    refine stepW_run rfl ?_
    intro wd' hwd K hK
    replace TgY := TgY.ext hwd
    have Ewd := ext_put3 (Ext.trans Ewc hwd) sgY (a.y / 65536) (a.y / 256 % 256) (a.y % 256)
    have TgY' := TgY
    obtain ⟨t0, t1, t2, v0, v1, v2⟩ := TgY'
    go_simp
    refine hK _ (put3 wd' gY (a.y / 65536) (a.y / 256 % 256) (a.y % 256)) Ewd ?_
    clear hK K t0 t1 t2 v0 v1 v2
    replace TgY := TgY.put (a.y / 65536) (a.y / 256 % 256) (a.y % 256)
    replace TgX := (TgX.ext hwd).put_other (a' := a.y / 65536) (b' := a.y / 256 % 256) (c' := a.y % 256) ne
    clear hwd
    generalize put3 wd' gY (a.y / 65536) (a.y / 256 % 256) (a.y % 256) = wd at *
    clear wd'
    refine anyW_done (by kernel_rfl) ?_ 0
    intro wr hwr
    have TX := TgX.ext hwr
    have TY := TgY.ext hwr
    have Er : Below wq.heap.size wq wr := Ext.trans Ewd hwr
    have Kr := HKq.out.below Er zq
    have HBr : Hid (Below w.heap.size w wr) := HBq.out.trans (Er.mono (by omega))
    clear TgX TgY hwr Er Ewb Ewc Ewd HKq HBq zq sgX sgY ne
    obtain ⟨p0, p1, p2, -, -, -⟩ := Kr
    obtain ⟨b0, b1, b2, -, -, -⟩ := TX
    obtain ⟨d0, d1, d2, -, -, -⟩ := TY
    cases short
    · have HG : Hid (∀ e w', GivesBs w 7 (ptByte a false) true e w' → GivesPB P A B N gx gy a false w e w') := fun e w' h => HG.out e w' (by
        have e1 : ptLen a false true = 7 := by simp [ptLen, Hf.out]
        rw [e1]; exact h)
      have HX : Hid ([Value.int .u8 4, .int .u8 (a.x / 65536), .int .u8 (a.x / 256 % 256), .int .u8 (a.x % 256), .int .u8 (a.y / 65536), .int .u8 (a.y / 256 % 256), .int .u8 (a.y % 256)] = byts (ptByte a false) 7) := by
        show _ = _
        simp [byts, List.range_succ, ptByte, Hf.out, xb]
      clear Hf
      go_wp2
      go_ret2
      exact HG.out _ _ (givesBs_of_owns ((Lies.new wr #[.int .u8 4, .int .u8 (a.x / 65536), .int .u8 (a.x / 256 % 256), .int .u8 (a.x % 256), .int .u8 (a.y / 65536), .int .u8 (a.y / 256 % 256), .int .u8 (a.y % 256)]).owns (n := 7) (Nat.le_refl _) rfl (by decide)) HBr.out.size HX.out (HBr.out.alloc HBr.out.size _))
    · have HG : Hid (∀ e w', GivesBs w 4 (ptByte a true) true e w' → GivesPB P A B N gx gy a true w e w') := fun e w' h => HG.out e w' (by
        have e1 : ptLen a true true = 4 := by simp [ptLen, Hf.out]
        rw [e1]; exact h)
      have HX : Hid ([Value.int .u8 (2 + a.y % 2), .int .u8 (a.x / 65536), .int .u8 (a.x / 256 % 256), .int .u8 (a.x % 256)] = byts (ptByte a true) 4) := by
        show _ = _
        simp [byts, List.range_succ, ptByte, Hf.out, xb]
      clear Hf
      by_cases hm : a.y % 2 = 1
      · rw [hm] at HX
        go_wp2
        go_ret2
        exact HG.out _ _ (givesBs_of_owns ((Lies.new wr #[.int .u8 3, .int .u8 (a.x / 65536), .int .u8 (a.x / 256 % 256), .int .u8 (a.x % 256)]).owns (n := 4) (Nat.le_refl _) rfl (by decide)) HBr.out.size HX.out (HBr.out.alloc HBr.out.size _))
      · have hm : a.y % 2 = 0 := by omega
        rw [hm] at HX
        go_wp2
        go_ret2
        exact HG.out _ _ (givesBs_of_owns ((Lies.new wr #[.int .u8 2, .int .u8 (a.x / 65536), .int .u8 (a.x / 256 % 256), .int .u8 (a.x % 256)]).owns (n := 4) (Nat.le_refl _) rfl (by decide)) HBr.out.size HX.out (HBr.out.alloc HBr.out.size _))
  · skip
    refine stepW_run rfl ?_
    intro wa' hwa K hK
    go_simp
    have Ewa := Ext.trans (Ext.refl wq) (Ext.trans hwa (ext_alloc wa' (.cells #[.int .u8 0, .int .u8 0, .int .u8 0] 67)))
    have Xwa := Ext.trans hwa (ext_alloc wa' (.cells #[.int .u8 0, .int .u8 0, .int .u8 0] 67))
    have TgY := TrAt.alloc wa' 0 0 0 67
    have sgY : wq.heap.size ≤ wa'.heap.size := Nat.le_trans (Below.size (Ext.refl wq)) (Below.size hwa)
    have LgY : wq.heap.size ≤ wa'.heap.size := Below.size hwa
    refine hK _ _ Ewa ?_
    clear hK K hwa
    generalize wa'.alloc (.cells #[.int .u8 0, .int .u8 0, .int .u8 0] 67) = wa at *
    generalize wa'.heap.size = gY at *
    clear wa'
    refine anyW_one 6 (by kernel_rfl) ?_
    refine stepW_run rfl ?_
    intro wb' hwb K hK
    go_simp
    have Ewb := Ext.trans (Ewa) (Ext.trans hwb (ext_alloc wb' (.cells #[.int .u8 0, .int .u8 0, .int .u8 0] 67)))
    have Xwb := Ext.trans hwb (ext_alloc wb' (.cells #[.int .u8 0, .int .u8 0, .int .u8 0] 67))
    have TgX := TrAt.alloc wb' 0 0 0 67
    have sgX : wq.heap.size ≤ wb'.heap.size := Nat.le_trans (Below.size (Ewa)) (Below.size hwb)
    have LgX : wa.heap.size ≤ wb'.heap.size := Below.size hwb
    refine hK _ _ Ewb ?_
    clear hK K hwb
    generalize wb'.alloc (.cells #[.int .u8 0, .int .u8 0, .int .u8 0] 67) = wb at *
    generalize wb'.heap.size = gX at *
    clear wb'
    have ne : gX ≠ gY := by have := TgY.lt; omega
    replace TgY := TgY.ext Xwb
    clear Xwa Xwb Ewa LgX LgY
    refine anyW_one 8 (by kernel_rfl) ?_
    refine stepW_run rfl ?_
    intro wc' hwc K hK
    replace TgX := TgX.ext hwc
    have Ewc := ext_put3 (Ext.trans Ewb hwc) sgX (a.x / 65536) (a.x / 256 % 256) (a.x % 256)
    have TgX' := TgX
    obtain ⟨t0, t1, t2, v0, v1, v2⟩ := TgX'
    go_simp
    refine hK _ (put3 wc' gX (a.x / 65536) (a.x / 256 % 256) (a.x % 256)) Ewc ?_
    clear hK K t0 t1 t2 v0 v1 v2
    replace TgX := TgX.put (a.x / 65536) (a.x / 256 % 256) (a.x % 256)
    replace TgY := (TgY.ext hwc).put_other (a' := a.x / 65536) (b' := a.x / 256 % 256) (c' := a.x % 256) ne.symm
    clear hwc
    generalize put3 wc' gX (a.x / 65536) (a.x / 256 % 256) (a.x % 256) = wc at *
    clear wc'
    refine anyW_one 9 (by kernel_rfl) ?_
    refine stepW_run rfl ?_
    intro wd' hwd K hK
    replace TgY := TgY.ext hwd
    have Ewd := ext_put3 (Ext.trans Ewc hwd) sgY (a.y / 65536) (a.y / 256 % 256) (a.y % 256)
    have TgY' := TgY
    obtain ⟨t0, t1, t2, v0, v1, v2⟩ := TgY'
    go_simp
    refine hK _ (put3 wd' gY (a.y / 65536) (a.y / 256 % 256) (a.y % 256)) Ewd ?_
    clear hK K t0 t1 t2 v0 v1 v2
    replace TgY := TgY.put (a.y / 65536) (a.y / 256 % 256) (a.y % 256)
    replace TgX := (TgX.ext hwd).put_other (a' := a.y / 65536) (b' := a.y / 256 % 256) (c' := a.y % 256) ne
    clear hwd
    generalize put3 wd' gY (a.y / 65536) (a.y / 256 % 256) (a.y % 256) = wd at *
    clear wd'
    refine anyW_done (by kernel_rfl) ?_ 0
    intro wr hwr
    have TX := TgX.ext hwr
    have TY := TgY.ext hwr
    have Er : Below wq.heap.size wq wr := Ext.trans Ewd hwr
    have Kr := HKq.out.below Er zq
    have HBr : Hid (Below w.heap.size w wr) := HBq.out.trans (Er.mono (by omega))
    clear TgX TgY hwr Er Ewb Ewc Ewd HKq HBq zq sgX sgY ne
    obtain ⟨p0, p1, p2, -, -, -⟩ := Kr
    obtain ⟨b0, b1, b2, -, -, -⟩ := TX
    obtain ⟨d0, d1, d2, -, -, -⟩ := TY
    cases short
    · have HG : Hid (∀ e w', GivesBs w 7 (ptByte a false) true e w' → GivesPB P A B N gx gy a false w e w') := fun e w' h => HG.out e w' (by
        have e1 : ptLen a false true = 7 := by simp [ptLen, Hf.out]
        rw [e1]; exact h)
      have HX : Hid ([Value.int .u8 4, .int .u8 (a.x / 65536), .int .u8 (a.x / 256 % 256), .int .u8 (a.x % 256), .int .u8 (a.y / 65536), .int .u8 (a.y / 256 % 256), .int .u8 (a.y % 256)] = byts (ptByte a false) 7) := by
        show _ = _
        simp [byts, List.range_succ, ptByte, Hf.out, xb]
      clear Hf
      go_wp2
      go_ret2
      exact HG.out _ _ (givesBs_of_owns ((Lies.new wr #[.int .u8 4, .int .u8 (a.x / 65536), .int .u8 (a.x / 256 % 256), .int .u8 (a.x % 256), .int .u8 (a.y / 65536), .int .u8 (a.y / 256 % 256), .int .u8 (a.y % 256)]).owns (n := 7) (Nat.le_refl _) rfl (by decide)) HBr.out.size HX.out (HBr.out.alloc HBr.out.size _))
    · have HG : Hid (∀ e w', GivesBs w 4 (ptByte a true) true e w' → GivesPB P A B N gx gy a true w e w') := fun e w' h => HG.out e w' (by
        have e1 : ptLen a true true = 4 := by simp [ptLen, Hf.out]
        rw [e1]; exact h)
      have HX : Hid ([Value.int .u8 (2 + a.y % 2), .int .u8 (a.x / 65536), .int .u8 (a.x / 256 % 256), .int .u8 (a.x % 256)] = byts (ptByte a true) 4) := by
        show _ = _
        simp [byts, List.range_succ, ptByte, Hf.out, xb]
      clear Hf
      by_cases hm : a.y % 2 = 1
      · rw [hm] at HX
        go_wp2
        go_ret2
        exact HG.out _ _ (givesBs_of_owns ((Lies.new wr #[.int .u8 3, .int .u8 (a.x / 65536), .int .u8 (a.x / 256 % 256), .int .u8 (a.x % 256)]).owns (n := 4) (Nat.le_refl _) rfl (by decide)) HBr.out.size HX.out (HBr.out.alloc HBr.out.size _))
      · have hm : a.y % 2 = 0 := by omega
        rw [hm] at HX
        go_wp2
        go_ret2
        exact HG.out _ _ (givesBs_of_owns ((Lies.new wr #[.int .u8 2, .int .u8 (a.x / 65536), .int .u8 (a.x / 256 % 256), .int .u8 (a.x % 256)]).owns (n := 4) (Nat.le_refl _) rfl (by decide)) HBr.out.size HX.out (HBr.out.alloc HBr.out.size _))

end Go.Proofs.YtnhemiaklkkilaaDoor
