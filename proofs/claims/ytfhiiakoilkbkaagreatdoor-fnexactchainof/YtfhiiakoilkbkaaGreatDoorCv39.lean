/- Walks: the law's copies of lists of certificates, each list one's own. Walks: marks in a certificate: what they turn (written by mkmkx.py). -/
import Derived.Test.YtfhiiakoilkbkaaGreatDoorCv38
namespace Go.Proofs.YtfhiiakoilkbkaaGreatDoor
set_option linter.unusedVariables false
set_option linter.unusedSimpArgs false
section
open Go.RowKit
set_option maxHeartbeats 6400000 in
set_option maxRecDepth 100000 in
theorem toCertSO_any (p : Plc) (n : Nat) (c : Nat → Ct) (m : Nat → CtPl) (w : World) (hs : CSeg w p n c m) (hn : n ≤ 1048576) (hl : ∀ i, i < n → CtSm (c i) 1048576) :
  Calls Tryz.prog 8 #[.slice p.ad n p.cap] w fun e w' => ∃ (q : Plc) (m' : Nat → CtPl), e = .returned (.slice q.ad n q.cap) ∧ CpCs w w' n c q m' ∧ Ext w w' := by
 have hmk := run_make_cts n hn
 have Hs := hide hs
 have Hl := hide hl
 have HM0 : Hid (∀ A : Array Value, n * 34 ≤ A.size → CMo w (w.alloc (.cells A 54)) n 0 c m (fun _ => w.heap.size + 1)) := fun A hA =>
  ⟨⟨Ext.alloc _ _, by simp, fun j hj => made_cells w A _ j (by omega), fun i hi => absurd hi (Nat.not_lt_zero _), fun i hi => absurd hi (Nat.not_lt_zero _)⟩, fun i hi => absurd hi (Nat.not_lt_zero _), fun i hi => absurd hi (Nat.not_lt_zero _), Nat.le_refl _, by simp⟩
 have HM1 := hide (HM0.out (madeCells #[.int .i64 0, .slice none 0 0, .slice none 0 0, .int .i64 0, .int .i64 0, .int .i64 0, .slice none 0 0, .int .i64 0, .int .i64 0, .int .i64 0, .int .i64 0, .int .i64 0, .int .i64 0, .int .i64 0, .int .i64 0, .int .i64 0, .bool false, .int .i64 0, .int .i64 0, .int .i64 0, .int .i64 0, .int .i64 0, .int .i64 0, .int .i64 0, .int .i64 0, .bool false, .int .i64 0, .int .i64 0, .slice none 0 0, .slice none 0 0, .slice none 0 0, .slice none 0 0, .slice none 0 0, .slice none 0 0] (n * 34)) (Nat.le_of_eq (size_madeCells _ _).symm))
 clear hs hl HM0
 generalize madeCells #[.int .i64 0, .slice none 0 0, .slice none 0 0, .int .i64 0, .int .i64 0, .int .i64 0, .slice none 0 0, .int .i64 0, .int .i64 0, .int .i64 0, .int .i64 0, .int .i64 0, .int .i64 0, .int .i64 0, .int .i64 0, .int .i64 0, .bool false, .int .i64 0, .int .i64 0, .int .i64 0, .int .i64 0, .int .i64 0, .int .i64 0, .int .i64 0, .int .i64 0, .bool false, .int .i64 0, .int .i64 0, .slice none 0 0, .slice none 0 0, .slice none 0 0, .slice none 0 0, .slice none 0 0, .slice none 0 0] (n * 34) = A at *
 obtain ⟨ad, b, off, cap⟩ := p
 dsimp only
 go_enter Tryz.func8, Tryz.ntmps8
 go_wp2
 clear hmk
 go_loopw [4] (fun i wr => ∃ (k : Nat) (m' : Nat → CtPl) (t : Nat → Nat), k ≤ n ∧ i = .int .i64 k ∧ CMo w wr n k c m' t) (fun i _ => n - (intOf i).toNat)
 case atStart => exact ⟨0, m, _, Nat.zero_le _, rfl, HM1.out⟩
 case round =>
  clear HM1
  obtain ⟨k, m', t, hk, rfl, hI⟩ := hrel
  have HI := hide hI
  by_cases hlt : k < n
  ·have hat := Hs.out.at' (by omega)
   dsimp only at hat
   subst hat
   have hs' := Hs.out.ext hI.ext
   have hld := hs'.ldL k hlt
   have HT := hide (toCertO_any (c k) (m k) wr (hs'.each k hlt) (Hl.out k hlt))
   have hkn : (k : Int) < (n : Int) := by omega
   dsimp only at hld
   generalize ctL (c k) (m k) = L at *
   clear hI hs'
   go_wp2_with (refine wpList_ld (by first | rfl | simp [Region.wanted, yielded]) 39 _ rfl _ rfl _ hld ?_)
   refine HT.out.mono ?_
   rintro e W ⟨q, rfl, hq, hE⟩
   have hput := HI.out.step hlt (Ext.refl _) hE hq
   have hst := run_st (P := Tryz.prog) 54 (ctL (c k) q) W (by kernel_rfl) (by simp [ctL, kyL, exL, Value.oneCell']) w.heap.size (k * 34) (fun j hj => by
    have hj2 : j < 34 := hj
    have h1 := HI.out.row (k * 34 + j) (by have : (k + 1) * 34 ≤ n * 34 := Nat.mul_le_mul_right _ hlt; omega)
    rw [Below.cell hE (p := ⟨w.heap.size, k * 34 + j, none⟩) HI.out.lt, Below.frozen hE (p := ⟨w.heap.size, k * 34 + j, none⟩) HI.out.lt]
    exact ⟨Option.isSome_iff_exists.1 h1.1, h1.2⟩)
   have HP := hide hput
   generalize putL w.heap.size (k * 34) (ctL (c k) q) W = W2 at *
   generalize ctL (c k) q = L2 at *
   clear hput hq hE HT hld HI
   go_wp2_with (refine wpList_st (by first | rfl | simp [Region.wanted, yielded]) 54 _ _ rfl _ rfl _ rfl _ hst ?_)
   go_roundw
   case rel => exact ⟨k + 1, _, _, by omega, by go_num, HP.out⟩
   case measure => simp [intOf]; omega
  ·obtain rfl : k = n := by omega
   clear hI
   go_wp2
   go_ret
   exact ⟨⟨some ⟨w.heap.size, 0, none⟩, w.heap.size, 0, k⟩, m', rfl, HI.out.cps, HI.out.ext⟩
theorem pts_lt {w : World} {c : Ct} {m : CtPl} {r b : Nat} (h : PtW w c m r) (hr : r < 9) (hb : PtS c m r b) : b < w.heap.size := by
 match r, hr, h, hb with
 | 0, _, h, ⟨h0, e⟩ => rw [e]; exact SAny.lt h h0
 | 1, _, h, ⟨h0, e⟩ => rw [e]; exact SAny.lt h h0
 | 2, _, h, ⟨h0, e⟩ => have h' : Own w m.k.ad m.k.b m.k.off c.k.n c.k.f := h; rw [e]; exact h'.lt h0
 | 3, _, h, ⟨h0, e⟩ => rw [e]; exact SAny.lt h h0
 | 4, _, h, ⟨i, hi, h0, e⟩ => rw [e]; exact ((NOw.own h) i hi).lt h0
 | 5, _, h, ⟨h0, e⟩ => rw [e]; exact SAny.lt h h0
 | 6, _, h, ⟨h0, e⟩ => rw [e]; exact SAny.lt h h0
 | 7, _, h, ⟨h0, e⟩ => have h' : Own w m.x.p.ad m.x.p.b m.x.p.off c.x.np c.x.fp := h; rw [e]; exact h'.lt h0
 | 8, _, h, ⟨h0, e⟩ => have h' : BOwn w m.g.ad m.g.b m.g.off c.ng c.fg := h; rw [e]; exact h'.lt h0
def Aprt (c : Ct) (m : CtPl) : Prop := ∀ r r', r < 9 → r' < 9 → r ≠ r' → ∀ b, PtT c m r b → ¬ PtT c m r' b
def PtR (c : Ct) (m : CtPl) (lo hi q : Nat) : Prop := ∃ r, lo ≤ r ∧ r < hi ∧ PtS c m r q
theorem ptw_msm {w W : World} {c : Ct} {m : CtPl} {lo hi r : Nat} (h : PtW w c m r) (hA : Aprt c m) (hr : r < 9) (hh : hi ≤ 9) (hne : r < lo ∨ hi ≤ r) (hM : Msm (PtR c m lo hi) w W) : PtW W c m r :=
 h.agr (hM.agr (fun q hq ⟨r', h1, h2, h3⟩ => hA r' r (by omega) hr (by omega) q h3.t hq))
theorem msm_up {w W W1 : World} {c : Ct} {m : CtPl} {lo r : Nat} (h : Msm (PtR c m lo r) w W) (hl : lo ≤ r) (k : Msm (PtS c m r) W W1) : Msm (PtR c m lo (r + 1)) w W1 :=
 (h.mono (fun q ⟨r', h1, h2, h3⟩ => ⟨r', h1, by omega, h3⟩)).trans (k.mono (fun q hq => ⟨r, hl, Nat.lt_succ_self _, hq⟩))
theorem blk_msm {w W : World} {S : Nat → Prop} {C : Nat} {vs : List Value} (h : Blk w C vs) (hl : C < w.heap.size) (hM : Msm S w W) (hn : ¬ S C) : Blk W C vs := fun i v hi => by
 have e := hM.same C hl hn
 exact ⟨(World.cell?_of_block (a := ⟨C, i, none⟩) e).trans (h i v hi).1, (World.frozen?_of_block (a := ⟨C, i, none⟩) e).trans (h i v hi).2⟩
set_option maxHeartbeats 1600000 in
theorem markKeyM (k : Ky) (p : Plc) (k0 : Nat) (w : World) (hs : Own w p.ad p.b p.off k.n k.f) (hn : k.n ≤ 1048576) (hk : k0 ≤ 1073741824) :
  Calls Tryz.prog 41 #[.agg (kyL k p).toArray, .int .i64 (k0 : Int)] w fun e w' => e = .returned (.int .i64 ((k0 + k.n : Nat) : Int)) ∧ Msm (One k.n p.b) w w' := by
 obtain ⟨V, hV⟩ : ∃ V, w.alloc (.cells (kyL k p).toArray 51) = V := ⟨_, rfl⟩
 obtain ⟨B0, hE, -⟩ := box1 w (kyL k p) 51 (w1 := V) (by rw [← hV]; exact Ext.refl _)
 have c1 := (B0 1 _ rfl).1
 have HC := hide (markIntC p.ad p.b p.off k.n p.cap k0 k.f V (hs.blkI (fun h0 => Below.block hE _ (hs.lt h0))) hn hk)
 have HE := hide hE
 unfold MkC at HC
 clear hs hE B0
 go_enter Tryz.func41, Tryz.ntmps41
 go_wp2_with fail
 refine HC.out.mono ?_
 rintro e w1 ⟨rfl, hM, -⟩
 have HM := hide hM
 clear hM HC c1
 go_wp2
 go_ret
 exact ⟨rfl, (Msm.of_ext HE.out).trans HM.out⟩
set_option maxHeartbeats 6400000 in
theorem markExtsX (c : Ct) (m : CtPl) (k0 : Nat) (w : World) (hW : ∀ r, 3 ≤ r → r < 9 → PtW w c m r) (hA : Aprt c m) (hS : CtSm c 1048576) (hk : k0 + (c.x.nh + preS c.x.ln c.x.nn + c.x.na + c.x.nd + c.x.np) ≤ 1073741824) :
  Calls Tryz.prog 42 #[.agg (exL c.x m.x).toArray, .int .i64 (k0 : Int)] w fun e w' => e = .returned (.int .i64 ((k0 + (c.x.nh + preS c.x.ln c.x.nn + c.x.na + c.x.nd + c.x.np) : Nat) : Int)) ∧ Msm (PtR c m 3 8) w w' := by
 obtain ⟨V, hV⟩ : ∃ V, w.alloc (.cells (exL c.x m.x).toArray 52) = V := ⟨_, rfl⟩
 obtain ⟨B0, hE, -⟩ := box1 w (exL c.x m.x) 52 (w1 := V) (by rw [← hV]; exact Ext.refl _)
 have hlt := Blk.lt B0 (by simp [exL])
 have hWV : ∀ r, 3 ≤ r → r < 9 → PtW V c m r := fun r h3 hr => (hW r h3 hr).agr ⟨Below.size hE, fun b _ hl => Below.block hE b hl⟩
 have hbx : ∀ r, 3 ≤ r → r < 9 → ¬ PtS c m r w.heap.size := fun r h3 hr hb => Nat.lt_irrefl _ (pts_lt (hW r h3 hr) hr hb)
 have HE := hide hE
 have HB := hide B0
 have HL := hide hlt
 have HWV := hide hWV
 have Hbx := hide hbx
 have Hk := hide hk
 have HM := hide (show Msm (PtR c m 3 3) V V from Msm.of_ext (Ext.refl _))
 have HZ := hide (Nat.le_refl V.heap.size)
 clear hW hE B0 hlt hWV hbx hk
 go_enter Tryz.func42, Tryz.ntmps42
 have HW := ptw_msm (HWV.out 3 (by decide) (by decide)) hA (by decide) (by decide) (.inr (Nat.le_refl _)) HM.out
 have hkk := Hk.out
 have HC := hide (markStrC m.x.h.ad m.x.h.b m.x.h.off c.x.nh m.x.h.cap k0 V HW hS.x.h (by omega))
 have c0 := (HB.out 3 _ rfl).1
 obtain ⟨k1, hk1⟩ : ∃ z, k0 + c.x.nh = z := ⟨_, rfl⟩
 unfold MkC at HC
 rw [hk1] at HC
 have Hk1 := hide hk1
 clear HW hkk hk1
 go_wp2_with fail
 refine HC.out.mono ?_
 rintro e w1 ⟨rfl, hM, -⟩
 replace HB := hide (blk_msm HB.out (Nat.lt_of_lt_of_le HL.out HZ.out) hM (Hbx.out 3 (by decide) (by decide)))
 replace HM := hide (msm_up HM.out (by decide) (r := 3) hM)
 replace HZ := hide (Nat.le_trans HZ.out hM.size)
 clear hM HC c0
 replace Hk : Hid (k1 + (0 + preS c.x.ln c.x.nn + c.x.na + c.x.nd + c.x.np) ≤ 1073741824) := hide (by have := Hk.out; have := Hk1.out; omega)
 have HW := ptw_msm (HWV.out 4 (by decide) (by decide)) hA (by decide) (by decide) (.inr (Nat.le_refl _)) HM.out
 have hkk := Hk.out
 have HC := hide (markNetsC m.x.n m.x.ni c.x.nn k1 c.x.ln c.x.fn w1 HW hS.x.n hS.x.ns (by omega))
 have c0 := (HB.out 4 _ rfl).1
 obtain ⟨k2, hk2⟩ : ∃ z, k1 + preS c.x.ln c.x.nn = z := ⟨_, rfl⟩
 unfold MkC at HC
 rw [hk2] at HC
 have Hk2 := hide hk2
 clear HW hkk hk2
 go_wp2_with fail
 refine HC.out.mono ?_
 rintro e w2 ⟨rfl, hM, -⟩
 replace HB := hide (blk_msm HB.out (Nat.lt_of_lt_of_le HL.out HZ.out) hM (Hbx.out 4 (by decide) (by decide)))
 replace HM := hide (msm_up HM.out (by decide) (r := 4) hM)
 replace HZ := hide (Nat.le_trans HZ.out hM.size)
 clear hM HC c0
 replace Hk : Hid (k2 + (0 + c.x.na + c.x.nd + c.x.np) ≤ 1073741824) := hide (by have := Hk.out; have := Hk2.out; omega)
 have HW := ptw_msm (HWV.out 5 (by decide) (by decide)) hA (by decide) (by decide) (.inr (Nat.le_refl _)) HM.out
 have hkk := Hk.out
 have HC := hide (markStrC m.x.a.ad m.x.a.b m.x.a.off c.x.na m.x.a.cap k2 w2 HW hS.x.a (by omega))
 have c0 := (HB.out 5 _ rfl).1
 obtain ⟨k3, hk3⟩ : ∃ z, k2 + c.x.na = z := ⟨_, rfl⟩
 unfold MkC at HC
 rw [hk3] at HC
 have Hk3 := hide hk3
 clear HW hkk hk3
 go_wp2_with fail
 refine HC.out.mono ?_
 rintro e w3 ⟨rfl, hM, -⟩
 replace HB := hide (blk_msm HB.out (Nat.lt_of_lt_of_le HL.out HZ.out) hM (Hbx.out 5 (by decide) (by decide)))
 replace HM := hide (msm_up HM.out (by decide) (r := 5) hM)
 replace HZ := hide (Nat.le_trans HZ.out hM.size)
 clear hM HC c0
 replace Hk : Hid (k3 + (0 + c.x.nd + c.x.np) ≤ 1073741824) := hide (by have := Hk.out; have := Hk3.out; omega)
 have HW := ptw_msm (HWV.out 6 (by decide) (by decide)) hA (by decide) (by decide) (.inr (Nat.le_refl _)) HM.out
 have hkk := Hk.out
 have HC := hide (markStrC m.x.d.ad m.x.d.b m.x.d.off c.x.nd m.x.d.cap k3 w3 HW hS.x.d (by omega))
 have c0 := (HB.out 6 _ rfl).1
 obtain ⟨k4, hk4⟩ : ∃ z, k3 + c.x.nd = z := ⟨_, rfl⟩
 unfold MkC at HC
 rw [hk4] at HC
 have Hk4 := hide hk4
 clear HW hkk hk4
 go_wp2_with fail
 refine HC.out.mono ?_
 rintro e w4 ⟨rfl, hM, -⟩
 replace HB := hide (blk_msm HB.out (Nat.lt_of_lt_of_le HL.out HZ.out) hM (Hbx.out 6 (by decide) (by decide)))
 replace HM := hide (msm_up HM.out (by decide) (r := 6) hM)
 replace HZ := hide (Nat.le_trans HZ.out hM.size)
 clear hM HC c0
 replace Hk : Hid (k4 + (0 + c.x.np) ≤ 1073741824) := hide (by have := Hk.out; have := Hk4.out; omega)
 have HW := ptw_msm (HWV.out 7 (by decide) (by decide)) hA (by decide) (by decide) (.inr (Nat.le_refl _)) HM.out
 have hkk := Hk.out
 have HC := hide (markIntC m.x.p.ad m.x.p.b m.x.p.off c.x.np m.x.p.cap k4 c.x.fp w4 HW hS.x.p (by omega))
 have c0 := (HB.out 7 _ rfl).1
 obtain ⟨k5, hk5⟩ : ∃ z, k4 + c.x.np = z := ⟨_, rfl⟩
 unfold MkC at HC
 rw [hk5] at HC
 have Hk5 := hide hk5
 clear HW hkk hk5
 go_wp2_with fail
 refine HC.out.mono ?_
 rintro e w5 ⟨rfl, hM, -⟩
 replace HB := hide (blk_msm HB.out (Nat.lt_of_lt_of_le HL.out HZ.out) hM (Hbx.out 7 (by decide) (by decide)))
 replace HM := hide (msm_up HM.out (by decide) (r := 7) hM)
 replace HZ := hide (Nat.le_trans HZ.out hM.size)
 clear hM HC c0
 replace Hk : Hid (k5 + (0) ≤ 1073741824) := hide (by have := Hk.out; have := Hk5.out; omega)
 go_wp2
 go_ret
 refine ⟨?_, (Msm.of_ext HE.out).trans HM.out⟩
 have h1 := Hk1.out; have h2 := Hk2.out; have h3 := Hk3.out; have h4 := Hk4.out; have h5 := Hk5.out
 have e : k0 + (c.x.nh + preS c.x.ln c.x.nn + c.x.na + c.x.nd + c.x.np) = k5 := by omega
 rw [e]
 rfl
set_option maxHeartbeats 6400000 in
theorem markCertM (c : Ct) (m : CtPl) (k0 : Nat) (w : World) (hW : ∀ r, r < 9 → PtW w c m r) (hA : Aprt c m) (hS : CtSm c 1048576) (hk : k0 + (c.ni + c.ns + c.k.n + (c.x.nh + preS c.x.ln c.x.nn + c.x.na + c.x.nd + c.x.np) + c.ng) ≤ 1073741824) :
  Calls Tryz.prog 14 #[.agg (ctL c m).toArray, .int .i64 (k0 : Int)] w fun e w' => e = .returned (.int .i64 ((k0 + (c.ni + c.ns + c.k.n + (c.x.nh + preS c.x.ln c.x.nn + c.x.na + c.x.nd + c.x.np) + c.ng) : Nat) : Int)) ∧ Msm (PtR c m 0 9) w w' := by
 obtain ⟨V, hV⟩ : ∃ V, w.alloc (.cells (ctL c m).toArray 54) = V := ⟨_, rfl⟩
 obtain ⟨B0, hE, -⟩ := box1 w (ctL c m) 54 (w1 := V) (by rw [← hV]; exact Ext.refl _)
 have hlt := Blk.lt B0 (by simp [ctL, kyL, exL])
 have hWV : ∀ r, r < 9 → PtW V c m r := fun r hr => (hW r hr).agr ⟨Below.size hE, fun b _ hl => Below.block hE b hl⟩
 have hbx : ∀ r, r < 9 → ¬ PtS c m r w.heap.size := fun r hr hb => Nat.lt_irrefl _ (pts_lt (hW r hr) hr hb)
 have HE := hide hE
 have HB := hide B0
 have HL := hide hlt
 have HWV := hide hWV
 have Hbx := hide hbx
 have Hk := hide hk
 have HM := hide (show Msm (PtR c m 0 0) V V from Msm.of_ext (Ext.refl _))
 have HZ := hide (Nat.le_refl V.heap.size)
 clear hW hE B0 hlt hWV hbx hk
 go_enter Tryz.func14, Tryz.ntmps14
 have hkk := Hk.out
 have HW := ptw_msm (HWV.out 0 (by decide)) hA (by decide) (by decide) (.inr (Nat.le_refl _)) HM.out
 have HC := hide (markStrC m.i.ad m.i.b m.i.off c.ni m.i.cap k0 V HW hS.i (by omega))
 unfold MkC at HC
 have c0 := (HB.out 1 _ rfl).1
 clear HW
 obtain ⟨k1, hk1⟩ : ∃ z, k0 + c.ni = z := ⟨_, rfl⟩
 rw [hk1] at HC
 have Hk1 := hide hk1
 clear hkk hk1
 go_wp2_with fail
 refine HC.out.mono ?_
 rintro e w1 ⟨rfl, hM, -⟩
 replace HB := hide (blk_msm HB.out (Nat.lt_of_lt_of_le HL.out HZ.out) hM (Hbx.out 0 (by decide)))
 replace HM := hide (msm_up HM.out (by decide) (r := 0) hM)
 replace HZ := hide (Nat.le_trans HZ.out hM.size)
 clear hM HC c0
 replace Hk : Hid (k1 + (0 + c.ns + c.k.n + (c.x.nh + preS c.x.ln c.x.nn + c.x.na + c.x.nd + c.x.np) + c.ng) ≤ 1073741824) := hide (by have := Hk.out; have := Hk1.out; omega)
 have hkk := Hk.out
 have HW := ptw_msm (HWV.out 1 (by decide)) hA (by decide) (by decide) (.inr (Nat.le_refl _)) HM.out
 have HC := hide (markStrC m.s.ad m.s.b m.s.off c.ns m.s.cap k1 w1 HW hS.s (by omega))
 unfold MkC at HC
 have c0 := (HB.out 2 _ rfl).1
 clear HW
 obtain ⟨k2, hk2⟩ : ∃ z, k1 + c.ns = z := ⟨_, rfl⟩
 rw [hk2] at HC
 have Hk2 := hide hk2
 clear hkk hk2
 go_wp2_with fail
 refine HC.out.mono ?_
 rintro e w2 ⟨rfl, hM, -⟩
 replace HB := hide (blk_msm HB.out (Nat.lt_of_lt_of_le HL.out HZ.out) hM (Hbx.out 1 (by decide)))
 replace HM := hide (msm_up HM.out (by decide) (r := 1) hM)
 replace HZ := hide (Nat.le_trans HZ.out hM.size)
 clear hM HC c0
 replace Hk : Hid (k2 + (0 + c.k.n + (c.x.nh + preS c.x.ln c.x.nn + c.x.na + c.x.nd + c.x.np) + c.ng) ≤ 1073741824) := hide (by have := Hk.out; have := Hk2.out; omega)
 have hkk := Hk.out
 have HW := ptw_msm (HWV.out 2 (by decide)) hA (by decide) (by decide) (.inr (Nat.le_refl _)) HM.out
 have HC := hide (markKeyM c.k m.k k2 w2 HW hS.k (by omega))
 have hld := run_ld (P := Tryz.prog) 51 (kyL c.k m.k) w2 (by kernel_rfl) (by kernel_rfl) w.heap.size 5 (Blk.ld HB.out 5 _ (fun j v h => sub_key c m j v h))
 clear HW
 obtain ⟨k3, hk3⟩ : ∃ z, k2 + c.k.n = z := ⟨_, rfl⟩
 rw [hk3] at HC
 have Hk3 := hide hk3
 clear hkk hk3
 go_wp2_with (first | (refine wpList_ld (by first | rfl | simp [Region.wanted, yielded]) 51 _ rfl _ rfl _ hld ?_))
 refine HC.out.mono ?_
 rintro e w3 ⟨rfl, hM⟩
 replace HB := hide (blk_msm HB.out (Nat.lt_of_lt_of_le HL.out HZ.out) hM (Hbx.out 2 (by decide)))
 replace HM := hide (msm_up HM.out (by decide) (r := 2) hM)
 replace HZ := hide (Nat.le_trans HZ.out hM.size)
 clear hM HC hld
 replace Hk : Hid (k3 + (0 + (c.x.nh + preS c.x.ln c.x.nn + c.x.na + c.x.nd + c.x.np) + c.ng) ≤ 1073741824) := hide (by have := Hk.out; have := Hk3.out; omega)
 have hkk := Hk.out
 have HX : ∀ r, 3 ≤ r → r < 9 → PtW w3 c m r := fun r h3 hr => ptw_msm (HWV.out r hr) hA hr (by decide) (.inr h3) HM.out
 have HC := hide (markExtsX c m k3 w3 HX hA hS (by omega))
 have hld := run_ld (P := Tryz.prog) 52 (exL c.x m.x) w3 (by kernel_rfl) (by kernel_rfl) w.heap.size 25 (Blk.ld HB.out 25 _ (fun j v h => sub_ex c m j v h))
 clear HX
 obtain ⟨k4, hk4⟩ : ∃ z, k3 + (c.x.nh + preS c.x.ln c.x.nn + c.x.na + c.x.nd + c.x.np) = z := ⟨_, rfl⟩
 rw [hk4] at HC
 have Hk4 := hide hk4
 clear hkk hk4
 go_wp2_with (first | (refine wpList_ld (by first | rfl | simp [Region.wanted, yielded]) 52 _ rfl _ rfl _ hld ?_))
 refine HC.out.mono ?_
 rintro e w4 ⟨rfl, hM⟩
 replace HB := hide (blk_msm HB.out (Nat.lt_of_lt_of_le HL.out HZ.out) hM (fun ⟨r, h1, h2, h3⟩ => Hbx.out r (by omega) h3))
 replace HM : Hid (Msm (PtR c m 0 8) V w4) := hide ((HM.out.mono (fun q ⟨r, h1, h2, h3⟩ => ⟨r, h1, by omega, h3⟩)).trans (hM.mono (fun q ⟨r, h1, h2, h3⟩ => ⟨r, Nat.zero_le _, h2, h3⟩)))
 replace HZ := hide (Nat.le_trans HZ.out hM.size)
 clear hM HC hld
 replace Hk : Hid (k4 + (0 + c.ng) ≤ 1073741824) := hide (by have := Hk.out; have := Hk4.out; omega)
 have hkk := Hk.out
 have HW := ptw_msm (HWV.out 8 (by decide)) hA (by decide) (by decide) (.inr (Nat.le_refl _)) HM.out
 have HC := hide (markByteC m.g.ad m.g.b m.g.off c.ng m.g.cap k4 c.fg w4 HW hS.g (by omega))
 unfold MkC at HC
 have c0 := (HB.out 33 _ rfl).1
 clear HW
 obtain ⟨k5, hk5⟩ : ∃ z, k4 + c.ng = z := ⟨_, rfl⟩
 rw [hk5] at HC
 have Hk5 := hide hk5
 clear hkk hk5
 go_wp2_with fail
 refine HC.out.mono ?_
 rintro e w5 ⟨rfl, hM, -⟩
 replace HB := hide (blk_msm HB.out (Nat.lt_of_lt_of_le HL.out HZ.out) hM (Hbx.out 8 (by decide)))
 replace HM := hide (msm_up HM.out (by decide) (r := 8) hM)
 replace HZ := hide (Nat.le_trans HZ.out hM.size)
 clear hM HC c0
 replace Hk : Hid (k5 + (0) ≤ 1073741824) := hide (by have := Hk.out; have := Hk5.out; omega)
 go_wp2
 go_ret
 refine ⟨?_, (Msm.of_ext HE.out).trans HM.out⟩
 have h1 := Hk1.out; have h2 := Hk2.out; have h3 := Hk3.out; have h4 := Hk4.out; have h5 := Hk5.out
 have e : k0 + (c.ni + c.ns + c.k.n + (c.x.nh + preS c.x.ln c.x.nn + c.x.na + c.x.nd + c.x.np) + c.ng) = k5 := by omega
 rw [e]
 rfl
end
end Go.Proofs.YtfhiiakoilkbkaaGreatDoor
