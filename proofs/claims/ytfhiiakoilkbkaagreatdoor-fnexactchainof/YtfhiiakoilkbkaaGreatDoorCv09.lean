/- Walks: sums and multiples of points in the model, whatever the points: l3Add, l3Mul. -/
import Derived.Test.YtfhiiakoilkbkaaGreatDoorCv08
namespace Go.Proofs.YtfhiiakoilkbkaaGreatDoor
set_option linter.unusedVariables false
set_option linter.unusedSimpArgs false
open Go.RowKit
set_option maxHeartbeats 800000 in
theorem l3Add_any (p : Nat) (A B N gx gy : Int) (a b : Pt) (w : World) (hpr : Prime p) (h5 : 5 ≤ p) (hp : p ≤ 1048576) (hA0 : -1 ≤ A) (hA : A ≤ 2097152) (ha : InR p a) (hb : InR p b) :
  Calls Tryz.prog 119 #[.agg #[.int .i64 p, .int .i64 A, .int .i64 B, .int .i64 N, .int .i64 gx, .int .i64 gy], .agg #[.int .i64 a.x, .int .i64 a.y, .bool a.far], .agg #[.int .i64 b.x, .int .i64 b.y, .bool b.far]] w fun r w' => r = .returned (ptV (addF p A a b)) ∧ Below w.heap.size w w' := by
 obtain ⟨x1, y1, f1⟩ := a
 obtain ⟨x2, y2, f2⟩ := b
 obtain ⟨a0, a1, a2, a3⟩ := ha
 obtain ⟨b0, b1, b2, b3⟩ := hb
 simp only at a0 a1 a2 a3 b0 b1 b2 b3 ⊢
 cases f1
 ·cases f2
  ·by_cases hx : x1 = x2
   ·subst hx
    by_cases ho : (y1 + y2) % (p : Int) = 0
    ·have HV := hide (addF_opp' (A := A) (p := p) (x1 := x1) (x2 := x1) (y1 := y1) (y2 := y2) ⟨rfl, ho⟩)
     have hb2 : ((y1 + y2) % (p : Int) == 0) = true := by simpa using ho
     have hxx : (x1 == x1) = true := by simp
     clear ho
     have pp : (0 : Int) < p := by omega
     go_enter Tryz.func119, Tryz.ntmps119
     go_wp2
     refine bodyPost_ret (v := .agg #[.int .i64 0, .int .i64 0, .bool true]) (by simp [results, Tryz.results119, go_sem]) rfl ⟨?_, ?_⟩
     ·rw [HV.out]; rfl
     ·repeat (first | exact Below.refl _ _ | refine Below.setCell ?_ (by simp <;> omega) _ | refine Below.alloc ?_ (by simp <;> omega) _ | refine below_drewN ?_ _)
    ·exact l3Add_tan p A B N gx gy x1 y1 x1 y2 w hpr h5 hp hA0 hA a0 a1 a2 a3 b0 b1 b2 b3 ho
   ·exact l3Add_cho p A B N gx gy x1 y1 x2 y2 w hpr h5 hp hA0 hA a0 a1 a2 a3 b0 b1 b2 b3 hx
  ·go_enter Tryz.func119, Tryz.ntmps119
   go_wp2
   refine bodyPost_ret (v := .agg #[.int .i64 x1, .int .i64 y1, .bool false]) (by simp [results, Tryz.results119, go_sem]) rfl ⟨rfl, ?_⟩
   repeat (first | exact Below.refl _ _ | refine Below.setCell ?_ (by simp <;> omega) _ | refine Below.alloc ?_ (by simp <;> omega) _ | refine below_drewN ?_ _)
 ·go_enter Tryz.func119, Tryz.ntmps119
  go_wp2
  refine bodyPost_ret (v := .agg #[.int .i64 x2, .int .i64 y2, .bool f2]) (by simp [results, Tryz.results119, go_sem]) rfl ⟨rfl, ?_⟩
  repeat (first | exact Below.refl _ _ | refine Below.setCell ?_ (by simp <;> omega) _ | refine Below.alloc ?_ (by simp <;> omega) _ | refine below_drewN ?_ _)
theorem mulAcc_zero (p : Nat) (A : Int) : ∀ (f : Nat) (o a : Pt), mulAcc p A f 0 o a = o := by
 intro f
 induction f with
 | zero => intro o a; rfl
 | succ f ih => intro o a; rw [mulAcc]; simp [ih]
structure PtAt (w : World) (C : Nat) (a : Pt) : Prop where
 c0 : w.cell? ⟨C, 0, none⟩ = some (.int .i64 a.x)
 c1 : w.cell? ⟨C, 1, none⟩ = some (.int .i64 a.y)
 c2 : w.cell? ⟨C, 2, none⟩ = some (.bool a.far)
 f0 : w.frozen? ⟨C, 0, none⟩ = false
 f1 : w.frozen? ⟨C, 1, none⟩ = false
 f2 : w.frozen? ⟨C, 2, none⟩ = false
structure CvAt (w : World) (C : Nat) (p A B N gx gy : Int) : Prop where
 c0 : w.cell? ⟨C, 0, none⟩ = some (.int .i64 p)
 c1 : w.cell? ⟨C, 1, none⟩ = some (.int .i64 A)
 c2 : w.cell? ⟨C, 2, none⟩ = some (.int .i64 B)
 c3 : w.cell? ⟨C, 3, none⟩ = some (.int .i64 N)
 c4 : w.cell? ⟨C, 4, none⟩ = some (.int .i64 gx)
 c5 : w.cell? ⟨C, 5, none⟩ = some (.int .i64 gy)
theorem PtAt.below {w w' : World} {C : Nat} {a : Pt} (h : PtAt w C a) {S : Nat} (hb : Below S w w') (hC : C < S) : PtAt w' C a :=
 ⟨(hb.cell (p := ⟨C, 0, none⟩) hC).trans h.c0, (hb.cell (p := ⟨C, 1, none⟩) hC).trans h.c1, (hb.cell (p := ⟨C, 2, none⟩) hC).trans h.c2,
  (hb.frozen (p := ⟨C, 0, none⟩) hC).trans h.f0, (hb.frozen (p := ⟨C, 1, none⟩) hC).trans h.f1, (hb.frozen (p := ⟨C, 2, none⟩) hC).trans h.f2⟩
theorem CvAt.below {w w' : World} {C : Nat} {p A B N gx gy : Int} (h : CvAt w C p A B N gx gy) {S : Nat} (hb : Below S w w') (hC : C < S) : CvAt w' C p A B N gx gy :=
 ⟨(hb.cell (p := ⟨C, 0, none⟩) hC).trans h.c0, (hb.cell (p := ⟨C, 1, none⟩) hC).trans h.c1, (hb.cell (p := ⟨C, 2, none⟩) hC).trans h.c2,
  (hb.cell (p := ⟨C, 3, none⟩) hC).trans h.c3, (hb.cell (p := ⟨C, 4, none⟩) hC).trans h.c4, (hb.cell (p := ⟨C, 5, none⟩) hC).trans h.c5⟩
structure MulAt (w wr : World) (p A B N gx gy : Int) (b o : Pt) : Prop where
 cv : CvAt wr w.heap.size p A B N gx gy
 pt : PtAt wr (w.heap.size + 1) b
 rs : ∃ z, PtAt wr (w.heap.size + 1 + 1) z
 ot : PtAt wr (w.heap.size + 1 + 1 + 1) o
 below : Below w.heap.size w wr
 big : w.heap.size + 4 ≤ wr.heap.size
def putPt (w : World) (C : Nat) (a : Pt) : World := ((w.setCell ⟨C, 0, none⟩ (.int .i64 a.x)).setCell ⟨C, 1, none⟩ (.int .i64 a.y)).setCell ⟨C, 2, none⟩ (.bool a.far)
theorem PtAt.put {w : World} {C : Nat} {a : Pt} (h : PtAt w C a) (b : Pt) : PtAt (putPt w C b) C b := by
 have e01 : (⟨C, 0, none⟩ : Addr) ≠ ⟨C, 1, none⟩ := fun e => by have := congrArg Addr.off e; simp at this
 have e02 : (⟨C, 0, none⟩ : Addr) ≠ ⟨C, 2, none⟩ := fun e => by have := congrArg Addr.off e; simp at this
 have e12 : (⟨C, 1, none⟩ : Addr) ≠ ⟨C, 2, none⟩ := fun e => by have := congrArg Addr.off e; simp at this
 unfold putPt
 refine ⟨?_, ?_, ?_, ?_, ?_, ?_⟩
 ·rw [World.cell?_setCell_other _ _ _ _ e02.symm, World.cell?_setCell_other _ _ _ _ e01.symm, World.cell?_setCell_same _ _ _ h.c0]
 ·rw [World.cell?_setCell_other _ _ _ _ e12.symm, World.cell?_setCell_same _ _ _ ((World.cell?_setCell_other _ _ _ _ e01).trans h.c1)]
 ·rw [World.cell?_setCell_same _ _ _ ((World.cell?_setCell_other _ _ _ _ e12).trans ((World.cell?_setCell_other _ _ _ _ e02).trans h.c2))]
 ·rw [World.frozen?_setCell, World.frozen?_setCell, World.frozen?_setCell]; exact h.f0
 ·rw [World.frozen?_setCell, World.frozen?_setCell, World.frozen?_setCell]; exact h.f1
 ·rw [World.frozen?_setCell, World.frozen?_setCell, World.frozen?_setCell]; exact h.f2
theorem cell_put {w : World} {C : Nat} {b : Pt} {D o : Nat} (h : D ≠ C) : (putPt w C b).cell? ⟨D, o, none⟩ = w.cell? ⟨D, o, none⟩ := by
 unfold putPt
 rw [World.cell?_setCell_other _ _ _ _ (fun e => h (congrArg Addr.block e).symm), World.cell?_setCell_other _ _ _ _ (fun e => h (congrArg Addr.block e).symm), World.cell?_setCell_other _ _ _ _ (fun e => h (congrArg Addr.block e).symm)]
theorem frozen_put {w : World} {C : Nat} {b : Pt} {D o : Nat} : (putPt w C b).frozen? ⟨D, o, none⟩ = w.frozen? ⟨D, o, none⟩ := by
 unfold putPt
 rw [World.frozen?_setCell, World.frozen?_setCell, World.frozen?_setCell]
theorem PtAt.put_other {w : World} {C D : Nat} {a : Pt} (h : PtAt w D a) (b : Pt) (hne : D ≠ C) : PtAt (putPt w C b) D a :=
 ⟨(cell_put hne).trans h.c0, (cell_put hne).trans h.c1, (cell_put hne).trans h.c2, frozen_put.trans h.f0, frozen_put.trans h.f1, frozen_put.trans h.f2⟩
theorem CvAt.put_other {w : World} {C D : Nat} {p A B N gx gy : Int} (h : CvAt w D p A B N gx gy) (b : Pt) (hne : D ≠ C) : CvAt (putPt w C b) D p A B N gx gy :=
 ⟨(cell_put hne).trans h.c0, (cell_put hne).trans h.c1, (cell_put hne).trans h.c2, (cell_put hne).trans h.c3, (cell_put hne).trans h.c4, (cell_put hne).trans h.c5⟩
theorem size_put (w : World) (C : Nat) (b : Pt) : (putPt w C b).heap.size = w.heap.size := by simp [putPt, World.setCell]
theorem below_put {S : Nat} {a w : World} (h : Below S a w) {C : Nat} (hC : S ≤ C) (b : Pt) : Below S a (putPt w C b) := ((h.setCell (p := ⟨C, 0, none⟩) hC _).setCell (p := ⟨C, 1, none⟩) hC _).setCell (p := ⟨C, 2, none⟩) hC _
theorem MulAt.call {w wr w1 : World} {p A B N gx gy : Int} {b o : Pt} (h : MulAt w wr p A B N gx gy b o) (hb : Below wr.heap.size wr w1) : MulAt w w1 p A B N gx gy b o :=
 ⟨h.cv.below hb (by have := h.big; omega), h.pt.below hb (by have := h.big; omega), h.rs.imp fun z hz => hz.below hb (by have := h.big; omega), h.ot.below hb (by have := h.big; omega), h.below.trans (hb.mono (by have := h.big; omega)), Nat.le_trans h.big hb.size⟩
theorem MulAt.putO {w wr : World} {p A B N gx gy : Int} {b o : Pt} (h : MulAt w wr p A B N gx gy b o) (c : Pt) : MulAt w (putPt wr (w.heap.size + 1 + 1 + 1) c) p A B N gx gy b c :=
 ⟨h.cv.put_other _ (by omega), h.pt.put_other _ (by omega), h.rs.imp fun z hz => hz.put_other _ (by omega), h.ot.put _, below_put h.below (by omega) _, by rw [size_put]; exact h.big⟩
theorem MulAt.putB {w wr : World} {p A B N gx gy : Int} {b o : Pt} (h : MulAt w wr p A B N gx gy b o) (c : Pt) : MulAt w (putPt wr (w.heap.size + 1) c) p A B N gx gy c o :=
 ⟨h.cv.put_other _ (by omega), h.pt.put _, h.rs.imp fun z hz => hz.put_other _ (by omega), h.ot.put_other _ (by omega), below_put h.below (by omega) _, by rw [size_put]; exact h.big⟩
set_option maxHeartbeats 1600000 in
theorem l3Mul_any (p : Nat) (A B N gx gy : Int) (n : Nat) (a : Pt) (w : World) (hpr : Prime p) (h5 : 5 ≤ p) (hp : p ≤ 1048576) (hA0 : -1 ≤ A) (hA : A ≤ 2097152) (ha : InR p a) (hn : n ≤ 9223372036854775807) :
  Calls Tryz.prog 97 #[.agg #[.int .i64 p, .int .i64 A, .int .i64 B, .int .i64 N, .int .i64 gx, .int .i64 gy], .int .i64 n, .agg #[.int .i64 a.x, .int .i64 a.y, .bool a.far]] w fun r w' => r = .returned (ptV (mulF p A n a)) ∧ Below w.heap.size w w' := by
 have Hadd : Hid (∀ (a b : Pt) (w : World), InR p a → InR p b → Calls Tryz.prog 119 #[.agg #[.int .i64 p, .int .i64 A, .int .i64 B, .int .i64 N, .int .i64 gx, .int .i64 gy], .agg #[.int .i64 a.x, .int .i64 a.y, .bool a.far], .agg #[.int .i64 b.x, .int .i64 b.y, .bool b.far]] w fun r w' => r = .returned (ptV (addF p A a b)) ∧ Below w.heap.size w w') := fun a b w ha hb => l3Add_any p A B N gx gy a b w hpr h5 hp hA0 hA ha hb
 have Hin : Hid (∀ a b : Pt, InR p a → InR p b → InR p (addF p A a b)) := fun a b ha hb => addF_inR (by omega) ha hb
 have Hs : Hid (mulAcc p A 64 n farP a = mulF p A n a) := rfl
 have Ha : Hid (InR p a) := ha
 have Hf : Hid (InR p farP) := ⟨Int.le_refl _, by show (0 : Int) < p; omega, Int.le_refl _, by show (0 : Int) < p; omega⟩
 generalize mulF p A n a = G at *
 clear hpr h5 hp hA0 hA ha
 go_enter Tryz.func97, Tryz.ntmps97
 go_wp2
 go_loopw [1] (fun m wr => ∃ (f X : Nat) (o b : Pt), m = .int .i64 X ∧ X < 2 ^ f ∧ X ≤ 9223372036854775807 ∧ InR p o ∧ InR p b ∧ mulAcc p A f X o b = G ∧ MulAt w wr p A B N gx gy b o) (fun m _ => (intOf m).toNat)
 case atStart =>
  refine ⟨64, n, farP, a, rfl, by omega, hn, Hf.out, Ha.out, Hs.out, ⟨⟨?_, ?_, ?_, ?_, ?_, ?_⟩, ⟨?_, ?_, ?_, ?_, ?_, ?_⟩, ⟨⟨0, 0, false⟩, ⟨?_, ?_, ?_, ?_, ?_, ?_⟩⟩, ⟨?_, ?_, ?_, ?_, ?_, ?_⟩, ?_, ?_⟩⟩
  all_goals first | (simp [go_sem, farP]; done) | skip
  repeat (first | exact Below.refl _ _ | refine Below.setCell ?_ (by simp <;> omega) _ | refine Below.alloc ?_ (by simp <;> omega) _ | refine below_drewN ?_ _)
 case round =>
  obtain ⟨f, X, o, b, rfl, hX, hXm, ho, hb, hacc, hM⟩ := hrel
  have HM := hide hM
  have Hacc := hide hacc
  clear Hs Ha Hf hacc
  obtain ⟨⟨k0, k1, k2, k3, k4, k5⟩, ⟨b0, b1, b2, bf0, bf1, bf2⟩, ⟨z, ⟨z0, z1, z2, zf0, zf1, zf2⟩⟩, ⟨o0, o1, o2, of0, of1, of2⟩, hbel, hbig⟩ := hM
  by_cases h0 : X = 0
  ·subst h0
   have e : o = G := by rw [← Hacc.out, mulAcc_zero]
   subst e
   go_wp2
   refine bodyPost_ret (v := .agg #[.int .i64 o.x, .int .i64 o.y, .bool o.far]) (by simp [results, Tryz.results97, go_sem, z0, z1, z2]) rfl ⟨rfl, ?_⟩
   exact below_put hbel (C := w.heap.size + 1 + 1) (by omega) o
  ·obtain ⟨f', rfl⟩ : ∃ f', f = f' + 1 := by
    rcases f with _ | f'
    ·simp at hX; omega
    ·exact ⟨f', rfl⟩
   have hX2 : X / 2 < 2 ^ f' := by rw [Nat.pow_succ] at hX; omega
   have hpos : 0 < (X : Int) := by omega
   have Hac : Hid (mulAcc p A f' (X / 2) (if X % 2 = 1 then addF p A o b else o) (addF p A b b) = G) := Hacc.out
   have Hbb := hide (Hin.out b b hb hb)
   clear Hacc hX
   by_cases hodd : X % 2 = 1
   ·have hb1 : (X : Int) % 2 = 1 := by omega
    have Hob := hide (Hin.out o b ho hb)
    have Ha2 : Hid (mulAcc p A f' (X / 2) (addF p A o b) (addF p A b b) = G) := by have := Hac.out; rwa [if_pos hodd] at this
    clear Hac
    go_wp2_with fail
    refine (Hadd.out o b _ ho hb).mono ?_
    rintro e w1 ⟨rfl, hw1⟩
    generalize addF p A o b = c at *
    have M1 := HM.out.call hw1
    have HM1 := hide M1
    clear hw1 HM k0 k1 k2 k3 k4 k5 b0 b1 b2 bf0 bf1 bf2 z0 z1 z2 zf0 zf1 zf2 o0 o1 o2 of0 of1 of2 hbel hbig
    obtain ⟨⟨k0, k1, k2, k3, k4, k5⟩, ⟨b0, b1, b2, bf0, bf1, bf2⟩, _, ⟨o0, o1, o2, of0, of1, of2⟩, hbel, hbig⟩ := M1
    simp only [ptV]
    go_wp2_with fail
    refine (Hadd.out b b _ hb hb).mono ?_
    rintro e w2 ⟨rfl, hw2⟩
    generalize addF p A b b = d at *
    have M2 := (HM1.out.putO c).call hw2
    have HM2 := hide M2
    clear hw2 HM1 k0 k1 k2 k3 k4 k5 b0 b1 b2 bf0 bf1 bf2 o0 o1 o2 of0 of1 of2 hbel hbig
    obtain ⟨⟨k0, k1, k2, k3, k4, k5⟩, ⟨b0, b1, b2, bf0, bf1, bf2⟩, _, ⟨o0, o1, o2, of0, of1, of2⟩, hbel, hbig⟩ := M2
    simp only [ptV]
    go_wp2
    go_roundw
    case rel => exact ⟨f', X / 2, c, d, by go_num, hX2, by omega, Hob.out, Hbb.out, Ha2.out, HM2.out.putB d⟩
    case measure => simp [intOf]; omega
   ·have hb1 : (X : Int) % 2 = 0 := by omega
    have Ha2 : Hid (mulAcc p A f' (X / 2) o (addF p A b b) = G) := by have := Hac.out; rwa [if_neg hodd] at this
    clear Hac
    go_wp2_with fail
    refine (Hadd.out b b _ hb hb).mono ?_
    rintro e w2 ⟨rfl, hw2⟩
    generalize addF p A b b = d at *
    have M2 := HM.out.call hw2
    have HM2 := hide M2
    clear hw2 HM k0 k1 k2 k3 k4 k5 b0 b1 b2 bf0 bf1 bf2 z0 z1 z2 zf0 zf1 zf2 o0 o1 o2 of0 of1 of2 hbel hbig
    obtain ⟨⟨k0, k1, k2, k3, k4, k5⟩, ⟨b0, b1, b2, bf0, bf1, bf2⟩, _, ⟨o0, o1, o2, of0, of1, of2⟩, hbel, hbig⟩ := M2
    simp only [ptV]
    go_wp2
    go_roundw
    case rel => exact ⟨f', X / 2, o, d, by go_num, hX2, by omega, ho, Hbb.out, Ha2.out, HM2.out.putB d⟩
    case measure => simp [intOf]; omega
end Go.Proofs.YtfhiiakoilkbkaaGreatDoor
