/- Walks: sums and multiples of points in the model, whatever the points: l3Add, l3Mul. -/
import Derived.Test.YtejlgcnhfomadacDoorCurveA
namespace Go.Proofs.YtejlgcnhfomadacDoor
set_option linter.unusedVariables false
open Go.RowKit

theorem mulAcc_zero (p : Nat) (A : Int) : ∀ (f : Nat) (o a : Pt), mulAcc p A f 0 o a = o := by
  intro f
  induction f with
  | zero => intro o a; rfl
  | succ f ih => intro o a; rw [mulAcc]; simp [ih]

/-- A point in a block of its own. -/
structure PtAt (w : World) (C : Nat) (a : Pt) : Prop where
  c0 : w.cell? ⟨C, 0, none⟩ = some (.int .i64 a.x)
  c1 : w.cell? ⟨C, 1, none⟩ = some (.int .i64 a.y)
  c2 : w.cell? ⟨C, 2, none⟩ = some (.bool a.far)
  f0 : w.frozen? ⟨C, 0, none⟩ = false
  f1 : w.frozen? ⟨C, 1, none⟩ = false
  f2 : w.frozen? ⟨C, 2, none⟩ = false

/-- A curve in a block of its own. -/
structure CvAt (w : World) (C : Nat) (p A B N gx gy : Int) : Prop where
  c0 : w.cell? ⟨C, 0, none⟩ = some (.int .i64 p)
  c1 : w.cell? ⟨C, 1, none⟩ = some (.int .i64 A)
  c2 : w.cell? ⟨C, 2, none⟩ = some (.int .i64 B)
  c3 : w.cell? ⟨C, 3, none⟩ = some (.int .i64 N)
  c4 : w.cell? ⟨C, 4, none⟩ = some (.int .i64 gx)
  c5 : w.cell? ⟨C, 5, none⟩ = some (.int .i64 gy)

theorem PtAt.below {w w' : World} {C : Nat} {a : Pt} (h : PtAt w C a) {S : Nat} (hb : Below S w w') (hC : C < S) : PtAt w' C a :=
  ⟨(hb.cell (p := ⟨C, 0, none⟩) hC).trans h.c0, (hb.cell (p := ⟨C, 1, none⟩) hC).trans h.c1, (hb.cell (p := ⟨C, 2, none⟩) hC).trans h.c2,
   (hb.frozen (p := ⟨C, 0, none⟩) hC).trans h.f0, (hb.frozen (p := ⟨C, 1, none⟩) hC).trans h.f1, (hb.frozen (p := ⟨C, 2, none⟩) hC).trans h.f2⟩

theorem CvAt.below {w w' : World} {C : Nat} {p A B N gx gy : Int} (h : CvAt w C p A B N gx gy) {S : Nat} (hb : Below S w w') (hC : C < S) : CvAt w' C p A B N gx gy :=
  ⟨(hb.cell (p := ⟨C, 0, none⟩) hC).trans h.c0, (hb.cell (p := ⟨C, 1, none⟩) hC).trans h.c1, (hb.cell (p := ⟨C, 2, none⟩) hC).trans h.c2,
   (hb.cell (p := ⟨C, 3, none⟩) hC).trans h.c3, (hb.cell (p := ⟨C, 4, none⟩) hC).trans h.c4, (hb.cell (p := ⟨C, 5, none⟩) hC).trans h.c5⟩

/-- What l3Mul's loop keeps: the curve, the point, the answer's block and the sum so far. -/
structure MulAt (w wr : World) (p A B N gx gy : Int) (b o : Pt) : Prop where
  cv : CvAt wr w.heap.size p A B N gx gy
  pt : PtAt wr (w.heap.size + 1) b
  rs : ∃ z, PtAt wr (w.heap.size + 1 + 1) z
  ot : PtAt wr (w.heap.size + 1 + 1 + 1) o
  below : Below w.heap.size w wr
  big : w.heap.size + 4 ≤ wr.heap.size

def putPt (w : World) (C : Nat) (a : Pt) : World := ((w.setCell ⟨C, 0, none⟩ (.int .i64 a.x)).setCell ⟨C, 1, none⟩ (.int .i64 a.y)).setCell ⟨C, 2, none⟩ (.bool a.far)

theorem PtAt.put {w : World} {C : Nat} {a : Pt} (h : PtAt w C a) (b : Pt) : PtAt (putPt w C b) C b := by
  have e01 : (⟨C, 0, none⟩ : Addr) ≠ ⟨C, 1, none⟩ := fun e => by have := congrArg Addr.off e; simp at this
  have e02 : (⟨C, 0, none⟩ : Addr) ≠ ⟨C, 2, none⟩ := fun e => by have := congrArg Addr.off e; simp at this
  have e12 : (⟨C, 1, none⟩ : Addr) ≠ ⟨C, 2, none⟩ := fun e => by have := congrArg Addr.off e; simp at this
  unfold putPt
  refine ⟨?_, ?_, ?_, ?_, ?_, ?_⟩
  · rw [World.cell?_setCell_other _ _ _ _ e02.symm, World.cell?_setCell_other _ _ _ _ e01.symm, World.cell?_setCell_same _ _ _ h.c0]
  · rw [World.cell?_setCell_other _ _ _ _ e12.symm, World.cell?_setCell_same _ _ _ ((World.cell?_setCell_other _ _ _ _ e01).trans h.c1)]
  · rw [World.cell?_setCell_same _ _ _ ((World.cell?_setCell_other _ _ _ _ e12).trans ((World.cell?_setCell_other _ _ _ _ e02).trans h.c2))]
  · rw [World.frozen?_setCell, World.frozen?_setCell, World.frozen?_setCell]; exact h.f0
  · rw [World.frozen?_setCell, World.frozen?_setCell, World.frozen?_setCell]; exact h.f1
  · rw [World.frozen?_setCell, World.frozen?_setCell, World.frozen?_setCell]; exact h.f2

theorem cell_put {w : World} {C : Nat} {b : Pt} {D o : Nat} (h : D ≠ C) : (putPt w C b).cell? ⟨D, o, none⟩ = w.cell? ⟨D, o, none⟩ := by
  unfold putPt
  rw [World.cell?_setCell_other _ _ _ _ (fun e => h (congrArg Addr.block e).symm), World.cell?_setCell_other _ _ _ _ (fun e => h (congrArg Addr.block e).symm), World.cell?_setCell_other _ _ _ _ (fun e => h (congrArg Addr.block e).symm)]

theorem frozen_put {w : World} {C : Nat} {b : Pt} {D o : Nat} : (putPt w C b).frozen? ⟨D, o, none⟩ = w.frozen? ⟨D, o, none⟩ := by
  unfold putPt
  rw [World.frozen?_setCell, World.frozen?_setCell, World.frozen?_setCell]

theorem PtAt.put_other {w : World} {C D : Nat} {a : Pt} (h : PtAt w D a) (b : Pt) (hne : D ≠ C) : PtAt (putPt w C b) D a :=
  ⟨(cell_put hne).trans h.c0, (cell_put hne).trans h.c1, (cell_put hne).trans h.c2, frozen_put.trans h.f0, frozen_put.trans h.f1, frozen_put.trans h.f2⟩

theorem CvAt.put_other {w : World} {C D : Nat} {p A B N gx gy : Int} (h : CvAt w D p A B N gx gy) (b : Pt) (hne : D ≠ C) : CvAt (putPt w C b) D p A B N gx gy :=
  ⟨(cell_put hne).trans h.c0, (cell_put hne).trans h.c1, (cell_put hne).trans h.c2, (cell_put hne).trans h.c3, (cell_put hne).trans h.c4, (cell_put hne).trans h.c5⟩

theorem size_put (w : World) (C : Nat) (b : Pt) : (putPt w C b).heap.size = w.heap.size := by simp [putPt, World.setCell]

theorem below_put {S : Nat} {a w : World} (h : Below S a w) {C : Nat} (hC : S ≤ C) (b : Pt) : Below S a (putPt w C b) := ((h.setCell (p := ⟨C, 0, none⟩) hC _).setCell (p := ⟨C, 1, none⟩) hC _).setCell (p := ⟨C, 2, none⟩) hC _

theorem MulAt.call {w wr w1 : World} {p A B N gx gy : Int} {b o : Pt} (h : MulAt w wr p A B N gx gy b o) (hb : Below wr.heap.size wr w1) : MulAt w w1 p A B N gx gy b o :=
  ⟨h.cv.below hb (by have := h.big; omega), h.pt.below hb (by have := h.big; omega), h.rs.imp fun z hz => hz.below hb (by have := h.big; omega), h.ot.below hb (by have := h.big; omega), h.below.trans (hb.mono (by have := h.big; omega)), Nat.le_trans h.big hb.size⟩

theorem MulAt.putO {w wr : World} {p A B N gx gy : Int} {b o : Pt} (h : MulAt w wr p A B N gx gy b o) (c : Pt) : MulAt w (putPt wr (w.heap.size + 1 + 1 + 1) c) p A B N gx gy b c :=
  ⟨h.cv.put_other _ (by omega), h.pt.put_other _ (by omega), h.rs.imp fun z hz => hz.put_other _ (by omega), h.ot.put _, below_put h.below (by omega) _, by rw [size_put]; exact h.big⟩

theorem MulAt.putB {w wr : World} {p A B N gx gy : Int} {b o : Pt} (h : MulAt w wr p A B N gx gy b o) (c : Pt) : MulAt w (putPt wr (w.heap.size + 1) c) p A B N gx gy c o :=
  ⟨h.cv.put_other _ (by omega), h.pt.put _, h.rs.imp fun z hz => hz.put_other _ (by omega), h.ot.put_other _ (by omega), below_put h.below (by omega) _, by rw [size_put]; exact h.big⟩

end Go.Proofs.YtejlgcnhfomadacDoor
