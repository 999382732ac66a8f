/- Walks: l3Curves and l3Draw of the model: one of the three curves; the cursor alone has turned. -/
import Derived.Test.YtejlgcnhfomadaaDoorDrawN
import Derived.Test.YtejlgcnhfomadaaDoorStepsC
import Derived.Test.YtejlgcnhfomadaaDoorCurveC
namespace Go.Proofs.YtejlgcnhfomadaaDoor
set_option linter.unusedVariables false
open Go.RowKit Go.Sort

/-- The curve j lies in block S, from place o on. -/
structure CvO (w : World) (S o j : Nat) : Prop where
  c0 : w.cell? ⟨S, o, none⟩ = some (.int .i64 (kP j))
  c1 : w.cell? ⟨S, o + 1, none⟩ = some (.int .i64 (kA j))
  c2 : w.cell? ⟨S, o + 2, none⟩ = some (.int .i64 (kB j))
  c3 : w.cell? ⟨S, o + 3, none⟩ = some (.int .i64 (kN j))
  c4 : w.cell? ⟨S, o + 4, none⟩ = some (.int .i64 (kX j))
  c5 : w.cell? ⟨S, o + 5, none⟩ = some (.int .i64 (kY j))

theorem CvO.of_block {w w' : World} {S o j : Nat} (h : CvO w S o j) (e : w'.heap[S]? = w.heap[S]?) : CvO w' S o j := by
  have k : ∀ q, w'.cell? ⟨S, q, none⟩ = w.cell? ⟨S, q, none⟩ := fun q => World.cell?_of_block (a := ⟨S, q, none⟩) e
  exact ⟨(k _).trans h.c0, (k _).trans h.c1, (k _).trans h.c2, (k _).trans h.c3, (k _).trans h.c4, (k _).trans h.c5⟩

theorem CvO.lt {w : World} {S o j : Nat} (h : CvO w S o j) : S < w.heap.size := block_lt_of_cell h.c0

set_option maxHeartbeats 800000 in
set_option maxRecDepth 100000 in
theorem l3Curves_any (w : World) : Calls Tryd.prog 82 #[] w fun e w' => e = .returned (.slice (some ⟨w.heap.size, 0, none⟩) 3 3) ∧ (∀ j, j < 3 → CvO w' w.heap.size (j * 6) j) ∧ Below w.heap.size w w' := by
  go_enter Tryd.func82, Tryd.ntmps82
  go_wp2
  go_ret
  refine ⟨rfl, fun j hj => ?_, (Below.refl _ _).alloc (Nat.le_refl _) _⟩
  match j, hj with
  | 0, _ => constructor <;> exact (World.cell?_alloc_at _ _ _ _ rfl).trans rfl
  | 1, _ => constructor <;> exact (World.cell?_alloc_at _ _ _ _ rfl).trans rfl
  | 2, _ => constructor <;> exact (World.cell?_alloc_at _ _ _ _ rfl).trans rfl

/-- The call answers one of the three curves, and of what was there turns the cursor alone. -/
def GivesK (w : World) (C : Nat) (a : Option Addr) (n cap : Nat) (e : Ending) (w' : World) : Prop :=
  ∃ j, j < 3 ∧ e = .returned (.agg #[.int .i64 (kP j), .int .i64 (kA j), .int .i64 (kB j), .int .i64 (kN j), .int .i64 (kX j), .int .i64 (kY j)]) ∧ Cur w' C a n cap ∧ Grw (Cx C) w w'

theorem Code.grw {w w' : World} {X : Nat → Prop} {C : Nat} {a : Option Addr} {b off n : Nat} {f : Nat → Int} (h : Code w C a b off n f) (hg : Grw X w w') (hX : 0 < n → ¬ X b) : Code w' C a b off n f :=
  ⟨⟨h.seg.at', fun i hi => (World.cell?_of_block (a := ⟨b, off + i, none⟩) (hg.block b (h.seg.lt (by omega)) (hX (by omega)))).trans (h.seg.cell i hi)⟩, h.byts, h.ne⟩

theorem Code.ext {w w' : World} {C : Nat} {a : Option Addr} {b off n : Nat} {f : Nat → Int} (h : Code w C a b off n f) (hg : Ext w w') : Code w' C a b off n f := h.grw (X := Cx C) (.of_ext hg) h.ne

theorem Cur.ext {w w' : World} {C : Nat} {a : Option Addr} {n cap : Nat} (h : Cur w C a n cap) (e : Ext w w') : Cur w' C a n cap := h.of_block (e.block C (block_lt_of_cell h.c0))

theorem Cur.lt {w : World} {C : Nat} {a : Option Addr} {n cap : Nat} (h : Cur w C a n cap) : C < w.heap.size := block_lt_of_cell h.c0

theorem Ext.alloc (w : World) (o : Obj) : Ext w (w.alloc o) := (Below.refl _ _).alloc (Nat.le_refl _) _

/-- A struct of six ints stored into block C. -/
def putCv (w : World) (C : Nat) (p A B N x y : Int) : World := (((((w.setCell ⟨C, 0, none⟩ (.int .i64 p)).setCell ⟨C, 1, none⟩ (.int .i64 A)).setCell ⟨C, 2, none⟩ (.int .i64 B)).setCell ⟨C, 3, none⟩ (.int .i64 N)).setCell ⟨C, 4, none⟩ (.int .i64 x)).setCell ⟨C, 5, none⟩ (.int .i64 y)

/-- A struct of six ints in block C, which may be written. -/
structure CvF (w : World) (C : Nat) (p A B N x y : Int) : Prop where
  c : CvAt w C p A B N x y
  f : ∀ o, w.frozen? ⟨C, o, none⟩ = false

theorem CvF.of_block {w w' : World} {C : Nat} {p A B N x y : Int} (h : CvF w C p A B N x y) (e : w'.heap[C]? = w.heap[C]?) : CvF w' C p A B N x y := by
  have k : ∀ q, w'.cell? ⟨C, q, none⟩ = w.cell? ⟨C, q, none⟩ := fun q => World.cell?_of_block (a := ⟨C, q, none⟩) e
  have z : ∀ q, w'.frozen? ⟨C, q, none⟩ = w.frozen? ⟨C, q, none⟩ := fun q => World.frozen?_of_block (a := ⟨C, q, none⟩) e
  obtain ⟨⟨c0, c1, c2, c3, c4, c5⟩, f⟩ := h
  exact ⟨⟨(k _).trans c0, (k _).trans c1, (k _).trans c2, (k _).trans c3, (k _).trans c4, (k _).trans c5⟩, fun o => (z o).trans (f o)⟩

theorem CvF.alloc (w : World) (p A B N x y : Int) (t : TypeId) : CvF (w.alloc (.cells #[.int .i64 p, .int .i64 A, .int .i64 B, .int .i64 N, .int .i64 x, .int .i64 y] t)) w.heap.size p A B N x y :=
  ⟨CvAt.alloc w p A B N x y t, fun o => by simp [go_sem]⟩

theorem size_putCv (w : World) (C : Nat) (p A B N x y : Int) : (putCv w C p A B N x y).heap.size = w.heap.size := by simp [putCv, World.setCell]

theorem heap_putCv (w : World) (C : Nat) (p A B N x y : Int) {k : Nat} (h : k ≠ C) : (putCv w C p A B N x y).heap[k]? = w.heap[k]? := by
  unfold putCv
  repeat rw [Below.heap_setCell _ _ _ _ (fun e => h e)]

theorem below_putCv {S : Nat} {a w : World} (h : Below S a w) {C : Nat} (hC : S ≤ C) (p A B N x y : Int) : Below S a (putCv w C p A B N x y) :=
  ((((((h.setCell (p := ⟨C, 0, none⟩) hC _).setCell (p := ⟨C, 1, none⟩) hC _).setCell (p := ⟨C, 2, none⟩) hC _).setCell (p := ⟨C, 3, none⟩) hC _).setCell (p := ⟨C, 4, none⟩) hC _).setCell (p := ⟨C, 5, none⟩) hC _)

/-- What is stored into a block that came later. -/
theorem Grw.later {X : Nat → Prop} {S : Nat} {a b c : World} (h : Grw X a b) (hb : Below S b c) (hS : a.heap.size ≤ S) : Grw X a c :=
  ⟨hb.os.trans h.os, hb.tape.trans h.tape, hb.output.trans h.output, Nat.le_trans h.size hb.size, fun k hk hn => (hb.block k (by omega)).trans (h.block k hk hn)⟩

set_option maxHeartbeats 800000 in
set_option maxRecDepth 100000 in
theorem l3Draw_any (C : Nat) (a : Option Addr) (b off n cap : Nat) (f : Nat → Int) (w : World) (hC : Cur w C a n cap) (hK : Code w C a b off n f) (hn : n ≤ 1048576) :
    Calls Tryd.prog 36 #[.pointer (some ⟨C, 0, none⟩)] w fun e w' => GivesK w C a n cap e w' := by
  go_enter Tryd.func36, Tryd.ntmps36
  go_wp2_with fail
  refine (l3Curves_any _).mono ?_
  rintro e w1 ⟨rfl, hv, hw1⟩
  have E1 : Ext w w1 := (Ext.alloc w _).trans hw1
  have F1 : CvF w1 w.heap.size 0 0 0 0 0 0 := (CvF.alloc w 0 0 0 0 0 0 25).of_block (hw1.block w.heap.size (by simp))
  have hC1 := hC.ext E1
  have hl := hC.lt
  have s1 : w.heap.size + 1 ≤ w1.heap.size := by have := Below.size hw1; rwa [World.size_alloc] at this
  rw [World.size_alloc] at hv
  clear hw1
  go_wp2_with fail
  refine (l1Below_any C a b off n cap f 3 _ hC1 (hK.ext E1) hn (by omega) (by omega)).mono ?_
  rintro e w2 ⟨x, rfl, x0, x1, hC2, T2⟩
  obtain ⟨j, rfl⟩ := Int.eq_ofNat_of_zero_le x0
  have hj : j < 3 := by omega
  have hj' : (j : Int) < 3 := by omega
  have kS : CvO w2 (w.heap.size + 1) (j * 6) j := (hv j hj).of_block (T2.grown.block _ (hv j hj).lt (by simp; omega))
  have F2 : CvF w2 w.heap.size 0 0 0 0 0 0 := F1.of_block (T2.grown.block _ (by omega) (by simp; omega))
  have G2 : Grw (Cx C) w w2 := (Grw.of_ext E1).trans (.of_touch T2 rfl)
  clear E1 F1 hC1 hv T2 s1 hC hK
  obtain ⟨c0, c1, c2, c3, c4, c5⟩ := kS
  obtain ⟨⟨z0, z1, z2, z3, z4, z5⟩, fz⟩ := F2
  have hG := hide G2
  clear G2
  go_wp2
  refine bodyPost_ret (v := .agg #[.int .i64 (kP j), .int .i64 (kA j), .int .i64 (kB j), .int .i64 (kN j), .int .i64 (kX j), .int .i64 (kY j)]) (by simp [results, Tryd.results36, go_sem, z0, z1, z2, z3, z4, z5]) rfl ⟨j, hj, rfl, ?_, ?_⟩
  · exact hC2.of_block (heap_putCv w2 w.heap.size _ _ _ _ _ _ (by omega))
  · exact hG.out.later (below_putCv (Below.refl w.heap.size w2) (Nat.le_refl _) _ _ _ _ _ _) (Nat.le_refl _)

end Go.Proofs.YtejlgcnhfomadaaDoor
