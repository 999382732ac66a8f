/- Blocks of cells: what lies there, what a store leaves. Nothing of the program. -/
import Derived.Test.YtjpdllhhganbpaaStepsC
namespace Go.Proofs.Ytjpdllhhganbpaa
set_option linter.unusedVariables false
open Go Go.Sort Go.RowKit

/-- Block C holds these, and is not frozen. -/
def Blk (w : World) (C : Nat) (vs : List Value) : Prop := ∀ i v, vs[i]? = some v → w.cell? ⟨C, i, none⟩ = some v ∧ w.frozen? ⟨C, i, none⟩ = false

theorem Blk.below {w w' : World} {C : Nat} {vs : List Value} (h : Blk w C vs) {S : Nat} (hb : Below S w w') (hC : C < S) : Blk w' C vs := fun i v hi =>
  ⟨(hb.cell (p := ⟨C, i, none⟩) hC).trans (h i v hi).1, (hb.frozen (p := ⟨C, i, none⟩) hC).trans (h i v hi).2⟩

theorem Blk.ext {w w' : World} {C : Nat} {vs : List Value} (h : Blk w C vs) (e : Ext w w') (hC : C < w.heap.size) : Blk w' C vs := h.below e hC

theorem Blk.alloc (w : World) (vs : List Value) (t : TypeId) : Blk (w.alloc (.cells vs.toArray t)) w.heap.size vs := fun i v hi => by
  constructor
  · simp [go_sem, hi]
  · simp [go_sem]

/-- These are stored, from place i on. -/
def putL (C : Nat) : Nat → List Value → World → World
  | _, [], w => w
  | i, v :: vs, w => putL C (i + 1) vs (w.setCell ⟨C, i, none⟩ v)

theorem size_putL (C : Nat) : ∀ (vs : List Value) (i : Nat) (w : World), (putL C i vs w).heap.size = w.heap.size
  | [], _, _ => rfl
  | v :: vs, i, w => by rw [putL, size_putL C vs]; simp [World.setCell]

theorem frozen_putL (C : Nat) (q : Addr) : ∀ (vs : List Value) (i : Nat) (w : World), (putL C i vs w).frozen? q = w.frozen? q
  | [], _, _ => rfl
  | v :: vs, i, w => by rw [putL, frozen_putL C q vs]; simp

theorem cell_putL_other (C : Nat) (q : Addr) : ∀ (vs : List Value) (i : Nat) (w : World), (q.block = C → q.off < i) → (putL C i vs w).cell? q = w.cell? q
  | [], _, _, _ => rfl
  | v :: vs, i, w, h => by
    rw [putL, cell_putL_other C q vs (i + 1) _ (fun e => Nat.lt_succ_of_lt (h e))]
    refine World.cell?_setCell_other _ _ _ _ ?_
    rintro rfl
    exact absurd (h rfl) (Nat.lt_irrefl _)

theorem below_putL {S C : Nat} {a : World} (hC : S ≤ C) : ∀ (vs : List Value) (i : Nat) (w : World), Below S a w → Below S a (putL C i vs w)
  | [], _, _, h => h
  | v :: vs, i, w, h => below_putL hC vs (i + 1) _ (h.setCell (p := ⟨C, i, none⟩) hC _)

theorem cell_putL (C : Nat) : ∀ (vs : List Value) (i : Nat) (w : World), (∀ j, j < vs.length → (w.cell? ⟨C, i + j, none⟩).isSome) → ∀ j v, vs[j]? = some v → (putL C i vs w).cell? ⟨C, i + j, none⟩ = some v
  | [], _, _, _, j, v, h => by simp at h
  | x :: vs, i, w, hw, j, v, h => by
    rw [putL]
    cases j with
    | zero =>
      rw [cell_putL_other C _ vs (i + 1) _ (fun _ => by simp)]
      obtain ⟨y, hy⟩ := Option.isSome_iff_exists.1 (hw 0 (by simp))
      simp at h
      subst h
      exact World.cell?_setCell_same _ _ _ hy
    | succ j =>
      have := cell_putL C vs (i + 1) (w.setCell ⟨C, i, none⟩ x) (fun k hk => by
        rw [World.cell?_setCell_other _ _ _ _ (by simp <;> omega)]
        have := hw (k + 1) (by simp; omega)
        rwa [show i + (k + 1) = i + 1 + k by omega] at this) j v (by simpa using h)
      rwa [show i + 1 + j = i + (j + 1) by omega] at this

theorem Blk.put {w : World} {C : Nat} {us : List Value} (h : Blk w C us) (vs : List Value) (hl : vs.length = us.length) : Blk (putL C 0 vs w) C vs := fun i v hi => by
  have hi' : i < us.length := by rw [← hl]; exact (List.getElem?_eq_some_iff.1 hi).1
  constructor
  · have := cell_putL C vs 0 w (fun j hj => by
      rw [hl] at hj
      rw [Nat.zero_add, (h j _ (List.getElem?_eq_getElem hj)).1]; rfl) i v hi
    rwa [Nat.zero_add] at this
  · rw [frozen_putL]
    exact (h i _ (List.getElem?_eq_getElem hi')).2

theorem Blk.put_other {w : World} {C D : Nat} {us : List Value} (h : Blk w D us) (vs : List Value) (hne : D ≠ C) : Blk (putL C 0 vs w) D us := fun i v hi =>
  ⟨(cell_putL_other C _ vs 0 w (fun e => absurd e hne)).trans (h i v hi).1, (frozen_putL C _ vs 0 w).trans (h i v hi).2⟩

theorem Ext.putL {a w : World} (h : Ext a w) {C : Nat} (hC : a.heap.size ≤ C) (vs : List Value) : Ext a (putL C 0 vs w) := below_putL hC vs 0 w h

theorem Ext.alloc (w : World) (o : Obj) : Ext w (w.alloc o) := (Below.refl _ _).alloc (Nat.le_refl _) _

theorem Calls.re_of {P : Program} {f : FuncId} {args : Array Value} {w : World} {v : Value} (h : Calls P f args w fun e w' => e = .returned v ∧ Ext w w') : Calls P f args w fun e w'' => e = .returned v ∧ ∃ q : Regrown, w'' = grow (redrawn w q.d) q.os :=
  h.mono fun e w' k => ⟨k.1, by obtain ⟨p, hp⟩ := regrown_of_below k.2; exact ⟨p, hp⟩⟩

theorem box1 (w : World) (l1 : List Value) (t1 : TypeId) {w1 : World} (h : Ext (w.alloc (.cells l1.toArray t1)) w1) : Blk w1 w.heap.size l1 ∧ Ext w w1 ∧ w.heap.size + 1 ≤ w1.heap.size :=
  ⟨(Blk.alloc w l1 t1).ext h (by simp), (Ext.alloc _ _).trans h, by have := Below.size h; simpa using this⟩

theorem box2 (w : World) (l1 l2 : List Value) (t1 t2 : TypeId) {w1 : World} (h : Ext ((w.alloc (.cells l1.toArray t1)).alloc (.cells l2.toArray t2)) w1) : Blk w1 w.heap.size l1 ∧ Blk w1 (w.heap.size + 1) l2 ∧ Ext w w1 ∧ w.heap.size + 2 ≤ w1.heap.size := by
  obtain ⟨a, b, c⟩ := box1 _ _ _ h
  obtain ⟨d, e, f⟩ := box1 w l1 t1 b
  rw [World.size_alloc] at a c
  exact ⟨d, a, e, c⟩

theorem box3 (w : World) (l1 l2 l3 : List Value) (t1 t2 t3 : TypeId) {w1 : World} (h : Ext (((w.alloc (.cells l1.toArray t1)).alloc (.cells l2.toArray t2)).alloc (.cells l3.toArray t3)) w1) : Blk w1 w.heap.size l1 ∧ Blk w1 (w.heap.size + 1) l2 ∧ Blk w1 (w.heap.size + 1 + 1) l3 ∧ Ext w w1 ∧ w.heap.size + 3 ≤ w1.heap.size := by
  obtain ⟨a, b, c⟩ := box1 _ _ _ h
  obtain ⟨d, e, f, g⟩ := box2 w l1 l2 t1 t2 b
  simp only [World.size_alloc] at a c
  exact ⟨d, e, a, f, c⟩

theorem box4 (w : World) (l1 l2 l3 l4 : List Value) (t1 t2 t3 t4 : TypeId) {w1 : World} (h : Ext ((((w.alloc (.cells l1.toArray t1)).alloc (.cells l2.toArray t2)).alloc (.cells l3.toArray t3)).alloc (.cells l4.toArray t4)) w1) : Blk w1 w.heap.size l1 ∧ Blk w1 (w.heap.size + 1) l2 ∧ Blk w1 (w.heap.size + 1 + 1) l3 ∧ Blk w1 (w.heap.size + 1 + 1 + 1) l4 ∧ Ext w w1 ∧ w.heap.size + 4 ≤ w1.heap.size := by
  obtain ⟨a, b, c⟩ := box1 _ _ _ h
  obtain ⟨d, e, f, g, i⟩ := box3 w l1 l2 l3 t1 t2 t3 b
  simp only [World.size_alloc] at a c
  exact ⟨d, e, f, a, g, c⟩

theorem box5 (w : World) (l1 l2 l3 l4 l5 : List Value) (t1 t2 t3 t4 t5 : TypeId) {w1 : World} (h : Ext (((((w.alloc (.cells l1.toArray t1)).alloc (.cells l2.toArray t2)).alloc (.cells l3.toArray t3)).alloc (.cells l4.toArray t4)).alloc (.cells l5.toArray t5)) w1) : Blk w1 w.heap.size l1 ∧ Blk w1 (w.heap.size + 1) l2 ∧ Blk w1 (w.heap.size + 1 + 1) l3 ∧ Blk w1 (w.heap.size + 1 + 1 + 1) l4 ∧ Blk w1 (w.heap.size + 1 + 1 + 1 + 1) l5 ∧ Ext w w1 ∧ w.heap.size + 5 ≤ w1.heap.size := by
  obtain ⟨a, b, c⟩ := box1 _ _ _ h
  obtain ⟨d, e, f, g, i, j⟩ := box4 w l1 l2 l3 l4 t1 t2 t3 t4 b
  simp only [World.size_alloc] at a c
  exact ⟨d, e, f, g, a, i, c⟩

theorem Grw.putL {X : Nat → Prop} {V : World} {C : Nat} (hx : X C) : ∀ (vs : List Value) (i : Nat) (w : World), Grw X V w → Grw X V (putL C i vs w)
  | [], _, _, h => h
  | v :: vs, i, w, h => Grw.putL hx vs (i + 1) _ (h.trans (Grw.of_touch ((Touch.refl C w).set i v) hx))

theorem two_alloc {V w2 w3 w4 : World} {z z' : List Value} {t t' : TypeId} (h2 : Ext V w2) (h3 : Ext (w2.alloc (.cells z.toArray t)) w3) (h4 : Ext (w3.alloc (.cells z'.toArray t')) w4) :
    Blk w4 w2.heap.size z ∧ Blk w4 w3.heap.size z' ∧ Ext V w4 ∧ V.heap.size ≤ w2.heap.size ∧ V.heap.size ≤ w3.heap.size ∧ w2.heap.size ≠ w3.heap.size ∧ w2.heap.size < w4.heap.size ∧ w3.heap.size < w4.heap.size := by
  obtain ⟨a, b, c⟩ := box1 _ _ _ h3
  obtain ⟨d, e, f⟩ := box1 _ _ _ h4
  have := Below.size h2
  have s3 := Below.size h3
  simp at s3
  exact ⟨a.ext e (by omega), d, (h2.trans b).trans e, this, by omega, by omega, by have := Below.size e; omega, by omega⟩

theorem two_put {V w4 w5 w6 : World} {S T : Nat} {z u v : List Value} (lu : u.length = z.length) (lv : v.length = z.length) (BS : Blk w4 S z) (BT : Blk w4 T z) (hV : Ext V w4) (lS : V.heap.size ≤ S) (lT : V.heap.size ≤ T) (ne : S ≠ T) (sS : S < w4.heap.size) (sT : T < w4.heap.size)
    (h5 : Ext (putL S 0 u w4) w5) (h6 : Ext (putL T 0 v w5) w6) : Blk w6 S u ∧ Blk w6 T v ∧ Ext V w6 ∧ S < w6.heap.size ∧ T < w6.heap.size := by
  have s5 := Below.size h5
  have s6 := Below.size h6
  rw [size_putL] at s5 s6
  have x5 : Ext V w5 := (hV.putL lS u).trans h5
  refine ⟨((((BS.put u lu).ext h5 (by rw [size_putL]; exact sS))).put_other v ne).ext h6 (by rw [size_putL]; omega), (((BT.put_other u ne.symm).ext h5 (by rw [size_putL]; exact sT)).put v lv).ext h6 (by rw [size_putL]; omega), (x5.putL lT v).trans h6, by omega, by omega⟩

end Go.Proofs.Ytjpdllhhganbpaa
