/- Blocks of cells: what lies there, what a store leaves. Nothing of the program. Walks: the laws' own helpers over lists of items: their sizes. -/
import Derived.Test.YtgdjaapjdmancaaGreatDoorCy01
import Derived.Lib.QuietBelow
import Derived.Deep.DeepBigQuietO
namespace Go.Proofs.YtgdjaapjdmancaaGreatDoor

section
set_option linter.unusedVariables false

open Go Go.Sort Go.RowKit

/-- Block C holds these, and is not frozen. -/
def Blk (w : World) (C : Nat) (vs : List Value) : Prop := ∀ i v, vs[i]? = some v → w.cell? ⟨C, i, none⟩ = some v ∧ w.frozen? ⟨C, i, none⟩ = false

theorem Blk.below {w w' : World} {C : Nat} {vs : List Value} (h : Blk w C vs) {S : Nat} (hb : Below S w w') (hC : C < S) : Blk w' C vs := fun i v hi =>
  ⟨(hb.cell (p := ⟨C, i, none⟩) hC).trans (h i v hi).1, (hb.frozen (p := ⟨C, i, none⟩) hC).trans (h i v hi).2⟩

theorem Blk.ext {w w' : World} {C : Nat} {vs : List Value} (h : Blk w C vs) (e : Ext w w') (hC : C < w.heap.size) : Blk w' C vs := h.below e hC

theorem Blk.alloc (w : World) (vs : List Value) (t : TypeId) : Blk (w.alloc (.cells vs.toArray t)) w.heap.size vs := fun i v hi => by
  constructor
  · simp [go_sem, hi]
  · simp [go_sem]

/-- These are stored, from place i on. -/
def putL (C : Nat) : Nat → List Value → World → World
  | _, [], w => w
  | i, v :: vs, w => putL C (i + 1) vs (w.setCell ⟨C, i, none⟩ v)

theorem size_putL (C : Nat) : ∀ (vs : List Value) (i : Nat) (w : World), (putL C i vs w).heap.size = w.heap.size
  | [], _, _ => rfl
  | v :: vs, i, w => by rw [putL, size_putL C vs]; simp [World.setCell]

theorem frozen_putL (C : Nat) (q : Addr) : ∀ (vs : List Value) (i : Nat) (w : World), (putL C i vs w).frozen? q = w.frozen? q
  | [], _, _ => rfl
  | v :: vs, i, w => by rw [putL, frozen_putL C q vs]; simp

theorem cell_putL_other (C : Nat) (q : Addr) : ∀ (vs : List Value) (i : Nat) (w : World), (q.block = C → q.off < i) → (putL C i vs w).cell? q = w.cell? q
  | [], _, _, _ => rfl
  | v :: vs, i, w, h => by
    rw [putL, cell_putL_other C q vs (i + 1) _ (fun e => Nat.lt_succ_of_lt (h e))]
    refine World.cell?_setCell_other _ _ _ _ ?_
    rintro rfl
    exact absurd (h rfl) (Nat.lt_irrefl _)

theorem below_putL {S C : Nat} {a : World} (hC : S ≤ C) : ∀ (vs : List Value) (i : Nat) (w : World), Below S a w → Below S a (putL C i vs w)
  | [], _, _, h => h
  | v :: vs, i, w, h => below_putL hC vs (i + 1) _ (h.setCell (p := ⟨C, i, none⟩) hC _)

theorem cell_putL (C : Nat) : ∀ (vs : List Value) (i : Nat) (w : World), (∀ j, j < vs.length → (w.cell? ⟨C, i + j, none⟩).isSome) → ∀ j v, vs[j]? = some v → (putL C i vs w).cell? ⟨C, i + j, none⟩ = some v
  | [], _, _, _, j, v, h => by simp at h
  | x :: vs, i, w, hw, j, v, h => by
    rw [putL]
    cases j with
    | zero =>
      rw [cell_putL_other C _ vs (i + 1) _ (fun _ => by simp)]
      obtain ⟨y, hy⟩ := Option.isSome_iff_exists.1 (hw 0 (by simp))
      simp at h
      subst h
      exact World.cell?_setCell_same _ _ _ hy
    | succ j =>
      have := cell_putL C vs (i + 1) (w.setCell ⟨C, i, none⟩ x) (fun k hk => by
        rw [World.cell?_setCell_other _ _ _ _ (by simp <;> omega)]
        have := hw (k + 1) (by simp; omega)
        rwa [show i + (k + 1) = i + 1 + k by omega] at this) j v (by simpa using h)
      rwa [show i + 1 + j = i + (j + 1) by omega] at this

theorem Blk.put {w : World} {C : Nat} {us : List Value} (h : Blk w C us) (vs : List Value) (hl : vs.length = us.length) : Blk (putL C 0 vs w) C vs := fun i v hi => by
  have hi' : i < us.length := by rw [← hl]; exact (List.getElem?_eq_some_iff.1 hi).1
  constructor
  · have := cell_putL C vs 0 w (fun j hj => by
      rw [hl] at hj
      rw [Nat.zero_add, (h j _ (List.getElem?_eq_getElem hj)).1]; rfl) i v hi
    rwa [Nat.zero_add] at this
  · rw [frozen_putL]
    exact (h i _ (List.getElem?_eq_getElem hi')).2

theorem Ext.putL {a w : World} (h : Ext a w) {C : Nat} (hC : a.heap.size ≤ C) (vs : List Value) : Ext a (putL C 0 vs w) := below_putL hC vs 0 w h

theorem Ext.alloc (w : World) (o : Obj) : Ext w (w.alloc o) := (Below.refl _ _).alloc (Nat.le_refl _) _

theorem Calls.re_of {P : Program} {f : FuncId} {args : Array Value} {w : World} {v : Value} (h : Calls P f args w fun e w' => e = .returned v ∧ Ext w w') : Calls P f args w fun e w'' => e = .returned v ∧ ∃ q : Regrown, w'' = grow (redrawn w q.d) q.os :=
  h.mono fun e w' k => ⟨k.1, by obtain ⟨p, hp⟩ := regrown_of_below k.2; exact ⟨p, hp⟩⟩

theorem box1 (w : World) (l1 : List Value) (t1 : TypeId) {w1 : World} (h : Ext (w.alloc (.cells l1.toArray t1)) w1) : Blk w1 w.heap.size l1 ∧ Ext w w1 ∧ w.heap.size + 1 ≤ w1.heap.size :=
  ⟨(Blk.alloc w l1 t1).ext h (by simp), (Ext.alloc _ _).trans h, by have := Below.size h; simpa using this⟩

theorem box2 (w : World) (l1 l2 : List Value) (t1 t2 : TypeId) {w1 : World} (h : Ext ((w.alloc (.cells l1.toArray t1)).alloc (.cells l2.toArray t2)) w1) : Blk w1 w.heap.size l1 ∧ Blk w1 (w.heap.size + 1) l2 ∧ Ext w w1 ∧ w.heap.size + 2 ≤ w1.heap.size := by
  obtain ⟨a, b, c⟩ := box1 _ _ _ h
  obtain ⟨d, e, f⟩ := box1 w l1 t1 b
  rw [World.size_alloc] at a c
  exact ⟨d, a, e, c⟩

theorem box3 (w : World) (l1 l2 l3 : List Value) (t1 t2 t3 : TypeId) {w1 : World} (h : Ext (((w.alloc (.cells l1.toArray t1)).alloc (.cells l2.toArray t2)).alloc (.cells l3.toArray t3)) w1) : Blk w1 w.heap.size l1 ∧ Blk w1 (w.heap.size + 1) l2 ∧ Blk w1 (w.heap.size + 1 + 1) l3 ∧ Ext w w1 ∧ w.heap.size + 3 ≤ w1.heap.size := by
  obtain ⟨a, b, c⟩ := box1 _ _ _ h
  obtain ⟨d, e, f, g⟩ := box2 w l1 l2 t1 t2 b
  simp only [World.size_alloc] at a c
  exact ⟨d, e, a, f, c⟩

theorem box4 (w : World) (l1 l2 l3 l4 : List Value) (t1 t2 t3 t4 : TypeId) {w1 : World} (h : Ext ((((w.alloc (.cells l1.toArray t1)).alloc (.cells l2.toArray t2)).alloc (.cells l3.toArray t3)).alloc (.cells l4.toArray t4)) w1) : Blk w1 w.heap.size l1 ∧ Blk w1 (w.heap.size + 1) l2 ∧ Blk w1 (w.heap.size + 1 + 1) l3 ∧ Blk w1 (w.heap.size + 1 + 1 + 1) l4 ∧ Ext w w1 ∧ w.heap.size + 4 ≤ w1.heap.size := by
  obtain ⟨a, b, c⟩ := box1 _ _ _ h
  obtain ⟨d, e, f, g, i⟩ := box3 w l1 l2 l3 t1 t2 t3 b
  simp only [World.size_alloc] at a c
  exact ⟨d, e, f, a, g, c⟩

theorem box5 (w : World) (l1 l2 l3 l4 l5 : List Value) (t1 t2 t3 t4 t5 : TypeId) {w1 : World} (h : Ext (((((w.alloc (.cells l1.toArray t1)).alloc (.cells l2.toArray t2)).alloc (.cells l3.toArray t3)).alloc (.cells l4.toArray t4)).alloc (.cells l5.toArray t5)) w1) : Blk w1 w.heap.size l1 ∧ Blk w1 (w.heap.size + 1) l2 ∧ Blk w1 (w.heap.size + 1 + 1) l3 ∧ Blk w1 (w.heap.size + 1 + 1 + 1) l4 ∧ Blk w1 (w.heap.size + 1 + 1 + 1 + 1) l5 ∧ Ext w w1 ∧ w.heap.size + 5 ≤ w1.heap.size := by
  obtain ⟨a, b, c⟩ := box1 _ _ _ h
  obtain ⟨d, e, f, g, i, j⟩ := box4 w l1 l2 l3 l4 t1 t2 t3 t4 b
  simp only [World.size_alloc] at a c
  exact ⟨d, e, f, g, a, i, c⟩

theorem Grw.putL {X : Nat → Prop} {V : World} {C : Nat} (hx : X C) : ∀ (vs : List Value) (i : Nat) (w : World), Grw X V w → Grw X V (putL C i vs w)
  | [], _, _, h => h
  | v :: vs, i, w, h => Grw.putL hx vs (i + 1) _ (h.trans (Grw.of_touch ((Touch.refl C w).set i v) hx))
end

section
set_option linter.unusedVariables false
set_option linter.unusedSimpArgs false

open Go.RowKit

/-- An item as it lies in memory: two numbers and a list of bytes. -/
structure It where
  tag : Int
  kid : Int
  ad : Option Addr
  blk : Nat
  off : Nat
  len : Nat
  cap : Nat
  f : Nat → Int

def itV (x : It) : Value := .agg #[.int .i64 x.tag, .slice x.ad x.len x.cap, .int .i64 x.kid]

/-- A list of n items. -/
structure ISeg (w : World) (a : Option Addr) (b off n : Nat) (x : Nat → It) : Prop where
  at' : 0 < n → a = some ⟨b, off, none⟩
  c0 : ∀ i, i < n → w.cell? ⟨b, off + i * 3, none⟩ = some (.int .i64 (x i).tag)
  c1 : ∀ i, i < n → w.cell? ⟨b, off + i * 3 + 1, none⟩ = some (.slice (x i).ad (x i).len (x i).cap)
  c2 : ∀ i, i < n → w.cell? ⟨b, off + i * 3 + 2, none⟩ = some (.int .i64 (x i).kid)
  body : ∀ i, i < n → BSeg w (x i).ad (x i).blk (x i).off (x i).len (x i).f
  small : ∀ i, i < n → (x i).len ≤ 9223372036854775807

theorem ISeg.lt {w : World} {a : Option Addr} {b off n : Nat} {x : Nat → It} (h : ISeg w a b off n x) (hn : 0 < n) : b < w.heap.size := World.block_lt_of_cell? _ _ (h.c0 0 hn)

theorem ISeg.of_all {w w' : World} {a : Option Addr} {b off n : Nat} {x : Nat → It} (h : ISeg w a b off n x) (e : Ext w w') : ISeg w' a b off n x :=
  ⟨h.at', fun i hi => (e.cell (p := ⟨b, off + i * 3, none⟩) (h.lt (by omega))).trans (h.c0 i hi), fun i hi => (e.cell (p := ⟨b, off + i * 3 + 1, none⟩) (h.lt (by omega))).trans (h.c1 i hi), fun i hi => (e.cell (p := ⟨b, off + i * 3 + 2, none⟩) (h.lt (by omega))).trans (h.c2 i hi), fun i hi => (h.body i hi).of_all e, h.small⟩

theorem ext_drewN (w : World) (q : Nat) : Ext w (w.drewN q) := ⟨rfl, rfl, rfl, Nat.le_refl _, fun _ _ => rfl⟩
end

end Go.Proofs.YtgdjaapjdmancaaGreatDoor
