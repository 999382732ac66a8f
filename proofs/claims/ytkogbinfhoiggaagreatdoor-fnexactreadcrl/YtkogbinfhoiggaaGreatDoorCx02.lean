/- A region that draws its order, step by step, in which calls turn one block C (a cursor): what only reads other memory or lays blocks is taken first, of what else may come up each is gone through. Nothing of the program. Blocks of cells: what lies there, what a store leaves. Nothing of the program. Walks: the laws' own helpers over lists of items: their sizes. Walks: the model's TreeOk: l7End. Numbers: a tree told by a stack of what is still to come, and by places behind its parts. Nothing of the program. Walk: the model's l1In: whether a number lies between two. Walks: the model's TreeOk. Written by mktrt.py. -/
import Derived.Test.YtkogbinfhoiggaaGreatDoorCx01
import Derived.Deep.DeepBigQuietO
namespace Go.Proofs.YtkogbinfhoiggaaGreatDoor
set_option linter.unusedVariables false
set_option linter.unusedSimpArgs false
section
open Go Go.Sort Go.RowKit
structure Grw (X : Nat → Prop) (w w' : World) : Prop where
 os : w'.os = w.os
 tape : w'.tape = w.tape
 output : w'.output = w.output
 size : w.heap.size ≤ w'.heap.size
 block : ∀ k, k < w.heap.size → ¬ X k → w'.heap[k]? = w.heap[k]?
theorem Grw.refl (X : Nat → Prop) (w : World) : Grw X w w := ⟨rfl, rfl, rfl, Nat.le_refl _, fun _ _ _ => rfl⟩
theorem Grw.trans {X : Nat → Prop} {a b c : World} (h : Grw X a b) (k : Grw X b c) : Grw X a c :=
 ⟨k.os.trans h.os, k.tape.trans h.tape, k.output.trans h.output, Nat.le_trans h.size k.size, fun i hi hn => (k.block i (Nat.lt_of_lt_of_le hi h.size) hn).trans (h.block i hi hn)⟩
theorem Grw.of_ext {X : Nat → Prop} {a b : World} (h : Ext a b) : Grw X a b := ⟨h.os, h.tape, h.output, h.size, fun k hk _ => h.block k hk⟩
theorem Grw.of_touch {X : Nat → Prop} {C : Nat} {a b : World} (h : Touch C a b) (hX : X C) : Grw X a b :=
 ⟨h.grown.os, h.grown.tape, h.grown.output, Nat.le_of_eq h.size.symm, fun k hk hn => h.grown.block k hk (by simp; intro e; exact hn (e ▸ hX))⟩
structure ReC (X : Nat → Prop) (w : World) where
 val : World
 ok : Grw X w val
instance (X : Nat → Prop) (w : World) : Inhabited (ReC X w) := ⟨⟨w, .refl X w⟩⟩
theorem cell_reC {X : Nat → Prop} {w : World} {a : Addr} {v : Value} (h : w.cell? a = some v) (hne : ¬ X a.block) (p : ReC X w) : p.val.cell? a = some v := by
 rw [World.cell?_of_block (p.ok.block a.block (block_lt_of_cell h) hne)]; exact h
section
variable {P : Program} {ops : Array Oper} {md : Region.Mode} {Q : Exit → Act → World → Prop}
def anyK (P : Program) (md : Region.Mode) (ops : Array Oper) (Q : Exit → Act → World → Prop) (X : Nat → Prop) (V : World) (f : Nat) (listed : Array Bool) (a : Act) (W : World) : Prop := Grw X V W → anyS P md ops Q (Grw X V) f listed a (Ext W)
theorem kept_grw {X : Nat → Prop} {V W : World} (h : Grw X V W) : Kept (Grw X V) (Ext W) := ⟨fun _ k => h.trans (.of_ext k), fun _ _ h k => h.trans k⟩
theorem anyK_begin {id : Nat} {a : Act} {w : World} {l : List Oper} (X : Nat → Prop) (n : Nat) (hn : l.length = n) (hm : P.follows .mixedOrders = true) (h : anyK P .any l.toArray Q X w n (Array.replicate n false) a w) : (Code.region id l.toArray true).wp P Q a w := by
 subst hn
 refine wp_region_any hm ?_
 have := any_of_S _ _ _ _ _ (show Ext w { w with drawn := w.drawn + 1 } from ⟨rfl, rfl, rfl, Nat.le_refl _, fun _ _ => rfl⟩) (h (Grw.refl X w))
 simpa using this
def headC (P : Program) (ops : Array Oper) (X : Nat → Prop) (w : World) (N : Act → Prop) : List Oper → Act → Prop
 | [], a => N a
 | o :: rest, a =>
  if Region.wanted o (yielded ops a.tmps) then ∃ v, (∀ p : ReC X w, o.quietAt P a (fun w'' => ∃ q : Regrown, w'' = grow (redrawn p.val q.d) q.os) p.val v) ∧ headC P ops X w N rest (a.put o.dst v)
  else headC P ops X w N rest (a.put o.dst undef)
theorem headC_nil {X : Nat → Prop} {w : World} {N : Act → Prop} {a : Act} (h : N a) : headC P ops X w N [] a := h
theorem headC_step {X : Nat → Prop} {w : World} {N : Act → Prop} {o : Oper} {rest : List Oper} {a : Act}
  (h : ∀ K : Act → Prop, (∀ a, headC P ops X w N rest a → K a) → if Region.wanted o (yielded ops a.tmps) then ∃ v, (∀ p : ReC X w, o.quietAt P a (fun w'' => ∃ q : Regrown, w'' = grow (redrawn p.val q.d) q.os) p.val v) ∧ K (a.put o.dst v) else K (a.put o.dst undef)) : headC P ops X w N (o :: rest) a :=
 h _ fun _ k => k
theorem takeC_list (hsel : Region.noSelect ops = true) (hQ : ∀ c a d v w, Q (.panic c) (a.put d v) w → Q (.panic c) a w) {X : Nat → Prop} {V W : World} {f : Nat} :
  ∀ (l : List Oper) (k : Nat) (listed : Array Bool) (a : Act), (∀ j, j < l.length → l[j]? = ops[k + j]?) → takeB md ops l.length k listed = true →
  headC P ops X V (fun a' => anyK P md ops Q X V f (setB l.length k listed) a' W) l a → anyK P md ops Q X V (l.length + f) listed a W
 | [], k, listed, a, _, _, h => by
  rw [List.length_nil, Nat.zero_add]
  exact h
 | o :: l, k, listed, a, hl, hB, h => by
  have h0 : ops[k]? = some o := by simpa using (hl 0 (by simp)).symm
  simp only [List.length_cons, takeB, Bool.and_eq_true] at hB
  obtain ⟨⟨hr, hf⟩, hB'⟩ := hB
  have hr' : k ∈ Region.ready md ops listed := by simpa using hr
  have hl' : ∀ j, j < l.length → l[j]? = ops[k + 1 + j]? := fun j hj => by
   have := hl (j + 1) (by simp; omega)
   simpa [Nat.add_assoc, Nat.add_comm 1 j] using this
  rw [List.length_cons, show l.length + 1 + f = (l.length + f) + 1 by omega]
  intro hV
  unfold headC at h
  by_cases hwa : Region.wanted o (yielded ops a.tmps) = true
  ·simp only [hwa, if_true] at h
   obtain ⟨v, hv, hrest⟩ := h
   have hy : YieldsE P ops (Grw X V) o v a := Or.inl ⟨hwa, fun w' hw' => by
    exact quiet_up (fun w2 ⟨q, hq⟩ => by rw [hq]; exact below_regrown _ _ _) (hv ⟨w', hw'⟩)⟩
   exact anyS_first h0 (Region.noSelect_spec hsel) (fun c a w => hQ c a _ _ w) _ listed a (Ext W) (kept_grw hV) (Region.free_spec h0 hf) hr' hy (takeC_list hsel hQ l (k + 1) _ _ hl' hB' hrest hV)
  ·simp only [hwa] at h
   have hy : YieldsE P ops (Grw X V) o undef a := Or.inr ⟨by simpa using hwa, rfl⟩
   exact anyS_first h0 (Region.noSelect_spec hsel) (fun c a w => hQ c a _ _ w) _ listed a (Ext W) (kept_grw hV) (Region.free_spec h0 hf) hr' hy (takeC_list hsel hQ l (k + 1) _ _ hl' hB' h hV)
theorem anyK_take {l : List Oper} {X : Nat → Prop} {V W : World} {listed : Array Bool} {a : Act} (k n f : Nat) {m : Nat} (hm : n + f = m) (hn : k + n ≤ l.length) (hB : (Region.noSelect l.toArray && takeB md l.toArray n k listed) = true) (hQ : ∀ c a d v w, Q (.panic c) (a.put d v) w → Q (.panic c) a w)
  (h : headC P l.toArray X V (fun a' => anyK P md l.toArray Q X V f (setB n k listed) a' W) ((l.drop k).take n) a) : anyK P md l.toArray Q X V m listed a W := by
 rw [Bool.and_eq_true] at hB
 have hl : ((l.drop k).take n).length = n := by simp; omega
 subst hm
 have := takeC_list (md := md) (P := P) (Q := Q) (X := X) (V := V) (W := W) (f := f) hB.1 hQ ((l.drop k).take n) k listed a (fun j hj => by
  rw [hl] at hj
  simp [hj, List.getElem?_drop]) (by rw [hl]; exact hB.2) (by rw [hl]; exact h)
 rwa [hl] at this
def stepK (P : Program) (md : Region.Mode) (ops : Array Oper) (Q : Exit → Act → World → Prop) (X : Nat → Prop) (V : World) (f : Nat) (listed : Array Bool) (i : Nat) (a : Act) (W : World) : Prop :=
 ∀ w, Ext W w → wpOp P ops Q i (fun a' w' => Grw X V w' ∧ anyK P md ops Q X V f (listed.setIfInBounds i true) a' w') a w
theorem anyK_all {X : Nat → Prop} {V W : World} {listed : Array Bool} {a : Act} {f : Nat} (rs : List Nat) (hr : Region.ready md ops listed = rs) (hne : rs ≠ []) (h : ∀ i ∈ rs, stepK P md ops Q X V f listed i a W) : anyK P md ops Q X V (f + 1) listed a W := by
 intro hV
 refine ⟨fun e => absurd (hr ▸ e) hne, fun i hi w hw => wpOp_mono ?_ (h i (hr ▸ hi) w hw)⟩
 rintro a' w' ⟨hx, hk⟩
 exact ⟨Ext w', kept_grw hx, Ext.refl _, hk hx⟩
theorem anyK_done {X : Nat → Prop} {V W : World} {listed : Array Bool} {a : Act} (hr : Region.ready md ops listed = []) (h : ∀ w, Ext W w → Q .normal a w) : ∀ f, anyK P md ops Q X V f listed a W
 | 0 => fun _ => ⟨hr, h⟩
 | _ + 1 => fun _ => ⟨fun _ => h, by rw [hr]; simp⟩
theorem anyK_one {X : Nat → Prop} {V W : World} {listed : Array Bool} {a : Act} {f : Nat} (i : Nat) (hr : Region.ready md ops listed = [i]) (h : stepK P md ops Q X V f listed i a W) : anyK P md ops Q X V (f + 1) listed a W :=
 anyK_all [i] hr (by simp) (fun j hj => by rw [List.mem_singleton.1 hj]; exact h)
theorem anyK_two {X : Nat → Prop} {V W : World} {listed : Array Bool} {a : Act} {f : Nat} (i j : Nat) (hr : Region.ready md ops listed = [i, j]) (h : stepK P md ops Q X V f listed i a W) (k : stepK P md ops Q X V f listed j a W) : anyK P md ops Q X V (f + 1) listed a W :=
 anyK_all [i, j] hr (by simp) (fun l hl => by
  rcases List.mem_cons.1 hl with rfl | hl
  ·exact h
  ·rw [List.mem_singleton.1 hl]; exact k)
theorem stepK_run {X : Nat → Prop} {V W : World} {listed : Array Bool} {a : Act} {f i : Nat} {o : Oper} (hi : ops[i]? = some o)
  (h : ∀ w, Ext W w → ∀ K : Act → World → Prop, (∀ a' w', Grw X V w' → anyK P md ops Q X V f (listed.setIfInBounds i true) a' w' → K a' w') → if Region.wanted o (yielded ops a.tmps) then o.wp P a w K Q else K (a.put o.dst undef) w) : stepK P md ops Q X V f listed i a W := by
 intro w hw
 have k := h w hw (fun a' w' => Grw X V w' ∧ anyK P md ops Q X V f (listed.setIfInBounds i true) a' w') (fun a' w' hx hr => ⟨hx, hr⟩)
 unfold wpOp
 rw [hi]
 by_cases hwa : Region.wanted o (yielded ops a.tmps) = true
 ·simp only [hwa, if_true] at k ⊢
  exact Or.inl k
 ·simp only [hwa] at k ⊢
  exact k
end
end
section
open Go Go.Sort Go.RowKit
def Blk (w : World) (C : Nat) (vs : List Value) : Prop := ∀ i v, vs[i]? = some v → w.cell? ⟨C, i, none⟩ = some v ∧ w.frozen? ⟨C, i, none⟩ = false
theorem Blk.below {w w' : World} {C : Nat} {vs : List Value} (h : Blk w C vs) {S : Nat} (hb : Below S w w') (hC : C < S) : Blk w' C vs := fun i v hi =>
 ⟨(hb.cell (p := ⟨C, i, none⟩) hC).trans (h i v hi).1, (hb.frozen (p := ⟨C, i, none⟩) hC).trans (h i v hi).2⟩
theorem Blk.ext {w w' : World} {C : Nat} {vs : List Value} (h : Blk w C vs) (e : Ext w w') (hC : C < w.heap.size) : Blk w' C vs := h.below e hC
theorem Blk.alloc (w : World) (vs : List Value) (t : TypeId) : Blk (w.alloc (.cells vs.toArray t)) w.heap.size vs := fun i v hi => by
 constructor
 ·simp [go_sem, hi]
 ·simp [go_sem]
def putL (C : Nat) : Nat → List Value → World → World
 | _, [], w => w
 | i, v :: vs, w => putL C (i + 1) vs (w.setCell ⟨C, i, none⟩ v)
theorem size_putL (C : Nat) : ∀ (vs : List Value) (i : Nat) (w : World), (putL C i vs w).heap.size = w.heap.size
 | [], _, _ => rfl
 | v :: vs, i, w => by rw [putL, size_putL C vs]; simp [World.setCell]
theorem frozen_putL (C : Nat) (q : Addr) : ∀ (vs : List Value) (i : Nat) (w : World), (putL C i vs w).frozen? q = w.frozen? q
 | [], _, _ => rfl
 | v :: vs, i, w => by rw [putL, frozen_putL C q vs]; simp
theorem cell_putL_other (C : Nat) (q : Addr) : ∀ (vs : List Value) (i : Nat) (w : World), (q.block = C → q.off < i) → (putL C i vs w).cell? q = w.cell? q
 | [], _, _, _ => rfl
 | v :: vs, i, w, h => by
  rw [putL, cell_putL_other C q vs (i + 1) _ (fun e => Nat.lt_succ_of_lt (h e))]
  refine World.cell?_setCell_other _ _ _ _ ?_
  rintro rfl
  exact absurd (h rfl) (Nat.lt_irrefl _)
theorem below_putL {S C : Nat} {a : World} (hC : S ≤ C) : ∀ (vs : List Value) (i : Nat) (w : World), Below S a w → Below S a (putL C i vs w)
 | [], _, _, h => h
 | v :: vs, i, w, h => below_putL hC vs (i + 1) _ (h.setCell (p := ⟨C, i, none⟩) hC _)
theorem cell_putL (C : Nat) : ∀ (vs : List Value) (i : Nat) (w : World), (∀ j, j < vs.length → (w.cell? ⟨C, i + j, none⟩).isSome) → ∀ j v, vs[j]? = some v → (putL C i vs w).cell? ⟨C, i + j, none⟩ = some v
 | [], _, _, _, j, v, h => by simp at h
 | x :: vs, i, w, hw, j, v, h => by
  rw [putL]
  cases j with
  | zero =>
   rw [cell_putL_other C _ vs (i + 1) _ (fun _ => by simp)]
   obtain ⟨y, hy⟩ := Option.isSome_iff_exists.1 (hw 0 (by simp))
   simp at h
   subst h
   exact World.cell?_setCell_same _ _ _ hy
  | succ j =>
   have := cell_putL C vs (i + 1) (w.setCell ⟨C, i, none⟩ x) (fun k hk => by
    rw [World.cell?_setCell_other _ _ _ _ (by simp <;> omega)]
    have := hw (k + 1) (by simp; omega)
    rwa [show i + (k + 1) = i + 1 + k by omega] at this) j v (by simpa using h)
   rwa [show i + 1 + j = i + (j + 1) by omega] at this
theorem Blk.put {w : World} {C : Nat} {us : List Value} (h : Blk w C us) (vs : List Value) (hl : vs.length = us.length) : Blk (putL C 0 vs w) C vs := fun i v hi => by
 have hi' : i < us.length := by rw [← hl]; exact (List.getElem?_eq_some_iff.1 hi).1
 constructor
 ·have := cell_putL C vs 0 w (fun j hj => by
   rw [hl] at hj
   rw [Nat.zero_add, (h j _ (List.getElem?_eq_getElem hj)).1]; rfl) i v hi
  rwa [Nat.zero_add] at this
 ·rw [frozen_putL]
  exact (h i _ (List.getElem?_eq_getElem hi')).2
theorem Blk.put_other {w : World} {C D : Nat} {us : List Value} (h : Blk w D us) (vs : List Value) (hne : D ≠ C) : Blk (putL C 0 vs w) D us := fun i v hi =>
 ⟨(cell_putL_other C _ vs 0 w (fun e => absurd e hne)).trans (h i v hi).1, (frozen_putL C _ vs 0 w).trans (h i v hi).2⟩
theorem Ext.putL {a w : World} (h : Ext a w) {C : Nat} (hC : a.heap.size ≤ C) (vs : List Value) : Ext a (putL C 0 vs w) := below_putL hC vs 0 w h
theorem Ext.alloc (w : World) (o : Obj) : Ext w (w.alloc o) := (Below.refl _ _).alloc (Nat.le_refl _) _
theorem Calls.re_of {P : Program} {f : FuncId} {args : Array Value} {w : World} {v : Value} (h : Calls P f args w fun e w' => e = .returned v ∧ Ext w w') : Calls P f args w fun e w'' => e = .returned v ∧ ∃ q : Regrown, w'' = grow (redrawn w q.d) q.os :=
 h.mono fun e w' k => ⟨k.1, by obtain ⟨p, hp⟩ := regrown_of_below k.2; exact ⟨p, hp⟩⟩
theorem box1 (w : World) (l1 : List Value) (t1 : TypeId) {w1 : World} (h : Ext (w.alloc (.cells l1.toArray t1)) w1) : Blk w1 w.heap.size l1 ∧ Ext w w1 ∧ w.heap.size + 1 ≤ w1.heap.size :=
 ⟨(Blk.alloc w l1 t1).ext h (by simp), (Ext.alloc _ _).trans h, by have := Below.size h; simpa using this⟩
theorem box2 (w : World) (l1 l2 : List Value) (t1 t2 : TypeId) {w1 : World} (h : Ext ((w.alloc (.cells l1.toArray t1)).alloc (.cells l2.toArray t2)) w1) : Blk w1 w.heap.size l1 ∧ Blk w1 (w.heap.size + 1) l2 ∧ Ext w w1 ∧ w.heap.size + 2 ≤ w1.heap.size := by
 obtain ⟨a, b, c⟩ := box1 _ _ _ h
 obtain ⟨d, e, f⟩ := box1 w l1 t1 b
 rw [World.size_alloc] at a c
 exact ⟨d, a, e, c⟩
theorem box3 (w : World) (l1 l2 l3 : List Value) (t1 t2 t3 : TypeId) {w1 : World} (h : Ext (((w.alloc (.cells l1.toArray t1)).alloc (.cells l2.toArray t2)).alloc (.cells l3.toArray t3)) w1) : Blk w1 w.heap.size l1 ∧ Blk w1 (w.heap.size + 1) l2 ∧ Blk w1 (w.heap.size + 1 + 1) l3 ∧ Ext w w1 ∧ w.heap.size + 3 ≤ w1.heap.size := by
 obtain ⟨a, b, c⟩ := box1 _ _ _ h
 obtain ⟨d, e, f, g⟩ := box2 w l1 l2 t1 t2 b
 simp only [World.size_alloc] at a c
 exact ⟨d, e, a, f, c⟩
theorem box4 (w : World) (l1 l2 l3 l4 : List Value) (t1 t2 t3 t4 : TypeId) {w1 : World} (h : Ext ((((w.alloc (.cells l1.toArray t1)).alloc (.cells l2.toArray t2)).alloc (.cells l3.toArray t3)).alloc (.cells l4.toArray t4)) w1) : Blk w1 w.heap.size l1 ∧ Blk w1 (w.heap.size + 1) l2 ∧ Blk w1 (w.heap.size + 1 + 1) l3 ∧ Blk w1 (w.heap.size + 1 + 1 + 1) l4 ∧ Ext w w1 ∧ w.heap.size + 4 ≤ w1.heap.size := by
 obtain ⟨a, b, c⟩ := box1 _ _ _ h
 obtain ⟨d, e, f, g, i⟩ := box3 w l1 l2 l3 t1 t2 t3 b
 simp only [World.size_alloc] at a c
 exact ⟨d, e, f, a, g, c⟩
theorem box5 (w : World) (l1 l2 l3 l4 l5 : List Value) (t1 t2 t3 t4 t5 : TypeId) {w1 : World} (h : Ext (((((w.alloc (.cells l1.toArray t1)).alloc (.cells l2.toArray t2)).alloc (.cells l3.toArray t3)).alloc (.cells l4.toArray t4)).alloc (.cells l5.toArray t5)) w1) : Blk w1 w.heap.size l1 ∧ Blk w1 (w.heap.size + 1) l2 ∧ Blk w1 (w.heap.size + 1 + 1) l3 ∧ Blk w1 (w.heap.size + 1 + 1 + 1) l4 ∧ Blk w1 (w.heap.size + 1 + 1 + 1 + 1) l5 ∧ Ext w w1 ∧ w.heap.size + 5 ≤ w1.heap.size := by
 obtain ⟨a, b, c⟩ := box1 _ _ _ h
 obtain ⟨d, e, f, g, i, j⟩ := box4 w l1 l2 l3 l4 t1 t2 t3 t4 b
 simp only [World.size_alloc] at a c
 exact ⟨d, e, f, g, a, i, c⟩
theorem Grw.putL {X : Nat → Prop} {V : World} {C : Nat} (hx : X C) : ∀ (vs : List Value) (i : Nat) (w : World), Grw X V w → Grw X V (putL C i vs w)
 | [], _, _, h => h
 | v :: vs, i, w, h => Grw.putL hx vs (i + 1) _ (h.trans (Grw.of_touch ((Touch.refl C w).set i v) hx))
end
section
open Go.RowKit
structure It where
 tag : Int
 kid : Int
 ad : Option Addr
 blk : Nat
 off : Nat
 len : Nat
 cap : Nat
 f : Nat → Int
def itV (x : It) : Value := .agg #[.int .i64 x.tag, .slice x.ad x.len x.cap, .int .i64 x.kid]
structure ISeg (w : World) (a : Option Addr) (b off n : Nat) (x : Nat → It) : Prop where
 at' : 0 < n → a = some ⟨b, off, none⟩
 c0 : ∀ i, i < n → w.cell? ⟨b, off + i * 3, none⟩ = some (.int .i64 (x i).tag)
 c1 : ∀ i, i < n → w.cell? ⟨b, off + i * 3 + 1, none⟩ = some (.slice (x i).ad (x i).len (x i).cap)
 c2 : ∀ i, i < n → w.cell? ⟨b, off + i * 3 + 2, none⟩ = some (.int .i64 (x i).kid)
 body : ∀ i, i < n → BSeg w (x i).ad (x i).blk (x i).off (x i).len (x i).f
 small : ∀ i, i < n → (x i).len ≤ 9223372036854775807
theorem ISeg.lt {w : World} {a : Option Addr} {b off n : Nat} {x : Nat → It} (h : ISeg w a b off n x) (hn : 0 < n) : b < w.heap.size := World.block_lt_of_cell? _ _ (h.c0 0 hn)
theorem ISeg.of_all {w w' : World} {a : Option Addr} {b off n : Nat} {x : Nat → It} (h : ISeg w a b off n x) (e : Ext w w') : ISeg w' a b off n x :=
 ⟨h.at', fun i hi => (e.cell (p := ⟨b, off + i * 3, none⟩) (h.lt (by omega))).trans (h.c0 i hi), fun i hi => (e.cell (p := ⟨b, off + i * 3 + 1, none⟩) (h.lt (by omega))).trans (h.c1 i hi), fun i hi => (e.cell (p := ⟨b, off + i * 3 + 2, none⟩) (h.lt (by omega))).trans (h.c2 i hi), fun i hi => (h.body i hi).of_all e, h.small⟩
def kidsF (f : Nat → Int) : Nat → Int → Int
 | 0, s => s
 | k + 1, s => if kidsF f k s < 0 then -1 else f (kidsF f k s).toNat
def endF (kid : Nat → Int) (n : Nat) : Nat → Nat → Int
 | 0, _ => -1
 | m + 1, i => if n ≤ i then -1 else kidsF (endF kid n m) (kid i).toNat (i + 1)
theorem kidsF_range {f : Nat → Int} {n : Nat} (hf : ∀ i, -1 ≤ f i ∧ f i ≤ n) {s : Int} (s0 : -1 ≤ s) (s1 : s ≤ n) (k : Nat) : -1 ≤ kidsF f k s ∧ kidsF f k s ≤ n := by
 induction k with
 | zero => exact ⟨s0, s1⟩
 | succ k ih => unfold kidsF; split
                ·omega
                ·exact hf _
theorem kidsF_neg {f : Nat → Int} {s : Int} {k : Nat} (h : kidsF f k s < 0) (n : Nat) (hk : k < n) : kidsF f n s = -1 := by
 induction n with
 | zero => omega
 | succ n ih => by_cases e : k = n
                ·subst e; unfold kidsF; rw [if_pos h]
                ·unfold kidsF; rw [if_pos (by rw [ih (by omega)]; omega)]
theorem endF_range (kid : Nat → Int) (n : Nat) : ∀ (m i : Nat), -1 ≤ endF kid n m i ∧ endF kid n m i ≤ n
 | 0, i => by unfold endF; omega
 | m + 1, i => by
  unfold endF
  split
  ·omega
  ·exact kidsF_range (endF_range kid n m) (by omega) (by omega) _
set_option maxHeartbeats 1600000 in
theorem l7End_any (a : Option Addr) (b off n cap : Nat) (x : Nat → It) (w : World) (hs : ISeg w a b off n x) (hn : n ≤ 1048576) (hkid : ∀ i, i < n → 0 ≤ (x i).kid ∧ (x i).kid ≤ 1048576) :
  ∀ (m i d : Nat) (W : World), d + m = 12 + 1 → i ≤ n → Ext w W →
  Calls Tryz.prog 37 #[.slice a n cap, .int .i64 i, .int .i64 d] W fun e w' => e = .returned (.int .i64 (endF (fun j => (x j).kid) n m i)) ∧ Ext W w'
 | 0, i, d, W, hd, hi, hE => by
  have hd' : (d : Int) = 12 + 1 := by omega
  show Calls Tryz.prog 37 #[.slice a n cap, .int .i64 i, .int .i64 d] W fun e w' => e = .returned (.int .i64 (-1)) ∧ Ext W w'
  rw [hd']
  by_cases h : (n : Int) ≤ i
  ·go_enter Tryz.func37, Tryz.ntmps37
   go_wp2
   go_ret
   exact ⟨rfl, Ext.refl _⟩
  ·go_enter Tryz.func37, Tryz.ntmps37
   go_wp2
   go_ret
   exact ⟨rfl, Ext.refl _⟩
 | m + 1, i, d, W, hd, hi, hE => by
  by_cases h : n ≤ i
  ·have h' : (n : Int) ≤ i := by omega
   have e1 : endF (fun j => (x j).kid) n (m + 1) i = -1 := by unfold endF; rw [if_pos h]
   rw [e1]
   go_enter Tryz.func37, Tryz.ntmps37
   go_wp2
   go_ret
   exact ⟨rfl, Ext.refl _⟩
  ·have h' : ¬ (n : Int) ≤ i := by omega
   have hd' : ¬ (12 : Int) < d := by omega
   have e1 : endF (fun j => (x j).kid) n (m + 1) i = kidsF (endF (fun j => (x j).kid) n m) (x i).kid.toNat (i + 1) := by rw [endF]; rw [if_neg h]
   rw [e1]
   have IH := hide (fun (i : Nat) (W : World) (hi : i ≤ n) (hE : Ext w W) => l7End_any a b off n cap x w hs hn hkid m i (d + 1) W (by omega) hi hE)
   have hr := endF_range (fun j => (x j).kid) n m
   obtain ⟨f, hf⟩ : ∃ f, endF (fun j => (x j).kid) n m = f := ⟨_, rfl⟩
   rw [hf] at IH hr ⊢
   clear hf e1
   have hr2 := hide (fun k => kidsF_range (n := n) hr (s := (i : Int) + 1) (by omega) (by omega) k)
   have HR := hide hr
   obtain rfl := hs.at' (by omega)
   obtain ⟨hk0, hk1⟩ := hkid i (by omega)
   have HS := hide hs
   have HE := hide hE
   have HK := hide hkid
   obtain ⟨K, hK⟩ : ∃ K : Nat, (x i).kid = K := ⟨(x i).kid.toNat, by omega⟩
   have c2 := (hs.of_all hE).c2 i (by omega)
   rw [hK] at hk0 hk1 c2 ⊢
   rw [Int.toNat_natCast]
   clear hs hE hkid hr
   go_enter Tryz.func37, Tryz.ntmps37
   go_wp2
   clear c2
   go_loopw [7, 8] (fun c j wr => ∃ k : Nat, k ≤ K ∧ j = .int .i64 k ∧ 0 ≤ kidsF f k (i + 1) ∧ c = .int .i64 (kidsF f k (i + 1)) ∧ Ext W wr) (fun _ j _ => K - (intOf j).toNat)
   case atStart => exact ⟨0, Nat.zero_le _, rfl, by show (0 : Int) ≤ i + 1; omega, rfl, Ext.refl _⟩
   case round =>
    obtain ⟨k, hk, rfl, hz0, rfl, hE1⟩ := hrel
    have hz1 := (hr2.out k).2
    obtain ⟨z, hz⟩ : ∃ z : Nat, kidsF f k (i + 1) = z := ⟨(kidsF f k (i + 1)).toNat, by omega⟩
    rw [hz] at hz0 hz1 ⊢
    have c2 := (HS.out.of_all (HE.out.trans hE1)).c2 i (by omega)
    rw [hK] at c2
    have HE1 := hide hE1
    clear hE1
    by_cases hlt : k < K
    ·have hlt' : (k : Int) < (K : Int) := by omega
     have hfz := HR.out z
     have hnx : kidsF f (k + 1) (i + 1) = f z := by
      show (if kidsF f k (i + 1) < 0 then -1 else f (kidsF f k (i + 1)).toNat) = f z
      rw [hz, if_neg (by omega), Int.toNat_natCast]
     have HC := hide (IH.out z wr (by omega) (HE.out.trans HE1.out))
     rw [show (((d + 1 : Nat)) : Int) = (d : Int) + 1 by omega] at HC
     obtain ⟨y, hy⟩ : ∃ y, f z = y := ⟨_, rfl⟩
     rw [hy] at HC hfz hnx
     have Hz := hide hz
     have Hy := hide hnx
     clear hy hz hnx
     go_wp2_with fail
     refine HC.out.mono ?_
     rintro e W2 ⟨rfl, hE2⟩
     have HE2 := hide hE2
     clear hE2
     by_cases hneg : y < 0
     ·go_wp2
      go_ret
      have e1 : kidsF f K (i + 1) = -1 := by
       by_cases hkn1 : k + 1 = K
       ·have := Hy.out; rw [hkn1] at this; rw [this]; omega
       ·exact kidsF_neg (k := k + 1) (by rw [Hy.out]; exact hneg) K (by omega)
      exact ⟨by rw [e1]; rfl, HE1.out.trans HE2.out⟩
     ·go_wp2
      go_roundw
      case rel => exact ⟨k + 1, by omega, by go_num, by rw [Hy.out]; omega, by rw [Hy.out], HE1.out.trans HE2.out⟩
      case measure => simp [intOf]; omega
    ·obtain rfl : k = K := by omega
     go_wp2
     go_ret
     exact ⟨by rw [hz]; rfl, HE1.out⟩
theorem kidsF_minus (f : Nat → Int) (k : Nat) : kidsF f k (-1) = -1 := by
 induction k with
 | zero => rfl
 | succ k ih => unfold kidsF; rw [ih]; rfl
theorem kidsF_front (f : Nat → Int) (hf : ∀ i, -1 ≤ f i) (s : Nat) (k : Nat) : kidsF f (k + 1) s = kidsF f k (f s) := by
 induction k with
 | zero => simp [kidsF]; omega
 | succ k ih =>
  rw [kidsF, ih]
  conv => rhs; rw [kidsF]
def contF (kid : Nat → Int) (n : Nat) : List Nat → Int → Int
 | [], r => r
 | c :: st, r => contF kid n st (kidsF (endF kid n (12 - st.length)) c r)
theorem contF_minus (kid : Nat → Int) (n : Nat) : ∀ st, contF kid n st (-1) = -1
 | [] => rfl
 | c :: st => by unfold contF; rw [kidsF_minus, contF_minus kid n st]
def popF : List Nat → Option (List Nat)
 | [] => none
 | 0 :: st => popF st
 | (c + 1) :: st => some (c :: st)
theorem contF_pop (kid : Nat → Int) (n : Nat) (r : Nat) : ∀ st : List Nat, contF kid n st r = match popF st with
  | none => (r : Int)
  | some st' => contF kid n st' (endF kid n (13 - st'.length) r)
 | [] => rfl
 | 0 :: st => by
  show contF kid n st (kidsF _ 0 r) = _
  rw [show kidsF (endF kid n (12 - st.length)) 0 r = r from rfl, contF_pop kid n r st]
  rfl
 | (c + 1) :: st => by
  show contF kid n st (kidsF _ (c + 1) r) = contF kid n st (kidsF _ c _)
  rw [kidsF_front _ (fun i => (endF_range kid n _ i).1)]
  simp only [List.length_cons]
  rw [show 13 - (st.length + 1) = 12 - st.length by omega]
theorem contF_step (kid : Nat → Int) (n i : Nat) (st : List Nat) (hi : i < n) (hd : st.length ≤ 12) :
  contF kid n st (endF kid n (13 - st.length) i) = contF kid n ((kid i).toNat :: st) ((i + 1 : Nat) : Int) := by
 show _ = contF kid n st (kidsF _ _ _)
 rw [show 13 - st.length = (12 - st.length) + 1 by omega]
 conv => lhs; rw [endF]
 rw [if_neg (by omega)]
 rfl
theorem contF_deep (kid : Nat → Int) (n i : Nat) (st : List Nat) (h : n ≤ i ∨ 12 < st.length) : contF kid n st (endF kid n (13 - st.length) i) = -1 := by
 have : endF kid n (13 - st.length) i = -1 := by
  by_cases h2 : 12 < st.length
  ·rw [show 13 - st.length = 0 by omega]; rfl
  ·rw [show 13 - st.length = (12 - st.length) + 1 by omega, endF, if_pos (by omega)]
 rw [this, contF_minus]
theorem kidsF_far (f : Nat → Int) (hf : ∀ i, 0 ≤ f i → (i : Int) + 1 ≤ f i) (s : Int) (k : Nat) (h : 0 ≤ kidsF f k s) : s + k ≤ kidsF f k s := by
 induction k with
 | zero => simp [kidsF]
 | succ k ih =>
  rw [kidsF] at h ⊢
  split at h
  ·omega
  ·rename_i h1
   rw [if_neg h1]
   have := hf _ h
   have := ih (by omega)
   omega
theorem endF_far (kid : Nat → Int) (n : Nat) : ∀ (m i : Nat), 0 ≤ endF kid n m i → (i : Int) + 1 ≤ endF kid n m i
 | 0, i, h => by rw [endF] at h; omega
 | m + 1, i, h => by
  rw [endF] at h ⊢
  split at h
  ·omega
  ·rename_i h1
   rw [if_neg h1]
   have := kidsF_far _ (endF_far kid n m) _ _ h
   omega
theorem contF_far (kid : Nat → Int) (n : Nat) : ∀ (st : List Nat) (r : Int), -1 ≤ r → r ≤ n → 0 ≤ contF kid n st r → r + (st.sum : Nat) ≤ contF kid n st r
 | [], r, _, _, h => by simp [contF]
 | c :: st, r, r0, r1, h => by
  rw [contF] at h ⊢
  obtain ⟨k0, k1⟩ := kidsF_range (endF_range kid n (12 - st.length)) r0 r1 c
  have h1 := contF_far kid n st _ k0 k1 h
  by_cases hk : 0 ≤ kidsF (endF kid n (12 - st.length)) c r
  ·have := kidsF_far _ (endF_far kid n _) _ _ hk
   simp only [List.sum_cons]
   omega
  ·exfalso
   have e : kidsF (endF kid n (12 - st.length)) c r = -1 := by omega
   rw [e, contF_minus] at h
   omega
theorem popF_sum : ∀ (st st' : List Nat), popF st = some st' → st'.sum + 1 = st.sum
 | [], st', h => by simp [popF] at h
 | 0 :: st, st', h => by have := popF_sum st st' h; simpa using this
 | (c + 1) :: st, st', h => by
  simp [popF] at h
  subst h
  simp; omega
theorem popF_none : ∀ (st : List Nat), popF st = none → st.sum = 0
 | [], _ => rfl
 | 0 :: st, h => by have := popF_none st h; simpa using this
 | (c + 1) :: st, h => by simp [popF] at h
def itGood (x : It) : Prop := 0 ≤ x.tag ∧ x.tag ≤ 255 ∧ x.tag % 32 ≠ 31 ∧ 0 ≤ x.kid ∧ x.kid ≤ 300 ∧ (x.tag / 32 % 2 = 1 → x.len = 0) ∧ (x.tag / 32 % 2 ≠ 1 → x.kid = 0)
instance (x : It) : Decidable (itGood x) := by unfold itGood; infer_instance
def treeV (x : Nat → It) (n : Nat) : Bool := decide (1 ≤ n ∧ n ≤ 300 ∧ (∀ i, i < n → itGood (x i)) ∧ endF (fun j => (x j).kid) n 13 0 = n)
def itP (x : It) : Prop := 0 ≤ x.tag ∧ x.tag ≤ 255 ∧ x.tag % 32 ≠ 31 ∧ (x.tag / 32 % 2 = 1 → 0 ≤ x.kid ∧ x.len = 0) ∧ (x.tag / 32 % 2 ≠ 1 → x.kid = 0)
instance (x : It) : Decidable (itP x) := by unfold itP; infer_instance
theorem itP_of {x : It} (h : itGood x) : itP x := by
 obtain ⟨h1, h2, h3, h4, h5, h6, h7⟩ := h
 exact ⟨h1, h2, h3, fun m => ⟨h4, h6 m⟩, h7⟩
theorem itGood_of {x : It} (h : itP x) (h5 : x.kid ≤ 300) : itGood x := by
 obtain ⟨h1, h2, h3, h4, h7⟩ := h
 exact ⟨h1, h2, h3, by by_cases m : x.tag / 32 % 2 = 1
                       ·exact (h4 m).1
                       ·rw [h7 m]; omega, h5, fun m => (h4 m).2, h7⟩
theorem itP_kid {x : It} (h : itP x) : 0 ≤ x.kid := by
 obtain ⟨h1, h2, h3, h4, h7⟩ := h
 by_cases m : x.tag / 32 % 2 = 1
 ·exact (h4 m).1
 ·rw [h7 m]; omega
def runP (x : Nat → It) : Nat → Nat → List Nat → Int → Bool
 | 0, _, _, u => decide (u = 0)
 | f + 1, i, st, u => if ¬ itP (x i) ∨ 12 < st.length ∨ u < (x i).kid then false else
  match popF ((x i).kid.toNat :: st) with
  | none => decide (u - (x i).kid = 0)
  | some st' => runP x f (i + 1) st' (u - (x i).kid)
theorem runP_tree (x : Nat → It) (n : Nat) (hn : n ≤ 300) : ∀ (f i : Nat) (st : List Nat) (u : Int), i + f = n → 0 ≤ u → u + (st.sum : Nat) + i + 1 = n → (∀ j, j < i → itGood (x j)) →
  runP x f i st u = decide ((∀ j, j < n → itGood (x j)) ∧ contF (fun j => (x j).kid) n st (endF (fun j => (x j).kid) n (13 - st.length) i) = n)
 | 0, i, st, u, h1, h2, h3, h4 => by omega
 | f + 1, i, st, u, h1, h2, h3, h4 => by
  rw [runP]
  by_cases hb : ¬ itP (x i) ∨ 12 < st.length ∨ u < (x i).kid
  ·rw [if_pos hb]
   symm
   refine decide_eq_false (fun ⟨g, e⟩ => ?_)
   rcases hb with hb | hb | hb
   ·exact hb (itP_of (g i (by omega)))
   ·rw [contF_deep _ _ _ _ (Or.inr hb)] at e; omega
   ·by_cases hd : st.length ≤ 12
    ·rw [contF_step _ _ _ _ (by omega) hd] at e
     have hk := itP_kid (itP_of (g i (by omega)))
     have := contF_far (fun j => (x j).kid) n ((x i).kid.toNat :: st) ((i + 1 : Nat) : Int) (by omega) (by omega) (by rw [e]; omega)
     rw [e] at this
     simp only [List.sum_cons] at this
     omega
    ·rw [contF_deep _ _ _ _ (Or.inr (by omega))] at e; omega
  ·rw [if_neg hb]
   have hp : itP (x i) := by
    by_cases h : itP (x i)
    ·exact h
    ·exact absurd (Or.inl h) hb
   have hd : st.length ≤ 12 := by
    by_cases h : st.length ≤ 12
    ·exact h
    ·exact absurd (Or.inr (Or.inl (by omega))) hb
   have hu : (x i).kid ≤ u := by
    by_cases h : (x i).kid ≤ u
    ·exact h
    ·exact absurd (Or.inr (Or.inr (by omega))) hb
   have hk := itP_kid hp
   have hg : ∀ j, j < i + 1 → itGood (x j) := fun j hj => by
    by_cases e : j = i
    ·subst e; exact itGood_of hp (by omega)
    ·exact h4 j (by omega)
   rw [contF_step _ _ _ _ (by omega) hd, contF_pop]
   cases hq : popF ((x i).kid.toNat :: st) with
   | none =>
    have := popF_none _ hq
    simp only [List.sum_cons] at this
    simp only
    rw [decide_eq_decide]
    constructor
    ·intro h
     exact ⟨fun j hj => hg j (by omega), by omega⟩
    ·rintro ⟨_, h⟩
     omega
   | some st' =>
    have := popF_sum _ _ hq
    simp only [List.sum_cons] at this
    simp only
    exact runP_tree x n hn f (i + 1) st' _ (by omega) (by omega) (by omega) hg
theorem runP_treeV (x : Nat → It) (n : Nat) (h1 : 1 ≤ n) (hn : n ≤ 300) : runP x n 0 [] ((n : Int) - 1) = treeV x n := by
 rw [runP_tree x n hn n 0 [] _ (by omega) (by omega) (by simp) (fun j hj => absurd hj (Nat.not_lt_zero _))]
 unfold treeV
 rw [decide_eq_decide]
 exact ⟨fun h => ⟨h1, hn, h.1, h.2⟩, fun h => ⟨h.2.2.1, h.2.2.2⟩⟩
theorem l1In_int (x a b : Int) (w : World) : Calls Tryz.prog 64 #[.int .i64 x, .int .i64 a, .int .i64 b] w fun e w' => e = .returned (.bool (decide (a ≤ x) && decide (x ≤ b))) ∧ w' = w := by
 by_cases h1 : a ≤ x
 ·by_cases h2 : x ≤ b
  ·go_enter Tryz.func64, Tryz.ntmps64
   go_wp2
   go_ret
   exact ⟨ret_bool (by rw [decide_eq_true (by omega : a ≤ x), decide_eq_true (by omega : x ≤ b)]; rfl), rfl⟩
  ·go_enter Tryz.func64, Tryz.ntmps64
   go_wp2
   go_ret
   exact ⟨ret_bool (by simp; omega), rfl⟩
 ·go_enter Tryz.func64, Tryz.ntmps64
  go_wp2
  go_ret
  exact ⟨ret_bool (by rw [decide_eq_false (by omega : ¬ a ≤ x)]; rfl), rfl⟩
theorem ret_ib2 {a b : Int} {p q : Bool} (h : a = b) (h2 : p = q) : Ending.returned (.tuple #[.int .i64 a, .bool p]) = .returned (.tuple #[.int .i64 b, .bool q]) := by rw [h, h2]
theorem l7Made_any (t : Int) (w : World) (t0 : 0 ≤ t) (t1 : t ≤ 255) : Calls Tryz.prog 63 #[.int .i64 t] w fun e w' => e = .returned (.bool (decide (t / 32 % 2 = 1))) ∧ w' = w := by
 have e1 : t.tdiv 32 = t / 32 := Int.tdiv_eq_ediv_of_nonneg t0
 have e2 : (t / 32).tmod 2 = t / 32 % 2 := Int.tmod_eq_emod_of_nonneg (by omega)
 go_enter Tryz.func63, Tryz.ntmps63
 go_wp2
 go_ret
 exact ⟨ret_bool (by first | rfl | (rw [Bool.eq_iff_iff]; simp)), rfl⟩
set_option maxHeartbeats 0 in
theorem specTree_any (a : Option Addr) (b off n cap : Nat) (x : Nat → It) (w : World) (hs : ISeg w a b off n x) (hn : n ≤ 1048576) :
  Calls Tryz.prog 70 #[.slice a n cap] w fun e w' => e = .returned (.bool (treeV x n)) ∧ Ext w w' := by
 obtain ⟨F, hF⟩ : ∃ F, treeV x n = F := ⟨_, rfl⟩
 rw [hF]
 have HF := hide hF
 clear hF
 by_cases hin : 1 ≤ n ∧ n ≤ 300
 ·have HN : Hid (∀ W : World, Calls Tryz.prog 64 #[.int .i64 n, .int .i64 1, .int .i64 300] W fun e w' => e = .returned (.bool true) ∧ w' = W) := hide (fun W => by
   have := l1In_int n 1 300 W
   rwa [show (decide ((1 : Int) ≤ n) && decide ((n : Int) ≤ 300)) = true by simp; omega] at this)
  go_enter Tryz.func70, Tryz.ntmps70
  go_wp2_with fail
  refine (HN.out _).mono ?_
  rintro e w1 ⟨rfl, hw1⟩
  subst hw1
  go_wp2
  go_loopw [3] (fun i wr => ∃ k : Nat, k ≤ n ∧ i = .int .i64 k ∧ (∀ j, j < k → itGood (x j)) ∧ Ext w1 wr) (fun i _ => n - (intOf i).toNat)
  case atStart => exact ⟨0, Nat.zero_le _, rfl, fun j hj => absurd hj (Nat.not_lt_zero _), Ext.refl _⟩
  case round =>
   obtain ⟨k, hk, rfl, hd, hE⟩ := hrel
   have HD := hide hd
   clear hd
   by_cases hlt : k < n
   ·obtain rfl := hs.at' (by omega)
    have hs' := hs.of_all hE
    have c0 := hs'.c0 k hlt
    have c1 := hs'.c1 k hlt
    have c2 := hs'.c2 k hlt
    have hsm := hs.small k hlt
    have HE := hide hE
    have HS := hide hs
    clear hs hs' hE
    have hkn : (k : Int) < (n : Int) := by omega
    have HBad : Hid (¬ itGood (x k) → F = false) := hide (fun h => by rw [← HF.out]; exact decide_eq_false (fun g => h (g.2.2.1 k hlt)))
    obtain ⟨t, ht⟩ : ∃ t, (x k).tag = t := ⟨_, rfl⟩
    obtain ⟨c, hc⟩ : ∃ c, (x k).kid = c := ⟨_, rfl⟩
    obtain ⟨q, hq⟩ : ∃ q, (x k).len = q := ⟨_, rfl⟩
    have HG : Hid (itGood (x k) ↔ (0 ≤ t ∧ t ≤ 255 ∧ t % 32 ≠ 31 ∧ 0 ≤ c ∧ c ≤ 300 ∧ (t / 32 % 2 = 1 → q = 0) ∧ (t / 32 % 2 ≠ 1 → c = 0))) := hide (by unfold itGood; rw [ht, hc, hq])
    rw [ht] at c0
    rw [hq] at c1 hsm
    rw [hc] at c2
    clear ht hc hq
    have HT : Hid (∀ W : World, Calls Tryz.prog 64 #[.int .i64 t, .int .i64 0, .int .i64 255] W fun e w' => e = .returned (.bool (decide (0 ≤ t) && decide (t ≤ 255))) ∧ w' = W) := hide (fun W => l1In_int t 0 255 W)
    have HK : Hid (∀ W : World, Calls Tryz.prog 64 #[.int .i64 c, .int .i64 0, .int .i64 300] W fun e w' => e = .returned (.bool (decide (0 ≤ c) && decide (c ≤ 300))) ∧ w' = W) := hide (fun W => l1In_int c 0 300 W)
    by_cases hA : 0 ≤ t ∧ t ≤ 255
    ·rw [show (decide (0 ≤ t) && decide (t ≤ 255)) = true by simp; omega] at HT
     have em : t.tmod 32 = t % 32 := Int.tmod_eq_emod_of_nonneg (by omega)
     by_cases hB : t % 32 = 31
     ·have hB' : (t % 32 == 31) = true := by simp [hB]
      go_wp2_with fail
      refine (HT.out _).mono ?_
      rintro e w1 ⟨rfl, hw1⟩
      subst hw1
      go_wp2
      go_ret
      exact ⟨ret_bool (HBad.out (fun g => by have := HG.out.1 g; omega)).symm, HE.out.trans (Ext.alloc _ _)⟩
     ·have hB' : (t % 32 == 31) = false := by simp [hB]
      by_cases hC : 0 ≤ c ∧ c ≤ 300
      ·rw [show (decide (0 ≤ c) && decide (c ≤ 300)) = true by simp; omega] at HK
       have HMd : Hid (∀ W : World, Calls Tryz.prog 63 #[.int .i64 t] W fun e w' => e = .returned (.bool (decide (t / 32 % 2 = 1))) ∧ w' = W) := hide (fun W => l7Made_any t W (by omega) (by omega))
       by_cases hM : t / 32 % 2 = 1
       ·rw [show decide (t / 32 % 2 = 1) = true by simp [hM]] at HMd
        by_cases hQ : q = 0
        ·have hQ' : ¬ (0 : Int) < (q : Int) := by omega
         have HQ := hide hQ
         clear hQ
         go_wp2_with fail
         refine (HT.out _).mono ?_
         rintro e w1 ⟨rfl, hw1⟩
         subst hw1
         go_wp2_with fail
         refine (HK.out _).mono ?_
         rintro e w1 ⟨rfl, hw1⟩
         subst hw1
         go_wp2_with fail
         refine (HMd.out _).mono ?_
         rintro e w1 ⟨rfl, hw1⟩
         subst hw1
         go_wp2_with fail
         refine (HMd.out _).mono ?_
         rintro e w1 ⟨rfl, hw1⟩
         subst hw1
         go_wp2
         go_roundw
         case rel => exact ⟨k + 1, by omega, by go_num, fun j hj => by
                by_cases e : j = k
                ·subst e; exact HG.out.2 (by have := HQ.out; omega)
                ·exact HD.out j (by omega), HE.out.trans (Ext.alloc _ _)⟩
         case measure => simp [intOf]; omega
        ·have hQ' : (0 : Int) < (q : Int) := by omega
         go_wp2_with fail
         refine (HT.out _).mono ?_
         rintro e w1 ⟨rfl, hw1⟩
         subst hw1
         go_wp2_with fail
         refine (HK.out _).mono ?_
         rintro e w1 ⟨rfl, hw1⟩
         subst hw1
         go_wp2_with fail
         refine (HMd.out _).mono ?_
         rintro e w1 ⟨rfl, hw1⟩
         subst hw1
         go_wp2
         go_ret
         exact ⟨ret_bool (HBad.out (fun g => by have := HG.out.1 g; omega)).symm, HE.out.trans (Ext.alloc _ _)⟩
       ·rw [show decide (t / 32 % 2 = 1) = false by simp [hM]] at HMd
        by_cases hQ : c = 0
        ·have hQ' : ¬ (0 : Int) < c := by omega
         have HQ := hide hQ
         clear hQ
         go_wp2_with fail
         refine (HT.out _).mono ?_
         rintro e w1 ⟨rfl, hw1⟩
         subst hw1
         go_wp2_with fail
         refine (HK.out _).mono ?_
         rintro e w1 ⟨rfl, hw1⟩
         subst hw1
         go_wp2_with fail
         refine (HMd.out _).mono ?_
         rintro e w1 ⟨rfl, hw1⟩
         subst hw1
         go_wp2_with fail
         refine (HMd.out _).mono ?_
         rintro e w1 ⟨rfl, hw1⟩
         subst hw1
         go_wp2
         go_roundw
         case rel => exact ⟨k + 1, by omega, by go_num, fun j hj => by
                by_cases e : j = k
                ·subst e; exact HG.out.2 (by have := HQ.out; omega)
                ·exact HD.out j (by omega), HE.out.trans (Ext.alloc _ _)⟩
         case measure => simp [intOf]; omega
        ·have hQ' : (0 : Int) < c := by omega
         go_wp2_with fail
         refine (HT.out _).mono ?_
         rintro e w1 ⟨rfl, hw1⟩
         subst hw1
         go_wp2_with fail
         refine (HK.out _).mono ?_
         rintro e w1 ⟨rfl, hw1⟩
         subst hw1
         go_wp2_with fail
         refine (HMd.out _).mono ?_
         rintro e w1 ⟨rfl, hw1⟩
         subst hw1
         go_wp2_with fail
         refine (HMd.out _).mono ?_
         rintro e w1 ⟨rfl, hw1⟩
         subst hw1
         go_wp2
         go_ret
         exact ⟨ret_bool (HBad.out (fun g => by have := HG.out.1 g; omega)).symm, HE.out.trans (Ext.alloc _ _)⟩
      ·rw [show (decide (0 ≤ c) && decide (c ≤ 300)) = false by simp; omega] at HK
       go_wp2_with fail
       refine (HT.out _).mono ?_
       rintro e w1 ⟨rfl, hw1⟩
       subst hw1
       go_wp2_with fail
       refine (HK.out _).mono ?_
       rintro e w1 ⟨rfl, hw1⟩
       subst hw1
       go_wp2
       go_ret
       exact ⟨ret_bool (HBad.out (fun g => by have := HG.out.1 g; omega)).symm, HE.out.trans (Ext.alloc _ _)⟩
    ·rw [show (decide (0 ≤ t) && decide (t ≤ 255)) = false by simp; omega] at HT
     go_wp2_with fail
     refine (HT.out _).mono ?_
     rintro e w1 ⟨rfl, hw1⟩
     subst hw1
     go_wp2
     go_ret
     exact ⟨ret_bool (HBad.out (fun g => by have := HG.out.1 g; omega)).symm, HE.out.trans (Ext.alloc _ _)⟩
   ·obtain rfl : k = n := by omega
    have HC := hide (l7End_any a b off k cap x w1 hs (by omega) (fun i hi => by have := HD.out i hi; unfold itGood at this; omega) 13 0 0 wr (by omega) (by omega) hE)
    have hr := endF_range (fun j => (x j).kid) k 13 0
    obtain ⟨z, hz⟩ : ∃ z, endF (fun j => (x j).kid) k 13 0 = z := ⟨_, rfl⟩
    rw [hz] at HC hr
    have HZ := hide hz
    have HE := hide hE
    clear hz hs hE
    go_wp2_with fail
    refine HC.out.mono ?_
    rintro e w2 ⟨rfl, hE2⟩
    have HE2 := hide hE2
    clear hE2
    go_wp2
    go_ret
    refine ⟨ret_bool ?_, HE.out.trans HE2.out⟩
    rw [← HF.out]
    unfold treeV
    rw [Bool.eq_iff_iff, HZ.out]
    have g1 : 1 ≤ k ∧ k ≤ 300 := hin
    have g2 := HD.out
    simp [g1.1, g1.2]
    try exact fun _ => g2
 ·have HN : Hid (∀ W : World, Calls Tryz.prog 64 #[.int .i64 n, .int .i64 1, .int .i64 300] W fun e w' => e = .returned (.bool false) ∧ w' = W) := hide (fun W => by
   have := l1In_int n 1 300 W
   rwa [show (decide ((1 : Int) ≤ n) && decide ((n : Int) ≤ 300)) = false by simp; omega] at this)
  have HB : Hid (F = false) := hide (by rw [← HF.out]; exact decide_eq_false (fun g => hin ⟨g.1, g.2.1⟩))
  go_enter Tryz.func70, Tryz.ntmps70
  go_wp2_with fail
  refine (HN.out _).mono ?_
  rintro e w1 ⟨rfl, hw1⟩
  subst hw1
  go_wp2
  go_ret
  exact ⟨ret_bool HB.out.symm, Ext.refl _⟩
end
end Go.Proofs.YtkogbinfhoiggaaGreatDoor
