/- A region that draws its order, step by step, in which calls turn one block C (a cursor): what only reads other memory or lays blocks is taken first, of what else may come up each is gone through. Nothing of the program. Blocks of cells: what lies there, what a store leaves. Nothing of the program. Walks: lists of bytes put behind each other: slices.Clone, slices.Grow, slices.Concat, appendWord. Walks: lists of ints put behind each other. Made out of BCat. Walks: bytes.Equal, and the model's l1Same: whether two lists of bytes are alike. Plain notions for walks over strings: the byte at a place, what a round of a range over a string comes to, lists of strings of the call's own. Lists of strings in memory; the laws' own helpers over them; a list of strings that came in, opened. Walks of the law's marks: markIntS writes k, k+1, .. into a slice that may be written; heldIntS finds them there. Walks of the law's marks in bytes: markByteS writes k, k+1, .. by 256 into a slice that may be written; heldByteS finds them there. Walks: marks in lists of strings; what marks may have turned. -/
import Derived.Test.YtfhiiakoilkbkaaGreatDoorCv01
import Derived.Lib.AppendZerosOnto
import Derived.Laws.OwnMore
import Derived.Laws.BytesArg
import Derived.Lib.OthersKept
import Derived.Laws.DeepStrings4
import Derived.Laws.IdiomStrings
import Derived.Maps.AppendAt
import Derived.Test.YtfhiiakoilkbkaaGreatDoorRows
import Derived.SliceStrings
import Derived.ProofKit
import Derived.OpenShut
import Derived.ChangeOld
import Derived.Below
namespace Go.Proofs.YtfhiiakoilkbkaaGreatDoor
set_option linter.unusedVariables false
set_option linter.unusedSimpArgs false
section
open Go Go.Sort Go.RowKit
structure Grw (X : Nat → Prop) (w w' : World) : Prop where
 os : w'.os = w.os
 tape : w'.tape = w.tape
 output : w'.output = w.output
 size : w.heap.size ≤ w'.heap.size
 block : ∀ k, k < w.heap.size → ¬ X k → w'.heap[k]? = w.heap[k]?
theorem Grw.refl (X : Nat → Prop) (w : World) : Grw X w w := ⟨rfl, rfl, rfl, Nat.le_refl _, fun _ _ _ => rfl⟩
theorem Grw.trans {X : Nat → Prop} {a b c : World} (h : Grw X a b) (k : Grw X b c) : Grw X a c :=
 ⟨k.os.trans h.os, k.tape.trans h.tape, k.output.trans h.output, Nat.le_trans h.size k.size, fun i hi hn => (k.block i (Nat.lt_of_lt_of_le hi h.size) hn).trans (h.block i hi hn)⟩
theorem Grw.mono {X Y : Nat → Prop} {a b : World} (h : Grw X a b) (k : ∀ i, X i → Y i) : Grw Y a b :=
 ⟨h.os, h.tape, h.output, h.size, fun i hi hn => h.block i hi (fun e => hn (k i e))⟩
theorem Grw.of_ext {X : Nat → Prop} {a b : World} (h : Ext a b) : Grw X a b := ⟨h.os, h.tape, h.output, h.size, fun k hk _ => h.block k hk⟩
theorem Grw.of_touch {X : Nat → Prop} {C : Nat} {a b : World} (h : Touch C a b) (hX : X C) : Grw X a b :=
 ⟨h.grown.os, h.grown.tape, h.grown.output, Nat.le_of_eq h.size.symm, fun k hk hn => h.grown.block k hk (by simp; intro e; exact hn (e ▸ hX))⟩
structure ReC (X : Nat → Prop) (w : World) where
 val : World
 ok : Grw X w val
instance (X : Nat → Prop) (w : World) : Inhabited (ReC X w) := ⟨⟨w, .refl X w⟩⟩
theorem cell_reC {X : Nat → Prop} {w : World} {a : Addr} {v : Value} (h : w.cell? a = some v) (hne : ¬ X a.block) (p : ReC X w) : p.val.cell? a = some v := by
 rw [World.cell?_of_block (p.ok.block a.block (block_lt_of_cell h) hne)]; exact h
section
variable {P : Program} {ops : Array Oper} {md : Region.Mode} {Q : Exit → Act → World → Prop}
def anyK (P : Program) (md : Region.Mode) (ops : Array Oper) (Q : Exit → Act → World → Prop) (X : Nat → Prop) (V : World) (f : Nat) (listed : Array Bool) (a : Act) (W : World) : Prop := Grw X V W → anyS P md ops Q (Grw X V) f listed a (Ext W)
theorem kept_grw {X : Nat → Prop} {V W : World} (h : Grw X V W) : Kept (Grw X V) (Ext W) := ⟨fun _ k => h.trans (.of_ext k), fun _ _ h k => h.trans k⟩
theorem anyK_begin {id : Nat} {a : Act} {w : World} {l : List Oper} (X : Nat → Prop) (n : Nat) (hn : l.length = n) (hm : P.follows .mixedOrders = true) (h : anyK P .any l.toArray Q X w n (Array.replicate n false) a w) : (Code.region id l.toArray true).wp P Q a w := by
 subst hn
 refine wp_region_any hm ?_
 have := any_of_S _ _ _ _ _ (show Ext w { w with drawn := w.drawn + 1 } from ⟨rfl, rfl, rfl, Nat.le_refl _, fun _ _ => rfl⟩) (h (Grw.refl X w))
 simpa using this
def headC (P : Program) (ops : Array Oper) (X : Nat → Prop) (w : World) (N : Act → Prop) : List Oper → Act → Prop
 | [], a => N a
 | o :: rest, a =>
  if Region.wanted o (yielded ops a.tmps) then ∃ v, (∀ p : ReC X w, o.quietAt P a (fun w'' => ∃ q : Regrown, w'' = grow (redrawn p.val q.d) q.os) p.val v) ∧ headC P ops X w N rest (a.put o.dst v)
  else headC P ops X w N rest (a.put o.dst undef)
theorem headC_nil {X : Nat → Prop} {w : World} {N : Act → Prop} {a : Act} (h : N a) : headC P ops X w N [] a := h
theorem headC_step {X : Nat → Prop} {w : World} {N : Act → Prop} {o : Oper} {rest : List Oper} {a : Act}
  (h : ∀ K : Act → Prop, (∀ a, headC P ops X w N rest a → K a) → if Region.wanted o (yielded ops a.tmps) then ∃ v, (∀ p : ReC X w, o.quietAt P a (fun w'' => ∃ q : Regrown, w'' = grow (redrawn p.val q.d) q.os) p.val v) ∧ K (a.put o.dst v) else K (a.put o.dst undef)) : headC P ops X w N (o :: rest) a :=
 h _ fun _ k => k
theorem takeC_list (hsel : Region.noSelect ops = true) (hQ : ∀ c a d v w, Q (.panic c) (a.put d v) w → Q (.panic c) a w) {X : Nat → Prop} {V W : World} {f : Nat} :
  ∀ (l : List Oper) (k : Nat) (listed : Array Bool) (a : Act), (∀ j, j < l.length → l[j]? = ops[k + j]?) → takeB md ops l.length k listed = true →
  headC P ops X V (fun a' => anyK P md ops Q X V f (setB l.length k listed) a' W) l a → anyK P md ops Q X V (l.length + f) listed a W
 | [], k, listed, a, _, _, h => by
  rw [List.length_nil, Nat.zero_add]
  exact h
 | o :: l, k, listed, a, hl, hB, h => by
  have h0 : ops[k]? = some o := by simpa using (hl 0 (by simp)).symm
  simp only [List.length_cons, takeB, Bool.and_eq_true] at hB
  obtain ⟨⟨hr, hf⟩, hB'⟩ := hB
  have hr' : k ∈ Region.ready md ops listed := by simpa using hr
  have hl' : ∀ j, j < l.length → l[j]? = ops[k + 1 + j]? := fun j hj => by
   have := hl (j + 1) (by simp; omega)
   simpa [Nat.add_assoc, Nat.add_comm 1 j] using this
  rw [List.length_cons, show l.length + 1 + f = (l.length + f) + 1 by omega]
  intro hV
  unfold headC at h
  by_cases hwa : Region.wanted o (yielded ops a.tmps) = true
  ·simp only [hwa, if_true] at h
   obtain ⟨v, hv, hrest⟩ := h
   have hy : YieldsE P ops (Grw X V) o v a := Or.inl ⟨hwa, fun w' hw' => by
    exact quiet_up (fun w2 ⟨q, hq⟩ => by rw [hq]; exact below_regrown _ _ _) (hv ⟨w', hw'⟩)⟩
   exact anyS_first h0 (Region.noSelect_spec hsel) (fun c a w => hQ c a _ _ w) _ listed a (Ext W) (kept_grw hV) (Region.free_spec h0 hf) hr' hy (takeC_list hsel hQ l (k + 1) _ _ hl' hB' hrest hV)
  ·simp only [hwa] at h
   have hy : YieldsE P ops (Grw X V) o undef a := Or.inr ⟨by simpa using hwa, rfl⟩
   exact anyS_first h0 (Region.noSelect_spec hsel) (fun c a w => hQ c a _ _ w) _ listed a (Ext W) (kept_grw hV) (Region.free_spec h0 hf) hr' hy (takeC_list hsel hQ l (k + 1) _ _ hl' hB' h hV)
theorem anyK_take {l : List Oper} {X : Nat → Prop} {V W : World} {listed : Array Bool} {a : Act} (k n f : Nat) {m : Nat} (hm : n + f = m) (hn : k + n ≤ l.length) (hB : (Region.noSelect l.toArray && takeB md l.toArray n k listed) = true) (hQ : ∀ c a d v w, Q (.panic c) (a.put d v) w → Q (.panic c) a w)
  (h : headC P l.toArray X V (fun a' => anyK P md l.toArray Q X V f (setB n k listed) a' W) ((l.drop k).take n) a) : anyK P md l.toArray Q X V m listed a W := by
 rw [Bool.and_eq_true] at hB
 have hl : ((l.drop k).take n).length = n := by simp; omega
 subst hm
 have := takeC_list (md := md) (P := P) (Q := Q) (X := X) (V := V) (W := W) (f := f) hB.1 hQ ((l.drop k).take n) k listed a (fun j hj => by
  rw [hl] at hj
  simp [hj, List.getElem?_drop]) (by rw [hl]; exact hB.2) (by rw [hl]; exact h)
 rwa [hl] at this
def stepK (P : Program) (md : Region.Mode) (ops : Array Oper) (Q : Exit → Act → World → Prop) (X : Nat → Prop) (V : World) (f : Nat) (listed : Array Bool) (i : Nat) (a : Act) (W : World) : Prop :=
 ∀ w, Ext W w → wpOp P ops Q i (fun a' w' => Grw X V w' ∧ anyK P md ops Q X V f (listed.setIfInBounds i true) a' w') a w
theorem anyK_all {X : Nat → Prop} {V W : World} {listed : Array Bool} {a : Act} {f : Nat} (rs : List Nat) (hr : Region.ready md ops listed = rs) (hne : rs ≠ []) (h : ∀ i ∈ rs, stepK P md ops Q X V f listed i a W) : anyK P md ops Q X V (f + 1) listed a W := by
 intro hV
 refine ⟨fun e => absurd (hr ▸ e) hne, fun i hi w hw => wpOp_mono ?_ (h i (hr ▸ hi) w hw)⟩
 rintro a' w' ⟨hx, hk⟩
 exact ⟨Ext w', kept_grw hx, Ext.refl _, hk hx⟩
theorem anyK_done {X : Nat → Prop} {V W : World} {listed : Array Bool} {a : Act} (hr : Region.ready md ops listed = []) (h : ∀ w, Ext W w → Q .normal a w) : ∀ f, anyK P md ops Q X V f listed a W
 | 0 => fun _ => ⟨hr, h⟩
 | _ + 1 => fun _ => ⟨fun _ => h, by rw [hr]; simp⟩
theorem anyK_one {X : Nat → Prop} {V W : World} {listed : Array Bool} {a : Act} {f : Nat} (i : Nat) (hr : Region.ready md ops listed = [i]) (h : stepK P md ops Q X V f listed i a W) : anyK P md ops Q X V (f + 1) listed a W :=
 anyK_all [i] hr (by simp) (fun j hj => by rw [List.mem_singleton.1 hj]; exact h)
theorem anyK_two {X : Nat → Prop} {V W : World} {listed : Array Bool} {a : Act} {f : Nat} (i j : Nat) (hr : Region.ready md ops listed = [i, j]) (h : stepK P md ops Q X V f listed i a W) (k : stepK P md ops Q X V f listed j a W) : anyK P md ops Q X V (f + 1) listed a W :=
 anyK_all [i, j] hr (by simp) (fun l hl => by
  rcases List.mem_cons.1 hl with rfl | hl
  ·exact h
  ·rw [List.mem_singleton.1 hl]; exact k)
theorem stepK_run {X : Nat → Prop} {V W : World} {listed : Array Bool} {a : Act} {f i : Nat} {o : Oper} (hi : ops[i]? = some o)
  (h : ∀ w, Ext W w → ∀ K : Act → World → Prop, (∀ a' w', Grw X V w' → anyK P md ops Q X V f (listed.setIfInBounds i true) a' w' → K a' w') → if Region.wanted o (yielded ops a.tmps) then o.wp P a w K Q else K (a.put o.dst undef) w) : stepK P md ops Q X V f listed i a W := by
 intro w hw
 have k := h w hw (fun a' w' => Grw X V w' ∧ anyK P md ops Q X V f (listed.setIfInBounds i true) a' w') (fun a' w' hx hr => ⟨hx, hr⟩)
 unfold wpOp
 rw [hi]
 by_cases hwa : Region.wanted o (yielded ops a.tmps) = true
 ·simp only [hwa, if_true] at k ⊢
  exact Or.inl k
 ·simp only [hwa] at k ⊢
  exact k
end
end
section
open Go Go.Sort Go.RowKit
def Blk (w : World) (C : Nat) (vs : List Value) : Prop := ∀ i v, vs[i]? = some v → w.cell? ⟨C, i, none⟩ = some v ∧ w.frozen? ⟨C, i, none⟩ = false
theorem Blk.below {w w' : World} {C : Nat} {vs : List Value} (h : Blk w C vs) {S : Nat} (hb : Below S w w') (hC : C < S) : Blk w' C vs := fun i v hi =>
 ⟨(hb.cell (p := ⟨C, i, none⟩) hC).trans (h i v hi).1, (hb.frozen (p := ⟨C, i, none⟩) hC).trans (h i v hi).2⟩
theorem Blk.ext {w w' : World} {C : Nat} {vs : List Value} (h : Blk w C vs) (e : Ext w w') (hC : C < w.heap.size) : Blk w' C vs := h.below e hC
theorem Blk.alloc (w : World) (vs : List Value) (t : TypeId) : Blk (w.alloc (.cells vs.toArray t)) w.heap.size vs := fun i v hi => by
 constructor
 ·simp [go_sem, hi]
 ·simp [go_sem]
def putL (C : Nat) : Nat → List Value → World → World
 | _, [], w => w
 | i, v :: vs, w => putL C (i + 1) vs (w.setCell ⟨C, i, none⟩ v)
theorem size_putL (C : Nat) : ∀ (vs : List Value) (i : Nat) (w : World), (putL C i vs w).heap.size = w.heap.size
 | [], _, _ => rfl
 | v :: vs, i, w => by rw [putL, size_putL C vs]; simp [World.setCell]
theorem frozen_putL (C : Nat) (q : Addr) : ∀ (vs : List Value) (i : Nat) (w : World), (putL C i vs w).frozen? q = w.frozen? q
 | [], _, _ => rfl
 | v :: vs, i, w => by rw [putL, frozen_putL C q vs]; simp
theorem cell_putL_other (C : Nat) (q : Addr) : ∀ (vs : List Value) (i : Nat) (w : World), (q.block = C → q.off < i) → (putL C i vs w).cell? q = w.cell? q
 | [], _, _, _ => rfl
 | v :: vs, i, w, h => by
  rw [putL, cell_putL_other C q vs (i + 1) _ (fun e => Nat.lt_succ_of_lt (h e))]
  refine World.cell?_setCell_other _ _ _ _ ?_
  rintro rfl
  exact absurd (h rfl) (Nat.lt_irrefl _)
theorem below_putL {S C : Nat} {a : World} (hC : S ≤ C) : ∀ (vs : List Value) (i : Nat) (w : World), Below S a w → Below S a (putL C i vs w)
 | [], _, _, h => h
 | v :: vs, i, w, h => below_putL hC vs (i + 1) _ (h.setCell (p := ⟨C, i, none⟩) hC _)
theorem cell_putL (C : Nat) : ∀ (vs : List Value) (i : Nat) (w : World), (∀ j, j < vs.length → (w.cell? ⟨C, i + j, none⟩).isSome) → ∀ j v, vs[j]? = some v → (putL C i vs w).cell? ⟨C, i + j, none⟩ = some v
 | [], _, _, _, j, v, h => by simp at h
 | x :: vs, i, w, hw, j, v, h => by
  rw [putL]
  cases j with
  | zero =>
   rw [cell_putL_other C _ vs (i + 1) _ (fun _ => by simp)]
   obtain ⟨y, hy⟩ := Option.isSome_iff_exists.1 (hw 0 (by simp))
   simp at h
   subst h
   exact World.cell?_setCell_same _ _ _ hy
  | succ j =>
   have := cell_putL C vs (i + 1) (w.setCell ⟨C, i, none⟩ x) (fun k hk => by
    rw [World.cell?_setCell_other _ _ _ _ (by simp <;> omega)]
    have := hw (k + 1) (by simp; omega)
    rwa [show i + (k + 1) = i + 1 + k by omega] at this) j v (by simpa using h)
   rwa [show i + 1 + j = i + (j + 1) by omega] at this
theorem Blk.put {w : World} {C : Nat} {us : List Value} (h : Blk w C us) (vs : List Value) (hl : vs.length = us.length) : Blk (putL C 0 vs w) C vs := fun i v hi => by
 have hi' : i < us.length := by rw [← hl]; exact (List.getElem?_eq_some_iff.1 hi).1
 constructor
 ·have := cell_putL C vs 0 w (fun j hj => by
   rw [hl] at hj
   rw [Nat.zero_add, (h j _ (List.getElem?_eq_getElem hj)).1]; rfl) i v hi
  rwa [Nat.zero_add] at this
 ·rw [frozen_putL]
  exact (h i _ (List.getElem?_eq_getElem hi')).2
theorem Blk.put_other {w : World} {C D : Nat} {us : List Value} (h : Blk w D us) (vs : List Value) (hne : D ≠ C) : Blk (putL C 0 vs w) D us := fun i v hi =>
 ⟨(cell_putL_other C _ vs 0 w (fun e => absurd e hne)).trans (h i v hi).1, (frozen_putL C _ vs 0 w).trans (h i v hi).2⟩
theorem Ext.putL {a w : World} (h : Ext a w) {C : Nat} (hC : a.heap.size ≤ C) (vs : List Value) : Ext a (putL C 0 vs w) := below_putL hC vs 0 w h
theorem Ext.alloc (w : World) (o : Obj) : Ext w (w.alloc o) := (Below.refl _ _).alloc (Nat.le_refl _) _
theorem Calls.re_of {P : Program} {f : FuncId} {args : Array Value} {w : World} {v : Value} (h : Calls P f args w fun e w' => e = .returned v ∧ Ext w w') : Calls P f args w fun e w'' => e = .returned v ∧ ∃ q : Regrown, w'' = grow (redrawn w q.d) q.os :=
 h.mono fun e w' k => ⟨k.1, by obtain ⟨p, hp⟩ := regrown_of_below k.2; exact ⟨p, hp⟩⟩
theorem box1 (w : World) (l1 : List Value) (t1 : TypeId) {w1 : World} (h : Ext (w.alloc (.cells l1.toArray t1)) w1) : Blk w1 w.heap.size l1 ∧ Ext w w1 ∧ w.heap.size + 1 ≤ w1.heap.size :=
 ⟨(Blk.alloc w l1 t1).ext h (by simp), (Ext.alloc _ _).trans h, by have := Below.size h; simpa using this⟩
theorem box2 (w : World) (l1 l2 : List Value) (t1 t2 : TypeId) {w1 : World} (h : Ext ((w.alloc (.cells l1.toArray t1)).alloc (.cells l2.toArray t2)) w1) : Blk w1 w.heap.size l1 ∧ Blk w1 (w.heap.size + 1) l2 ∧ Ext w w1 ∧ w.heap.size + 2 ≤ w1.heap.size := by
 obtain ⟨a, b, c⟩ := box1 _ _ _ h
 obtain ⟨d, e, f⟩ := box1 w l1 t1 b
 rw [World.size_alloc] at a c
 exact ⟨d, a, e, c⟩
theorem box3 (w : World) (l1 l2 l3 : List Value) (t1 t2 t3 : TypeId) {w1 : World} (h : Ext (((w.alloc (.cells l1.toArray t1)).alloc (.cells l2.toArray t2)).alloc (.cells l3.toArray t3)) w1) : Blk w1 w.heap.size l1 ∧ Blk w1 (w.heap.size + 1) l2 ∧ Blk w1 (w.heap.size + 1 + 1) l3 ∧ Ext w w1 ∧ w.heap.size + 3 ≤ w1.heap.size := by
 obtain ⟨a, b, c⟩ := box1 _ _ _ h
 obtain ⟨d, e, f, g⟩ := box2 w l1 l2 t1 t2 b
 simp only [World.size_alloc] at a c
 exact ⟨d, e, a, f, c⟩
theorem box4 (w : World) (l1 l2 l3 l4 : List Value) (t1 t2 t3 t4 : TypeId) {w1 : World} (h : Ext ((((w.alloc (.cells l1.toArray t1)).alloc (.cells l2.toArray t2)).alloc (.cells l3.toArray t3)).alloc (.cells l4.toArray t4)) w1) : Blk w1 w.heap.size l1 ∧ Blk w1 (w.heap.size + 1) l2 ∧ Blk w1 (w.heap.size + 1 + 1) l3 ∧ Blk w1 (w.heap.size + 1 + 1 + 1) l4 ∧ Ext w w1 ∧ w.heap.size + 4 ≤ w1.heap.size := by
 obtain ⟨a, b, c⟩ := box1 _ _ _ h
 obtain ⟨d, e, f, g, i⟩ := box3 w l1 l2 l3 t1 t2 t3 b
 simp only [World.size_alloc] at a c
 exact ⟨d, e, f, a, g, c⟩
theorem Grw.putL {X : Nat → Prop} {V : World} {C : Nat} (hx : X C) : ∀ (vs : List Value) (i : Nat) (w : World), Grw X V w → Grw X V (putL C i vs w)
 | [], _, _, h => h
 | v :: vs, i, w, h => Grw.putL hx vs (i + 1) _ (h.trans (Grw.of_touch ((Touch.refl C w).set i v) hx))
theorem two_alloc {V w2 w3 w4 : World} {z z' : List Value} {t t' : TypeId} (h2 : Ext V w2) (h3 : Ext (w2.alloc (.cells z.toArray t)) w3) (h4 : Ext (w3.alloc (.cells z'.toArray t')) w4) :
  Blk w4 w2.heap.size z ∧ Blk w4 w3.heap.size z' ∧ Ext V w4 ∧ V.heap.size ≤ w2.heap.size ∧ V.heap.size ≤ w3.heap.size ∧ w2.heap.size ≠ w3.heap.size ∧ w2.heap.size < w4.heap.size ∧ w3.heap.size < w4.heap.size := by
 obtain ⟨a, b, c⟩ := box1 _ _ _ h3
 obtain ⟨d, e, f⟩ := box1 _ _ _ h4
 have := Below.size h2
 have s3 := Below.size h3
 simp at s3
 exact ⟨a.ext e (by omega), d, (h2.trans b).trans e, this, by omega, by omega, by have := Below.size e; omega, by omega⟩
theorem two_put {V w4 w5 w6 : World} {S T : Nat} {z u v : List Value} (lu : u.length = z.length) (lv : v.length = z.length) (BS : Blk w4 S z) (BT : Blk w4 T z) (hV : Ext V w4) (lS : V.heap.size ≤ S) (lT : V.heap.size ≤ T) (ne : S ≠ T) (sS : S < w4.heap.size) (sT : T < w4.heap.size)
  (h5 : Ext (putL S 0 u w4) w5) (h6 : Ext (putL T 0 v w5) w6) : Blk w6 S u ∧ Blk w6 T v ∧ Ext V w6 ∧ S < w6.heap.size ∧ T < w6.heap.size := by
 have s5 := Below.size h5
 have s6 := Below.size h6
 rw [size_putL] at s5 s6
 have x5 : Ext V w5 := (hV.putL lS u).trans h5
 refine ⟨((((BS.put u lu).ext h5 (by rw [size_putL]; exact sS))).put_other v ne).ext h6 (by rw [size_putL]; omega), (((BT.put_other u ne.symm).ext h5 (by rw [size_putL]; exact sT)).put v lv).ext h6 (by rw [size_putL]; omega), (x5.putL lT v).trans h6, by omega, by omega⟩
end
section
open Go.RowKit
theorem byts_one (f : Nat → Int) (n : Nat) : ∀ u ∈ byts f n, u.oneCell' = true := by
 intro u hu
 obtain ⟨i, -, rfl⟩ := List.mem_map.1 hu
 rfl
theorem run_append_nothing {P : Program} {w : World} (base : Nat) (t ty e : TypeId) (i : TypeInfo) (size : Nat) (ht : P.underlying t = some (.slice e)) (hi : P.info? e = some i)
  (v : Value) (n c : Nat) (xs : List Value) (hown : w.ownsRow base e size v n xs) :
  (Builtin.append_ #[t, t] ty #[v, .slice none 0 c]).run P w = .ok v w := by
 rcases hown.2 with ⟨rfl, rfl⟩ | ⟨g, cap, cur, rfl, _, _, hnc, _⟩
 ·simp [Builtin.append_, run_underlying ht, sizeOf, typeInfo, hi, Builtin.lenOf, Builtin.firstCells]
 ·simp [Builtin.append_, run_underlying ht, sizeOf, typeInfo, hi, Builtin.lenOf, Builtin.firstCells, hnc, storeCells]
theorem wp_append_bs {o : Oper} {a0 : Act} {K : Act → World → Prop} {Q : Exit → Act → World → Prop} {w : World} (s x : Operand)
  (ho : o.op = .call { callee := .builtin .append, args := #[s, x], argTypes := #[37, 37] })
  (base : Nat) (v : Value) (n : Nat) (xs : List Value) (hs : a0.eval s = v) (hown : w.ownsRow base 5 1 v n xs)
  (a : Option Addr) (b off m c : Nat) (f : Nat → Int) (hx : a0.eval x = .slice a m c) (hB : BSeg w a b off m f) (hlen : n + m ≤ 1099511627776) (hbase : base ≤ w.heap.size)
  (h : ∀ v' w', w'.ownsRow base 5 1 v' (n + m) (xs ++ byts f m) → Below base w w' → K (a0.put o.dst v') w') : o.wp Tryz.prog a0 w K Q := by
 obtain ⟨i0, hi, hz0, hz1, hz2⟩ := info_parts Tryz.info5
 have hml : n + m ≤ maxLen := by unfold maxLen; omega
 cases a with
 | none =>
  have hm : m = 0 := by
   cases m with
   | zero => rfl
   | succ m => have := hB.at' (Nat.succ_pos _); cases this
  subst hm
  have hr := run_append_nothing (P := Tryz.prog) base 37 o.type 5 i0 1 Tryz.underlying37 hi v n c xs hown
  unfold Oper.wp
  simp [execOp, ho, resolve, invoke, builtin, hs, hx, hr, Result.andThen]
  exact h v w (by rw [show byts f 0 = [] from rfl, List.append_nil]; exact hown) (Below.refl _ _)
 | some ad =>
  refine wp_append_own w s x 37 ho base 5 i0 (.int .u8 0) 1 1 Tryz.underlying37 hi hz0 hz1 hz2 rfl (by decide) v n xs hs hown ad m c (byts f m) hx (by rw [byts_length, Nat.mul_one]) ?_ (byts_one f m) hml (by omega) hbase ?_
  ·intro j u hj
   have hjm : j < m := by have := (List.getElem?_eq_some_iff.1 hj).1; rwa [byts_length] at this
   have := hB.at' (by omega)
   obtain rfl := Option.some.inj this
   rw [show (byts f m)[j]? = some (.int .u8 (f j)) by simp [byts, hjm]] at hj
   obtain rfl := Option.some.inj hj
   have e : Addr.add ⟨b, off, none⟩ j = ⟨b, off + j, none⟩ := by
    by_cases h0 : j = 0
    ·subst h0; simp [Addr.add]
    ·simp [Addr.add, h0]
   rw [e]
   exact hB.cell j hjm
  ·intro v' w' h1 h2 h3
   exact h v' w' h1 ((Below.refl base w).grown h2 hbase (fun k hk => (hown.lt k hk).1))
theorem wpList_append_bs {ops : Array Oper} {rest : List Oper} {o : Oper} {a0 : Act} {Q : Exit → Act → World → Prop} {w : World} (hgd : o.guard = none) (s x : Operand)
  (ho : o.op = .call { callee := .builtin .append, args := #[s, x], argTypes := #[37, 37] })
  (base : Nat) (v : Value) (n : Nat) (xs : List Value) (hs : a0.eval s = v) (hown : w.ownsRow base 5 1 v n xs)
  (a : Option Addr) (b off m c : Nat) (f : Nat → Int) (hx : a0.eval x = .slice a m c) (hB : BSeg w a b off m f) (hlen : n + m ≤ 1099511627776) (hbase : base ≤ w.heap.size)
  (h : ∀ v' w', w'.ownsRow base 5 1 v' (n + m) (xs ++ byts f m) → Below base w w' → wpList Tryz.prog ops Q rest (a0.put o.dst v') w') : wpList Tryz.prog ops Q (o :: rest) a0 w :=
 wpList_plain hgd fun K hK => wp_append_bs s x ho base v n xs hs hown a b off m c f hx hB hlen hbase fun v' w' h1 h2 => hK _ _ (h v' w' h1 h2)
def GivesR (w : World) (n : Nat) (f : Nat → Int) (e : Ending) (w' : World) : Prop :=
 ∃ v, e = .returned v ∧ w'.ownsRow w.heap.size 5 1 v n (byts f n) ∧ Ext w w'
theorem owns_seg {w : World} {base : Nat} {v : Value} {n : Nat} {f : Nat → Int} (h : w.ownsRow base 5 1 v n (byts f n)) : ∃ a g cap, v = .slice a n cap ∧ base ≤ g ∧ n ≤ cap ∧ cap ≤ 9223372036854775807 ∧ BOwn w a g 0 n f := by
 have h' := h
 rcases h.2 with ⟨rfl, rfl⟩ | ⟨g, cap, cur, rfl, hg, hb, hn, hm, hs, ht⟩
 ·exact ⟨none, base, 0, rfl, Nat.le_refl _, Nat.le_refl _, by omega, BOwn.nil _ _ _ _ _⟩
 ·obtain ⟨a, g', cap', hv', hg', hO⟩ := bown_of_owns h'
  simp only [Value.slice.injEq] at hv'
  obtain ⟨rfl, -, rfl⟩ := hv'
  refine ⟨_, g', cap, rfl, hg', hn, by unfold maxLen at hm; omega, hO⟩
set_option maxHeartbeats 800000 in
set_option maxRecDepth 100000 in
theorem clone_any (a : Option Addr) (b off n cap : Nat) (f : Nat → Int) (w : World) (hB : BSeg w a b off n f) (hn : n ≤ 1099511627776) : Calls Tryz.prog 66 #[.slice a n cap] w fun e w' => GivesR w n f e w' := by
 cases a with
 | none =>
  have hm : n = 0 := by
   cases n with
   | zero => rfl
   | succ m => have := hB.at' (Nat.succ_pos _); cases this
  subst hm
  have hq : ∀ w : World, (binOp .eql 37 (.slice none 0 cap) (.slice none 0 0)).run Tryz.prog w = .ok (.bool true) w := fun w => by kernel_rfl
  go_enter Tryz.func66, Tryz.ntmps66
  go_wp2
  go_ret
  exact ⟨_, rfl, World.ownsRow_nil _ _ _ _, Ext.refl _⟩
 | some ad =>
  have hown := World.ownsRow_made (base := w.heap.size) (e := 5) (size := 1) w #[] 0 (Nat.le_refl _) (by simp) rfl
  have hB1 := hB.of_all (Ext.alloc w (.cells #[] 5))
  have Hb := hide hB1
  have Ho := hide hown
  clear hB hB1 hown
  have hq : ∀ w : World, (binOp .eql 37 (.slice (some ad) n cap) (.slice none 0 0)).run Tryz.prog w = .ok (.bool false) w := fun w => by kernel_rfl
  go_enter Tryz.func66, Tryz.ntmps66
  go_wp2_with (at_builtin; refine wpList_append_bs rfl _ _ rfl w.heap.size _ 0 [] rfl Ho.out _ b off n cap f rfl Hb.out (by omega) (by simp) ?_)
  intro v' w1 h1 h2
  have HO := hide h1
  clear h1 Ho Hb
  have HE : Hid (Ext w w1) := hide (((Below.refl _ _).alloc (Nat.le_refl _) _).trans h2)
  clear h2
  go_wp2
  go_ret
  exact ⟨_, rfl, HO.out, HE.out⟩
def wb (x : Int) (i : Nat) : Int := match i with
 | 0 => x / 16777216
 | 1 => x / 65536 % 256
 | 2 => x / 256 % 256
 | _ => x % 256
theorem intz_one (f : Nat → Int) (n : Nat) : ∀ u ∈ ints f n, u.oneCell' = true := by
 intro u hu
 obtain ⟨i, -, rfl⟩ := List.mem_map.1 hu
 rfl
theorem wp_append_is {o : Oper} {a0 : Act} {K : Act → World → Prop} {Q : Exit → Act → World → Prop} {w : World} (s x : Operand)
  (ho : o.op = .call { callee := .builtin .append, args := #[s, x], argTypes := #[23, 23] })
  (base : Nat) (v : Value) (n : Nat) (xs : List Value) (hs : a0.eval s = v) (hown : w.ownsRow base 3 1 v n xs)
  (a : Option Addr) (b off m c : Nat) (f : Nat → Int) (hx : a0.eval x = .slice a m c) (hB : Seg w a b off m f) (hlen : n + m ≤ 1099511627776) (hbase : base ≤ w.heap.size)
  (h : ∀ v' w', w'.ownsRow base 3 1 v' (n + m) (xs ++ ints f m) → Below base w w' → K (a0.put o.dst v') w') : o.wp Tryz.prog a0 w K Q := by
 obtain ⟨i0, hi, hz0, hz1, hz2⟩ := info_parts Tryz.info3
 have hml : n + m ≤ maxLen := by unfold maxLen; omega
 cases a with
 | none =>
  have hm : m = 0 := by
   cases m with
   | zero => rfl
   | succ m => have := hB.at' (Nat.succ_pos _); cases this
  subst hm
  have hr := run_append_nothing (P := Tryz.prog) base 23 o.type 3 i0 1 Tryz.underlying23 hi v n c xs hown
  unfold Oper.wp
  simp [execOp, ho, resolve, invoke, builtin, hs, hx, hr, Result.andThen]
  exact h v w (by rw [show ints f 0 = [] from rfl, List.append_nil]; exact hown) (Below.refl _ _)
 | some ad =>
  refine wp_append_own w s x 23 ho base 3 i0 (.int .i64 0) 1 8 Tryz.underlying23 hi hz0 hz1 hz2 rfl (by decide) v n xs hs hown ad m c (ints f m) hx (by rw [ints_length, Nat.mul_one]) ?_ (intz_one f m) hml (by omega) hbase ?_
  ·intro j u hj
   have hjm : j < m := by have := (List.getElem?_eq_some_iff.1 hj).1; rwa [ints_length] at this
   have := hB.at' (by omega)
   obtain rfl := Option.some.inj this
   rw [show (ints f m)[j]? = some (.int .i64 (f j)) by simp [ints, hjm]] at hj
   obtain rfl := Option.some.inj hj
   have e : Addr.add ⟨b, off, none⟩ j = ⟨b, off + j, none⟩ := by
    by_cases h0 : j = 0
    ·subst h0; simp [Addr.add]
    ·simp [Addr.add, h0]
   rw [e]
   exact hB.cell j hjm
  ·intro v' w' h1 h2 h3
   exact h v' w' h1 ((Below.refl base w).grown h2 hbase (fun k hk => (hown.lt k hk).1))
theorem wpList_append_is {ops : Array Oper} {rest : List Oper} {o : Oper} {a0 : Act} {Q : Exit → Act → World → Prop} {w : World} (hgd : o.guard = none) (s x : Operand)
  (ho : o.op = .call { callee := .builtin .append, args := #[s, x], argTypes := #[23, 23] })
  (base : Nat) (v : Value) (n : Nat) (xs : List Value) (hs : a0.eval s = v) (hown : w.ownsRow base 3 1 v n xs)
  (a : Option Addr) (b off m c : Nat) (f : Nat → Int) (hx : a0.eval x = .slice a m c) (hB : Seg w a b off m f) (hlen : n + m ≤ 1099511627776) (hbase : base ≤ w.heap.size)
  (h : ∀ v' w', w'.ownsRow base 3 1 v' (n + m) (xs ++ ints f m) → Below base w w' → wpList Tryz.prog ops Q rest (a0.put o.dst v') w') : wpList Tryz.prog ops Q (o :: rest) a0 w :=
 wpList_plain hgd fun K hK => wp_append_is s x ho base v n xs hs hown a b off m c f hx hB hlen hbase fun v' w' h1 h2 => hK _ _ (h v' w' h1 h2)
theorem iowns_seg {w : World} {base : Nat} {v : Value} {n : Nat} {f : Nat → Int} (h : w.ownsRow base 3 1 v n (ints f n)) : ∃ a g cap, v = .slice a n cap ∧ base ≤ g ∧ n ≤ cap ∧ cap ≤ 9223372036854775807 ∧ Own w a g 0 n f := by
 have h' := h
 rcases h.2 with ⟨rfl, rfl⟩ | ⟨g, cap, cur, rfl, hg, hb, hn, hm, hs, ht⟩
 ·exact ⟨none, base, 0, rfl, Nat.le_refl _, Nat.le_refl _, by omega, Own.nil _ _ _ _ _⟩
 ·obtain ⟨a, g', cap', hv', hg', hO⟩ := own_of_owns h'
  simp only [Value.slice.injEq] at hv'
  obtain ⟨rfl, -, rfl⟩ := hv'
  refine ⟨_, g', cap, rfl, hg', hn, by unfold maxLen at hm; omega, hO⟩
def nums (F : Nat → Int) (m : Nat) : List Int := (List.range m).map F
theorem conv_seg {w : World} {a : Option Addr} {g o m cap : Nat} {F : Nat → Int} (hs : BSeg w a g o m F) : (convert 37 9 (.slice a m cap)).run Tryz.prog w = .ok (.string (strOfNums (nums F m))) w := by
 by_cases h0 : m = 0
 ·subst h0
  have hz : (convert 37 9 (.slice a 0 cap)).run Tryz.prog w = .ok (.string ByteArray.empty) w := by
   rw [run_convert_bytes_string w 37 9 5 _ 0 cap (by kernel_rfl) (by kernel_rfl) (by kernel_rfl)]
   cases a <;> simp [Conv.bytesToString, loadCells]
   all_goals rfl
  exact hz
 ·obtain rfl := hs.at' (by omega)
  exact run_convert_bytes_arg w 37 5 (by kernel_rfl) (by kernel_rfl) g o m cap (nums F m) (by simp [nums]) (fun i hi => by
   rw [hs.cell i hi]
   simp [nums, hi]) 9 (by kernel_rfl)
def bt (s : ByteArray) (i : Nat) : Nat := (s.get! i).toNat
theorem bt_lt (s : ByteArray) (i : Nat) : bt s i < 256 := UInt8.toNat_lt _
theorem bt_get (s : ByteArray) (i : Nat) (h : i < s.size) : (s[i]'h).toNat = bt s i := by
 unfold bt
 rw [← get_at s i h]
 rfl
structure Rn (s : ByteArray) (p r q : Nat) : Prop where
 dec : Utf8.decode s p = (r, q)
 le : r ≤ 2147483647
 pos : 1 ≤ q
 fits : p + q ≤ s.size
 low : r < 128 → q = 1 ∧ r = bt s p
 high : 128 ≤ r → ∀ j, p ≤ j → j < p + q → 128 ≤ bt s j
theorem cont_high {x : Nat} (h : (x / 64 == 2) = true) : 128 ≤ x := by
 simp at h
 omega
theorem decode_skip (s : ByteArray) (p : Nat) (h : p < s.size) (ha : 128 ≤ bt s p) : p + (Utf8.decode s p).2 ≤ s.size ∧ ∀ j, p ≤ j → j < p + (Utf8.decode s p).2 → 128 ≤ bt s j := by
 have one : p + 1 ≤ s.size ∧ ∀ j, p ≤ j → j < p + 1 → 128 ≤ bt s j := ⟨h, fun j h1 h2 => by
  obtain rfl : j = p := by omega
  exact ha⟩
 have step : ∀ k, (p + k ≤ s.size ∧ ∀ j, p ≤ j → j < p + k → 128 ≤ bt s j) → (decide (p + k < s.size) && (s.get! (p + k)).toNat / 64 == 2) = true → (p + (k + 1) ≤ s.size ∧ ∀ j, p ≤ j → j < p + (k + 1) → 128 ≤ bt s j) := by
  intro k hk hc
  rw [Bool.and_eq_true, decide_eq_true_eq] at hc
  refine ⟨by omega, fun j h1 h2 => ?_⟩
  by_cases e : j = p + k
  ·subst e; exact cont_high hc.2
  ·exact hk.2 j h1 (by omega)
 have hn : ¬ (s.get! (p + 0)).toNat < 128 := by
  have : bt s p = (s.get! (p + 0)).toNat := rfl
  omega
 simp only [Utf8.decode, hn, if_false]
 split
 ·rename_i h1
  simp only [Bool.and_eq_true] at h1
  split
  ·exact step 1 one (by simpa using h1.2)
  ·exact one
 ·split
  ·rename_i h1
   simp only [Bool.and_eq_true] at h1
   split
   ·exact step 2 (step 1 one (by simpa using h1.1.2)) (by simpa using h1.2)
   ·exact one
  ·split
   ·rename_i h1
    simp only [Bool.and_eq_true] at h1
    split
    ·exact step 3 (step 2 (step 1 one (by simpa using h1.1.1.2)) (by simpa using h1.1.2)) (by simpa using h1.2)
    ·exact one
   ·exact one
theorem rn_at (s : ByteArray) (p : Nat) (h : p < s.size) : ∃ r q, Rn s p r q := by
 by_cases ha : bt s p < 128
 ·refine ⟨bt s p, 1, ?_, by omega, Nat.le_refl _, h, fun _ => ⟨rfl, rfl⟩, fun h => by omega⟩
  rw [decode_ascii s p h (by rw [bt_get]; exact ha), bt_get]
 ·obtain ⟨h1, h2⟩ := decode_skip s p h (by omega)
  obtain ⟨h3, h4⟩ := decode_high s p h (by rw [bt_get]; omega)
  have h5 := decode_le s p
  exact ⟨(Utf8.decode s p).1, (Utf8.decode s p).2, rfl, h5, h4, h1, fun h => absurd h3 (Nat.not_le_of_lt h), fun _ => h2⟩
theorem Rn.next {P : Program} {s : ByteArray} {p r q : Nat} (h : Rn s p r q) {w : World} {k : Nat} (hk : w.heap[k]? = some (.stringIter s p)) (hp : p < s.size) (ty : TypeId) :
  (Instr.next (.pointer (some ⟨k, 0, none⟩)) true ty).run P w = .ok (.tuple #[.bool true, .int .i64 (p : Int), .int .i32 (r : Int)]) (w.iterAt k s (p + q)) := by
 rw [Lib.run_next_any_at w k s p ty hk hp, h.dec]
structure Itr (w wr : World) (k : Nat) (s : ByteArray) (p : Nat) : Prop where
 blk : wr.heap[k]? = some (.stringIter s p)
 ge : w.heap.size ≤ k
 ext : Ext w wr
theorem Itr.start {w w1 : World} (h : Ext w w1) (s : ByteArray) : Itr w (w1.iter s 0) w1.heap.size s 0 :=
 ⟨World.iter_heap w1 s 0, Below.size h, Ext.trans h (Ext.alloc _ _)⟩
theorem Itr.step {w wr : World} {k : Nat} {s : ByteArray} {p : Nat} (h : Itr w wr k s p) (p' : Nat) : Itr w (wr.iterAt k s p') k s p' :=
 ⟨Lib.iterAt_heap wr k s p p' h.blk, h.ge, Lib.below_iterAt h.ext h.ge s p'⟩
theorem Itr.pos {w wr : World} {k : Nat} {s : ByteArray} {p : Nat} (h : Itr w wr k s p) : wr.iterPos k = p := iterPos_of h.blk
theorem own_iterAt {w : World} {B e size n : Nat} {v : Value} {xs : List Value} {k : Nat} {s : ByteArray} {pos : Nat} (h : w.ownsRow B e size v n xs) (hk : w.heap[k]? = some (.stringIter s pos)) (pos' : Nat) : (w.iterAt k s pos').ownsRow B e size v n xs := by
 refine ⟨h.1, ?_⟩
 rcases h.2 with h0 | ⟨g, cap, cur, hv, hb, hg, rest⟩
 ·exact .inl h0
 ·refine .inr ⟨g, cap, cur, hv, hb, ?_, rest⟩
  rw [Lib.iterAt_other _ _ _ _ _ (fun e => by subst e; rw [hk] at hg; cases hg)]
  exact hg
theorem Itr.grown {w wr w1 : World} {k : Nat} {s : ByteArray} {p : Nat} (h : Itr w wr k s p) {B e size n : Nat} {v : Value} {xs : List Value} (ho : wr.ownsRow B e size v n xs) (hB : w.heap.size ≤ B) {o : Obj} (hg : (wr.alloc o).grownBy w1 v.ownBlock) : Itr w w1 k s p := by
 have hlt : k < wr.heap.size := (Array.getElem?_eq_some_iff.1 h.blk).1
 refine ⟨?_, h.ge, ?_⟩
 ·rw [hg.block k (by simp; omega) ?_]
  ·show (wr.heap.push o)[k]? = _
   rw [Array.getElem?_push_lt hlt, ← h.blk, Array.getElem?_eq_getElem hlt]
  ·rcases ho.2 with ⟨rfl, _⟩ | ⟨g, cap, cur, rfl, hb, hg', rest⟩
   ·simp [Value.ownBlock]
   ·intro e
    simp only [Value.ownBlock, Option.some.injEq] at e
    subst e
    rw [h.blk] at hg'
    cases hg'
 ·exact (Below.alloc h.ext (Below.size h.ext) o).grown hg (by have := Below.size h.ext; simp; omega) (fun j hj => by have := (ho.lt j hj).1; omega)
def eqS (a b : ByteArray) : Bool := a.toList == b.toList
theorem eqS_iff (a b : ByteArray) : eqS a b = true ↔ a = b := by
 unfold eqS
 rw [beq_iff_eq, ByteArray.toList_eq, ByteArray.toList_eq]
 exact ⟨fun h => ByteArray.ext (Array.ext' h), fun h => by rw [h]⟩
theorem eqS_refl (a : ByteArray) : eqS a a = true := (eqS_iff a a).2 rfl
theorem Tryz.infoS : (Tryz.prog.info? 9).map (fun i => (i.zero, i.size, i.bytes)) = some (some (.string ⟨#[]⟩), 1, 16) := by kernel_rfl
end
section
set_option maxRecDepth 100000
open Go.RowKit
structure SSeg (w : World) (a : Option Addr) (b off n : Nat) (f : Nat → ByteArray) : Prop where
 at' : 0 < n → a = some ⟨b, off, none⟩
 cell : ∀ i, i < n → w.cell? ⟨b, off + i, none⟩ = some (.string (f i))
theorem SSeg.lt {w : World} {a : Option Addr} {b off n : Nat} {f : Nat → ByteArray} (h : SSeg w a b off n f) (hn : 0 < n) : b < w.heap.size := World.block_lt_of_cell? _ _ (h.cell 0 hn)
theorem SSeg.of_all {w w' : World} {a : Option Addr} {b off n : Nat} {f : Nat → ByteArray} (h : SSeg w a b off n f) (e : Ext w w') : SSeg w' a b off n f :=
 ⟨h.at', fun i hi => (Below.cell e (p := ⟨b, off + i, none⟩) (h.lt (by omega))).trans (h.cell i hi)⟩
structure StsIn (w : World) (a : Option Addr) (b off n : Nat) (f : Nat → ByteArray) : Prop where
 seg : SSeg w a b off n f
 small : n ≤ 9223372036854775807
 each : ∀ i, i < n → (f i).size ≤ 9223372036854775807
section
open Go.ChangeShapes Go.WideShapes Go.ChangeAt
variable {H : Type} {enc : TypeId × Value → H} {w : World} {base : Nat} {held : Bool}
set_option maxRecDepth 100000 in
theorem open_strsC {fuel : Nat} {cs : List Value} {x : DataW H × List MemPlace} (h : DataW.trod enc Tryz.prog w base (fun _ => true) held fuel 22 cs = some x) :
  ∃ (a : Option Addr) (b off n cap : Nat) (f : Nat → ByteArray), cs = [.slice a n cap] ∧ StsIn w a b off n f := by
 rcases open_strings Tryz.underlying22 Tryz.underlying9 (by kernel_rfl) h with ⟨hcs, _⟩ | ⟨a, len, cap, ss, hcs, _, hl, hm, hz, _, hcell, hsz⟩
 ·exact ⟨none, 0, 0, 0, 0, fun _ => ⟨#[]⟩, hcs, ⟨⟨fun h => absurd h (Nat.lt_irrefl _), fun i hi => absurd hi (Nat.not_lt_zero _)⟩, Nat.zero_le _, fun i hi => absurd hi (Nat.not_lt_zero _)⟩⟩
 ·simp at hz
  obtain ⟨b, off, spot⟩ := a
  have hmm : len ≤ 9223372036854775807 := by unfold maxLen at hm; omega
  by_cases h0 : len = 0
  ·subst h0
   exact ⟨_, 0, 0, 0, cap, fun _ => ⟨#[]⟩, hcs, ⟨⟨fun h => absurd h (Nat.lt_irrefl _), fun i hi => absurd hi (Nat.not_lt_zero _)⟩, Nat.zero_le _, fun i hi => absurd hi (Nat.not_lt_zero _)⟩⟩
  ·have hspot : spot = none := by simpa [Addr.add] using World.cell?_spot (hcell 0 (by omega))
   subst hspot
   refine ⟨some ⟨b, off, none⟩, b, off, len, cap, fun i => ss.getD i ByteArray.empty, hcs, ⟨⟨fun _ => rfl, fun i hi => ?_⟩, hmm, fun i hi => ?_⟩⟩
   ·have := hcell i (by omega)
    have e : (⟨b, off, none⟩ : Addr).add i = ⟨b, off + i, none⟩ := by
     by_cases h0 : i = 0
     ·subst h0; simp [Addr.add]
     ·simp [Addr.add, h0]
    rwa [e] at this
   ·have hm2 : ss.getD i ByteArray.empty ∈ ss := by
     rw [List.getD_eq_getElem?_getD, List.getElem?_eq_getElem (show i < ss.length by omega)]
     exact List.getElem_mem _
    have := hsz _ hm2
    unfold maxLen at this
    show (ss.getD i ByteArray.empty).size ≤ _
    omega
end
set_option maxHeartbeats 800000 in
theorem szStringS_any (a : Option Addr) (b off n cap : Nat) (f : Nat → ByteArray) (l : Int) (w : World) (hs : StsIn w a b off n f) (l0 : 0 ≤ l) (l1 : l ≤ 1048576) :
  Calls Tryz.prog 18 #[.slice a n cap, .int .i64 l] w fun e w' => (∃ z : Int, e = .returned (.int .i64 z) ∧ -1 ≤ z ∧ z ≤ l ∧ (0 ≤ z → z + (n : Int) ≤ l ∧ ∀ i, i < n → ((f i).size : Int) ≤ l)) ∧ w' = w := by
 have hn := hs.small
 have He := hide hs.each
 have Hs := hide hs.seg
 clear hs
 by_cases h : l < n
 ·have h1 : l - (n : Int) < 0 := by omega
  have h2 : -9223372036854775808 ≤ l - (n : Int) := by omega
  go_enter Tryz.func18, Tryz.ntmps18
  go_wp2
  go_ret
  exact ⟨⟨-1, rfl, by omega, by omega, fun h => by omega⟩, rfl⟩
 ·have h1 : ¬ l - (n : Int) < 0 := by omega
  go_enter Tryz.func18, Tryz.ntmps18
  go_wp2
  go_loopw [1, 5] (fun c i wr => wr = w ∧ ∃ (k : Nat) (z : Int), k ≤ n ∧ i = .int .i64 k ∧ c = .int .i64 z ∧ 0 ≤ z ∧ z + (n : Int) ≤ l ∧ ∀ j, j < k → ((f j).size : Int) ≤ l) (fun _ i _ => n - (intOf i).toNat)
  case atStart => exact ⟨rfl, 0, l - n, Nat.zero_le _, rfl, rfl, by omega, by omega, fun j hj => absurd hj (Nat.not_lt_zero _)⟩
  case round =>
   obtain ⟨rfl, k, z, hk, rfl, rfl, z0, z1, hd⟩ := hrel
   have HD := hide hd
   clear hd
   by_cases hlt : k < n
   ·obtain rfl := Hs.out.at' (by omega)
    have c1 := Hs.out.cell k hlt
    have hsz := He.out k hlt
    have hkn : (k : Int) < (n : Int) := by omega
    have h3 : -9223372036854775808 ≤ z - ((f k).size : Int) := by omega
    by_cases hneg : z - ((f k).size : Int) < 0
    ·go_wp2
     go_ret
     exact ⟨⟨-1, rfl, by omega, by omega, fun h => by omega⟩, rfl⟩
    ·have HX : Hid (((f k).size : Int) ≤ l) := by show _ ≤ _; omega
     go_wp2
     go_roundw
     case rel => exact ⟨trivial, k + 1, _, by omega, by go_num, rfl, by omega, by omega, fun j hj => by
            by_cases e : j = k
            ·subst e; exact HX.out
            ·exact HD.out j (by omega)⟩
     case measure => simp [intOf]; omega
   ·obtain rfl : k = n := by omega
    go_wp2
    go_ret
    exact ⟨⟨z, rfl, by omega, by omega, fun _ => ⟨by omega, HD.out⟩⟩, rfl⟩
structure SCopying (w wr : World) (n k : Nat) (f : Nat → ByteArray) : Prop where
 below : Ext w wr
 size : wr.heap.size = w.heap.size + 1
 row : wr.rowIs w.heap.size 9 n (fun j => .string (if j < k then f j else ⟨#[]⟩))
theorem scopying_start (w : World) (n : Nat) (f : Nat → ByteArray) : SCopying w (w.alloc (.cells (madeCells #[.string ⟨#[]⟩] n) 9)) n 0 f :=
 ⟨Ext.alloc _ _, by simp, (World.rowIs_made w _ n 9).congr (fun j _ => by simp)⟩
theorem scopying_step {w wr : World} {n k : Nat} {f : Nat → ByteArray} (h : SCopying w wr n k f) : SCopying w (wr.setCell ⟨w.heap.size, k, none⟩ (.string (f k))) n (k + 1) f := by
 refine ⟨Below.setCell h.below (Nat.le_refl _) _, by simp [World.setCell, h.size], (h.row.set k _).congr (fun j _ => ?_)⟩
 by_cases e : j = k
 ·subst e; simp
 ·rw [if_neg e]
  by_cases hlt : j < k
  ·rw [if_pos hlt, if_pos (by omega)]
  ·rw [if_neg hlt, if_neg (by omega)]
structure SCopy (w w' : World) (n : Nat) (f : Nat → ByteArray) : Prop where
 below : Ext w w'
 size : w'.heap.size = w.heap.size + 1
 row : w'.rowIs w.heap.size 9 n (fun j => .string (f j))
theorem SCopy.seg {w w' : World} {n : Nat} {f : Nat → ByteArray} (h : SCopy w w' n f) : SSeg w' (some ⟨w.heap.size, 0, none⟩) w.heap.size 0 n f := ⟨fun _ => rfl, fun i hi => by rw [Nat.zero_add]; exact h.row.cell hi⟩
set_option maxHeartbeats 800000 in
theorem toStringS_any (a : Option Addr) (b off n cap : Nat) (f : Nat → ByteArray) (w : World) (hs : SSeg w a b off n f) (hn : n ≤ 1048576) :
  Calls Tryz.prog 26 #[.slice a n cap] w fun e w' => e = .returned (.slice (some ⟨w.heap.size, 0, none⟩) n n) ∧ SCopy w w' n f := by
 have hmk := run_make_row' (P := Tryz.prog) 22 9 (.string ⟨#[]⟩) 16 Tryz.underlying22 Tryz.infoS rfl .i64 .i64 n (by omega) (by omega)
 go_enter Tryz.func26, Tryz.ntmps26
 go_wp2
 clear hmk
 go_loopw [4] (fun i wr => ∃ k : Nat, k ≤ n ∧ i = .int .i64 k ∧ SCopying w wr n k f) (fun i _ => n - (intOf i).toNat)
 case atStart => exact ⟨0, Nat.zero_le _, rfl, scopying_start w n f⟩
 case round =>
  obtain ⟨k, hk, rfl, hI⟩ := hrel
  by_cases hlt : k < n
  ·obtain rfl := hs.at' (by omega)
   have hc : wr.cell? ⟨b, off + k, none⟩ = some (.string (f k)) := (Below.cell hI.below (p := ⟨b, off + k, none⟩) (hs.lt (by omega))).trans (hs.cell k hlt)
   have hd : wr.cell? ⟨w.heap.size, k, none⟩ = some (.string ⟨#[]⟩) := by simpa using hI.row.cell hlt
   have hf : wr.frozen? ⟨w.heap.size, k, none⟩ = false := hI.row.frozen k
   have hkn : (k : Int) < (n : Int) := by omega
   go_wp2
   go_roundw
   case rel => exact ⟨k + 1, by omega, by go_num, scopying_step hI⟩
   case measure => simp [intOf]; omega
  ·obtain rfl : k = n := by omega
   go_wp2
   go_ret
   exact ⟨rfl, ⟨hI.below, hI.size, hI.row.congr (fun j hj => by rw [if_pos hj])⟩⟩
set_option maxHeartbeats 800000 in
theorem eqStringS_same (a : Option Addr) (b off n cap : Nat) (f : Nat → ByteArray) (a2 : Option Addr) (b2 off2 cap2 : Nat) (w : World) (hs : SSeg w a b off n f) (hs2 : SSeg w a2 b2 off2 n f) (hn : n ≤ 1048576) :
  Calls Tryz.prog 36 #[.slice a n cap, .slice a2 n cap2] w fun e w' => e = .returned (.bool true) ∧ Ext w w' := by
 go_enter Tryz.func36, Tryz.ntmps36
 go_wp2
 go_loopw [5] (fun i wr => ∃ k : Nat, k ≤ n ∧ i = .int .i64 k ∧ Ext w wr) (fun i _ => n - (intOf i).toNat)
 case atStart => exact ⟨0, Nat.zero_le _, rfl, Ext.refl _⟩
 case round =>
  obtain ⟨k, hk, rfl, hE⟩ := hrel
  by_cases hlt : k < n
  ·obtain rfl := hs.at' (by omega)
   obtain rfl := hs2.at' (by omega)
   have c1 := (hs.of_all hE).cell k hlt
   have c2 := (hs2.of_all hE).cell k hlt
   have hkn : (k : Int) < (n : Int) := by omega
   have hq : ((f k).toList == (f k).toList) = true := eqS_refl (f k)
   have HE := hide hE
   clear hs hs2 hE
   go_wp2
   go_quiet (fail)
   go_wp2
   go_roundw
   case rel => exact ⟨k + 1, by omega, by go_num, below_drewN HE.out _⟩
   case measure => simp [intOf]; omega
  ·obtain rfl : k = n := by omega
   go_wp2
   go_ret
   exact ⟨rfl, hE⟩
end
section
open Go.RowKit
set_option maxHeartbeats 400000 in
theorem markIntS_any (a : Option Addr) (g off n cap : Nat) (f : Nat → Int) (k : Int) (w : World) (hs : Own w a g off n f) (hn : n ≤ 1048576) (hk0 : 0 ≤ k) (hk1 : k ≤ 1073741824) :
  Calls Tryz.prog 16 #[.slice a n cap, .int .i64 k] w fun e w' => e = .returned (.int .i64 (k + n)) ∧ Own w' a g off n (fun i => k + i) ∧ Touch g w w' := by
 go_enter Tryz.func16, Tryz.ntmps16
 go_wp2
 go_loopw [1, 5] (fun t i wr => ∃ j : Nat, j ≤ n ∧ i = .int .i64 j ∧ t = .int .i64 (k + j) ∧ Own wr a g off n (fun i => if i < j then k + i else f i) ∧ Touch g w wr) (fun _ i _ => n - (intOf i).toNat)
 case atStart => exact ⟨0, Nat.zero_le _, rfl, by go_num, hs.congr (fun i _ => by simp), Touch.refl _ _⟩
 case round =>
  obtain ⟨j, hj, rfl, rfl, hO, hT⟩ := hrel
  by_cases hlt : j < n
  ·obtain rfl := hs.at' (by omega)
   have hc := hO.cell j hlt
   have hf := hO.free j hlt
   have hjn : (j : Int) < (n : Int) := by omega
   have hO' := (hO.set hlt (k + j)).congr (f' := fun i => if i < j + 1 then k + i else f i) (fun i _ => by
    by_cases e : i = j
    ·subst e; simp
    ·by_cases h : i < j
     ·simp [e, h, show i < j + 1 by omega]
     ·simp [e, h, show ¬ i < j + 1 by omega])
   have hT' := hT.set (off + j) (.int .i64 (k + j))
   clear hO hT
   go_wp2
   go_roundw
   case rel => exact ⟨j + 1, by omega, by go_num, by go_num, hO', hT'⟩
   case measure => simp [intOf]; omega
  ·obtain rfl : j = n := by omega
   go_wp2
   go_ret
   exact ⟨rfl, hO.congr (fun i hi => by simp [hi]), hT⟩
set_option maxHeartbeats 400000 in
theorem heldIntS_any (a : Option Addr) (g off n cap : Nat) (k : Int) (w : World) (hs : Seg w a g off n (fun i => k + i)) (hn : n ≤ 1048576) (hk0 : 0 ≤ k) (hk1 : k ≤ 1073741824) :
  Calls Tryz.prog 46 #[.slice a n cap, .int .i64 k] w fun e w' => e = .returned (.int .i64 (k + n)) ∧ w' = w := by
 go_enter Tryz.func46, Tryz.ntmps46
 go_wp2
 go_loop [1, 5] (fun t i => ∃ j : Nat, j ≤ n ∧ i = .int .i64 j ∧ t = .int .i64 (k + j)) (fun _ i => n - (intOf i).toNat)
 case atStart => exact ⟨0, Nat.zero_le _, rfl, by go_num⟩
 case round =>
  obtain ⟨j, hj, rfl, rfl⟩ := hrel
  by_cases hlt : j < n
  ·obtain rfl := hs.at' (by omega)
   have hc := hs.cell j hlt
   have hjn : (j : Int) < (n : Int) := by omega
   go_wp2
   go_round
   case rel => exact ⟨j + 1, by omega, by go_num, by go_num⟩
   case measure => simp [intOf]; omega
  ·obtain rfl : j = n := by omega
   go_wp2
   go_ret
   exact ⟨rfl, rfl⟩
set_option maxHeartbeats 400000 in
theorem markByteS_any (a : Option Addr) (g off n cap : Nat) (f : Nat → Int) (k : Int) (w : World) (hs : BOwn w a g off n f) (hn : n ≤ 1048576) (hk0 : 0 ≤ k) (hk1 : k ≤ 1073741824) :
  Calls Tryz.prog 43 #[.slice a n cap, .int .i64 k] w fun e w' => e = .returned (.int .i64 (k + n)) ∧ BOwn w' a g off n (fun i => (k + i) % 256) ∧ Touch g w w' := by
 go_enter Tryz.func43, Tryz.ntmps43
 go_wp2
 go_loopw [1, 5] (fun t i wr => ∃ j : Nat, j ≤ n ∧ i = .int .i64 j ∧ t = .int .i64 (k + j) ∧ BOwn wr a g off n (fun i => if i < j then (k + i) % 256 else f i) ∧ Touch g w wr) (fun _ i _ => n - (intOf i).toNat)
 case atStart => exact ⟨0, Nat.zero_le _, rfl, by go_num, hs.congr (fun i _ => by simp), Touch.refl _ _⟩
 case round =>
  obtain ⟨j, hj, rfl, rfl, hO, hT⟩ := hrel
  by_cases hlt : j < n
  ·obtain rfl := hs.at' (by omega)
   have hc := hO.cell j hlt
   have hf := hO.free j hlt
   have hjn : (j : Int) < (n : Int) := by omega
   have hO' := (hO.set hlt ((k + j) % 256)).congr (f' := fun i => if i < j + 1 then (k + i) % 256 else f i) (fun i _ => by
    by_cases e : i = j
    ·subst e; simp
    ·by_cases h : i < j
     ·simp [e, h, show i < j + 1 by omega]
     ·simp [e, h, show ¬ i < j + 1 by omega])
   have hT' := hT.set (off + j) (.int .u8 ((k + j) % 256))
   clear hO hT
   go_wp2
   go_roundw
   case rel => exact ⟨j + 1, by omega, by go_num, by go_num, hO', hT'⟩
   case measure => simp [intOf]; omega
  ·obtain rfl : j = n := by omega
   go_wp2
   go_ret
   exact ⟨rfl, hO.congr (fun i hi => by simp [hi]), hT⟩
set_option maxHeartbeats 400000 in
theorem heldByteS_any (a : Option Addr) (g off n cap : Nat) (k : Int) (w : World) (hs : BSeg w a g off n (fun i => (k + i) % 256)) (hn : n ≤ 1048576) (hk0 : 0 ≤ k) (hk1 : k ≤ 1073741824) :
  Calls Tryz.prog 48 #[.slice a n cap, .int .i64 k] w fun e w' => e = .returned (.int .i64 (k + n)) ∧ w' = w := by
 go_enter Tryz.func48, Tryz.ntmps48
 go_wp2
 go_loop [1, 5] (fun t i => ∃ j : Nat, j ≤ n ∧ i = .int .i64 j ∧ t = .int .i64 (k + j)) (fun _ i => n - (intOf i).toNat)
 case atStart => exact ⟨0, Nat.zero_le _, rfl, by go_num⟩
 case round =>
  obtain ⟨j, hj, rfl, rfl⟩ := hrel
  by_cases hlt : j < n
  ·obtain rfl := hs.at' (by omega)
   have hc := hs.cell j hlt
   have hjn : (j : Int) < (n : Int) := by omega
   go_wp2
   go_round
   case rel => exact ⟨j + 1, by omega, by go_num, by go_num⟩
   case measure => simp [intOf]; omega
  ·obtain rfl : j = n := by omega
   go_wp2
   go_ret
   exact ⟨rfl, rfl⟩
structure Mkw (S T : Nat) (w w' : World) : Prop where
 os : w'.os = w.os
 tape : w'.tape = w.tape
 output : w'.output = w.output
 size : w.heap.size ≤ w'.heap.size
 same : ∀ q, q < w.heap.size → (q < S ∨ T ≤ q) → w'.heap[q]? = w.heap[q]?
theorem Mkw.refl (S T : Nat) (w : World) : Mkw S T w w := ⟨rfl, rfl, rfl, Nat.le_refl _, fun _ _ _ => rfl⟩
theorem Mkw.trans {S T : Nat} {a b c : World} (h : Mkw S T a b) (k : Mkw S T b c) : Mkw S T a c :=
 ⟨k.os.trans h.os, k.tape.trans h.tape, k.output.trans h.output, Nat.le_trans h.size k.size, fun q h1 h2 => (k.same q (Nat.lt_of_lt_of_le h1 h.size) h2).trans (h.same q h1 h2)⟩
theorem Mkw.of_ext {S T : Nat} {a b : World} (h : Ext a b) : Mkw S T a b := ⟨h.os, h.tape, h.output, Below.size h, fun q h1 _ => Below.block h q h1⟩
theorem Mkw.of_touch {S T g : Nat} {a b : World} (h : Touch g a b) (h1 : S ≤ g) (h2 : g < T) : Mkw S T a b :=
 ⟨h.grown.os, h.grown.tape, h.grown.output, h.grown.size, fun q k1 k2 => h.grown.block q k1 (by simp; omega)⟩
structure SAny (w : World) (a : Option Addr) (g off n : Nat) : Prop where
 at' : 0 < n → a = some ⟨g, off, none⟩
 cell : ∀ i, i < n → ∃ s, w.cell? ⟨g, off + i, none⟩ = some (.string s)
 free : ∀ i, i < n → w.frozen? ⟨g, off + i, none⟩ = false
theorem SAny.lt {w : World} {a : Option Addr} {g off n : Nat} (h : SAny w a g off n) (hn : 0 < n) : g < w.heap.size := by
 obtain ⟨s, hs⟩ := h.cell 0 hn
 exact World.block_lt_of_cell? _ _ hs
theorem SAny.of_blk {w w' : World} {a : Option Addr} {g off n : Nat} (h : SAny w a g off n) (e : 0 < n → w'.heap[g]? = w.heap[g]?) : SAny w' a g off n :=
 ⟨h.at', fun i hi => by
  obtain ⟨s, hs⟩ := h.cell i hi
  exact ⟨s, (World.cell?_of_block (a := ⟨g, off + i, none⟩) (e (by omega))).trans hs⟩, fun i hi => (World.frozen?_of_block (a := ⟨g, off + i, none⟩) (e (by omega))).trans (h.free i hi)⟩
theorem SAny.of_all {w w' : World} {a : Option Addr} {g off n : Nat} (h : SAny w a g off n) (e : Ext w w') : SAny w' a g off n :=
 h.of_blk (fun h0 => Below.block e g (h.lt h0))
theorem SAny.set {w : World} {a : Option Addr} {g off n : Nat} (h : SAny w a g off n) {k : Nat} (hk : k < n) (x : ByteArray) : SAny (w.setCell ⟨g, off + k, none⟩ (.string x)) a g off n := by
 refine ⟨h.at', fun i hi => ?_, fun i hi => by rw [World.frozen?_setCell]; exact h.free i hi⟩
 obtain ⟨s, hs⟩ := h.cell i hi
 by_cases e : i = k
 ·subst e
  exact ⟨x, World.cell?_setCell_same _ _ _ hs⟩
 ·exact ⟨s, by rw [World.cell?_setCell_other _ _ _ _ (fun h => by have := congrArg Addr.off h; simp at this; omega), hs]⟩
theorem Mkw.set {S T g : Nat} {w wr : World} (h : Mkw S T w wr) (i : Nat) (v : Value) (h1 : S ≤ g) (h2 : g < T) : Mkw S T w (wr.setCell ⟨g, i, none⟩ v) :=
 h.trans ⟨rfl, rfl, rfl, by simp [World.setCell], fun q k1 k2 => Below.heap_setCell _ _ _ _ (by show q ≠ g; omega)⟩
theorem bseg_new1 (w : World) (x : Int) : BSeg (w.alloc (.cells #[.int .u8 x] 5)) (some ⟨w.heap.size, 0, none⟩) w.heap.size 0 1 (fun _ => x) :=
 ⟨fun _ => rfl, fun i hi => by
  obtain rfl : i = 0 := by omega
  exact (Blk.alloc w [.int .u8 x] 5 0 _ rfl).1⟩
theorem str1_size (x : Int) : (strOfNums (nums (fun _ => x) 1)).size = 1 := rfl
theorem cat_size (a b : ByteArray) : (a ++ b).size = a.size + b.size := by simp
theorem w64_small {n : Nat} (h : n ≤ 1099511627776) : wrap64 (n : Int) = n ∧ IntKind.i64.wrap (n : Int) = n := by
 constructor
 ·unfold wrap64; omega
 ·rw [IntKind.wrap_i64]; omega
theorem mt_wraps {r : Nat} (h : r ≤ 10) : wrap64 (48 + (r : Int)) = 48 + r ∧ IntKind.i64.wrap (48 + (r : Int)) = 48 + r ∧ IntKind.u8.wrap (48 + (r : Int)) = 48 + r := by
 refine ⟨by unfold wrap64; omega, by rw [IntKind.wrap_i64]; omega, by rw [IntKind.wrap_u8]; omega⟩
theorem mt_nums {j : Nat} (h : 0 < j) (h1 : j ≤ 1099511627776) : ∃ q r : Nat, q < j ∧ Int.tdiv (j : Int) 10 = (q : Int) ∧ Int.tmod (j : Int) 10 = (r : Int) ∧ wrap64 (48 + (r : Int)) = 48 + r ∧ IntKind.i64.wrap (48 + (r : Int)) = 48 + r ∧ IntKind.u8.wrap (48 + (r : Int)) = 48 + r ∧ wrap64 (q : Int) = q ∧ IntKind.i64.wrap (q : Int) = q ∧ wrap64 (r : Int) = r ∧ IntKind.i64.wrap (r : Int) = r := by
 have a := w64_small (n := j / 10) (by omega)
 have b := w64_small (n := j % 10) (by omega)
 have c := mt_wraps (r := j % 10) (by omega)
 refine ⟨j / 10, j % 10, by omega, ?_, ?_, c.1, c.2.1, c.2.2, a.1, a.2, b.1, b.2⟩
 ·clear a b c
  rw [Int.tdiv_eq_ediv_of_nonneg (by omega)]; omega
 ·clear a b c
  rw [Int.tmod_eq_emod_of_nonneg (by omega)]; omega
end
end Go.Proofs.YtfhiiakoilkbkaaGreatDoor
