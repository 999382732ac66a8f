/- A region that draws its order, step by step, in which calls turn one block C (a cursor): what only reads other memory or lays blocks is taken first, of what else may come up each is gone through. Nothing of the program. Blocks of cells: what lies there, what a store leaves. Nothing of the program. Walks: the laws' own helpers over lists of items: their sizes. Walks: lists of items copied (the laws' own helpers). Numbers: a tree told by a stack of what is still to come, and by places behind its parts. Nothing of the program. Walks: the model's TreeOk. Written by mktrt.py. A range over an iterator that keeps cells of its own between two rounds. What the caller knows lies below the place where the loop began; what the iterator knows lies behind the loop's record; a round turns nothing of both but what lies below. Nothing of the program. Numbers: the program's walk over a tree as a check of what an iterator tells. Nothing of the program. Walks: the program's iterator below: what it tells, whatever its caller does with it. Walks: the program's itemOk. Walks: the program's TreeOk. Walks of the law's marks in bytes: markByteS writes k, k+1, .. by 256 into a slice that may be written; heldByteS finds them there. Walks: the law's own helper markItemS over a copied list of items: it turns nothing but the copy. -/
import Derived.Test.YtmcdikbcmikihaaDoorDz01
import Derived.Lib.QuietBelow
import Derived.Deep.DeepBigQuietO
import Derived.Test.YtmcdikbcmikihaaDoorChecked
import Derived.RangeFuncNested
import Derived.RangeFuncBound
import Derived.RangeFuncCalls
import Derived.RangeFuncLeaves
import Derived.Below
import Derived.Shelf.Abstract
import Derived.Shelf.RegionOpen
import Derived.WalkKit
import Derived.OwnWalkIn
import Derived.TacticsInMore
import Derived.LoopNIn
import Derived.LoopIn
import Derived.Maps.AppendAt
import Derived.Test.YtmcdikbcmikihaaDoorRows
import Derived.ProofKit
import Derived.OpenShut
import Derived.ChangeOld
namespace Go.Proofs.YtmcdikbcmikihaaDoor

section
set_option linter.unusedVariables false

open Go Go.Sort Go.RowKit

/-- w' is w with blocks laid behind it; those that X tells may have turned. -/
structure Grw (X : Nat → Prop) (w w' : World) : Prop where
  os : w'.os = w.os
  tape : w'.tape = w.tape
  output : w'.output = w.output
  size : w.heap.size ≤ w'.heap.size
  block : ∀ k, k < w.heap.size → ¬ X k → w'.heap[k]? = w.heap[k]?

theorem Grw.refl (X : Nat → Prop) (w : World) : Grw X w w := ⟨rfl, rfl, rfl, Nat.le_refl _, fun _ _ _ => rfl⟩

theorem Grw.trans {X : Nat → Prop} {a b c : World} (h : Grw X a b) (k : Grw X b c) : Grw X a c :=
  ⟨k.os.trans h.os, k.tape.trans h.tape, k.output.trans h.output, Nat.le_trans h.size k.size, fun i hi hn => (k.block i (Nat.lt_of_lt_of_le hi h.size) hn).trans (h.block i hi hn)⟩

theorem Grw.mono {X Y : Nat → Prop} {a b : World} (h : Grw X a b) (k : ∀ i, X i → Y i) : Grw Y a b :=
  ⟨h.os, h.tape, h.output, h.size, fun i hi hn => h.block i hi (fun e => hn (k i e))⟩

theorem Grw.of_ext {X : Nat → Prop} {a b : World} (h : Ext a b) : Grw X a b := ⟨h.os, h.tape, h.output, h.size, fun k hk _ => h.block k hk⟩

theorem Grw.of_touch {X : Nat → Prop} {C : Nat} {a b : World} (h : Touch C a b) (hX : X C) : Grw X a b :=
  ⟨h.grown.os, h.grown.tape, h.grown.output, Nat.le_of_eq h.size.symm, fun k hk hn => h.grown.block k hk (by simp; intro e; exact hn (e ▸ hX))⟩

theorem Grw.below {X : Nat → Prop} {S : Nat} {a b : World} (h : Grw X a b) (hS : ∀ k, k < S → ¬ X k) (hl : S ≤ a.heap.size) : Below S a b :=
  ⟨h.os, h.tape, h.output, h.size, fun k hk => h.block k (by omega) (hS k hk)⟩

/-- Such a world. -/
structure ReC (X : Nat → Prop) (w : World) where
  val : World
  ok : Grw X w val

instance (X : Nat → Prop) (w : World) : Inhabited (ReC X w) := ⟨⟨w, .refl X w⟩⟩

theorem cell_reC {X : Nat → Prop} {w : World} {a : Addr} {v : Value} (h : w.cell? a = some v) (hne : ¬ X a.block) (p : ReC X w) : p.val.cell? a = some v := by
  rw [World.cell?_of_block (p.ok.block a.block (block_lt_of_cell h) hne)]; exact h

section

variable {P : Program} {ops : Array Oper} {md : Region.Mode} {Q : Exit → Act → World → Prop}

def anyK (P : Program) (md : Region.Mode) (ops : Array Oper) (Q : Exit → Act → World → Prop) (X : Nat → Prop) (V : World) (f : Nat) (listed : Array Bool) (a : Act) (W : World) : Prop := Grw X V W → anyS P md ops Q (Grw X V) f listed a (Ext W)

theorem kept_grw {X : Nat → Prop} {V W : World} (h : Grw X V W) : Kept (Grw X V) (Ext W) := ⟨fun _ k => h.trans (.of_ext k), fun _ _ h k => h.trans k⟩

theorem anyK_begin {id : Nat} {a : Act} {w : World} {l : List Oper} (X : Nat → Prop) (n : Nat) (hn : l.length = n) (hm : P.follows .mixedOrders = true) (h : anyK P .any l.toArray Q X w n (Array.replicate n false) a w) : (Code.region id l.toArray true).wp P Q a w := by
  subst hn
  refine wp_region_any hm ?_
  have := any_of_S _ _ _ _ _ (show Ext w { w with drawn := w.drawn + 1 } from ⟨rfl, rfl, rfl, Nat.le_refl _, fun _ _ => rfl⟩) (h (Grw.refl X w))
  simpa using this

/-- The walk of the operations that may be taken first. -/
def headC (P : Program) (ops : Array Oper) (X : Nat → Prop) (w : World) (N : Act → Prop) : List Oper → Act → Prop
  | [], a => N a
  | o :: rest, a =>
    if Region.wanted o (yielded ops a.tmps) then ∃ v, (∀ p : ReC X w, o.quietAt P a (fun w'' => ∃ q : Regrown, w'' = grow (redrawn p.val q.d) q.os) p.val v) ∧ headC P ops X w N rest (a.put o.dst v)
    else headC P ops X w N rest (a.put o.dst undef)

theorem headC_nil {X : Nat → Prop} {w : World} {N : Act → Prop} {a : Act} (h : N a) : headC P ops X w N [] a := h

theorem headC_step {X : Nat → Prop} {w : World} {N : Act → Prop} {o : Oper} {rest : List Oper} {a : Act}
    (h : ∀ K : Act → Prop, (∀ a, headC P ops X w N rest a → K a) → if Region.wanted o (yielded ops a.tmps) then ∃ v, (∀ p : ReC X w, o.quietAt P a (fun w'' => ∃ q : Regrown, w'' = grow (redrawn p.val q.d) q.os) p.val v) ∧ K (a.put o.dst v) else K (a.put o.dst undef)) : headC P ops X w N (o :: rest) a :=
  h _ fun _ k => k

theorem takeC_list (hsel : Region.noSelect ops = true) (hQ : ∀ c a d v w, Q (.panic c) (a.put d v) w → Q (.panic c) a w) {X : Nat → Prop} {V W : World} {f : Nat} :
    ∀ (l : List Oper) (k : Nat) (listed : Array Bool) (a : Act), (∀ j, j < l.length → l[j]? = ops[k + j]?) → takeB md ops l.length k listed = true →
    headC P ops X V (fun a' => anyK P md ops Q X V f (setB l.length k listed) a' W) l a → anyK P md ops Q X V (l.length + f) listed a W
  | [], k, listed, a, _, _, h => by
    rw [List.length_nil, Nat.zero_add]
    exact h
  | o :: l, k, listed, a, hl, hB, h => by
    have h0 : ops[k]? = some o := by simpa using (hl 0 (by simp)).symm
    simp only [List.length_cons, takeB, Bool.and_eq_true] at hB
    obtain ⟨⟨hr, hf⟩, hB'⟩ := hB
    have hr' : k ∈ Region.ready md ops listed := by simpa using hr
    have hl' : ∀ j, j < l.length → l[j]? = ops[k + 1 + j]? := fun j hj => by
      have := hl (j + 1) (by simp; omega)
      simpa [Nat.add_assoc, Nat.add_comm 1 j] using this
    rw [List.length_cons, show l.length + 1 + f = (l.length + f) + 1 by omega]
    intro hV
    unfold headC at h
    by_cases hwa : Region.wanted o (yielded ops a.tmps) = true
    · simp only [hwa, if_true] at h
      obtain ⟨v, hv, hrest⟩ := h
      have hy : YieldsE P ops (Grw X V) o v a := Or.inl ⟨hwa, fun w' hw' => by
        exact quiet_up (fun w2 ⟨q, hq⟩ => by rw [hq]; exact below_regrown _ _ _) (hv ⟨w', hw'⟩)⟩
      exact anyS_first h0 (Region.noSelect_spec hsel) (fun c a w => hQ c a _ _ w) _ listed a (Ext W) (kept_grw hV) (Region.free_spec h0 hf) hr' hy (takeC_list hsel hQ l (k + 1) _ _ hl' hB' hrest hV)
    · simp only [hwa] at h
      have hy : YieldsE P ops (Grw X V) o undef a := Or.inr ⟨by simpa using hwa, rfl⟩
      exact anyS_first h0 (Region.noSelect_spec hsel) (fun c a w => hQ c a _ _ w) _ listed a (Ext W) (kept_grw hV) (Region.free_spec h0 hf) hr' hy (takeC_list hsel hQ l (k + 1) _ _ hl' hB' h hV)

/-- n operations from number k on are taken first. -/
theorem anyK_take {l : List Oper} {X : Nat → Prop} {V W : World} {listed : Array Bool} {a : Act} (k n f : Nat) {m : Nat} (hm : n + f = m) (hn : k + n ≤ l.length) (hB : (Region.noSelect l.toArray && takeB md l.toArray n k listed) = true) (hQ : ∀ c a d v w, Q (.panic c) (a.put d v) w → Q (.panic c) a w)
    (h : headC P l.toArray X V (fun a' => anyK P md l.toArray Q X V f (setB n k listed) a' W) ((l.drop k).take n) a) : anyK P md l.toArray Q X V m listed a W := by
  rw [Bool.and_eq_true] at hB
  have hl : ((l.drop k).take n).length = n := by simp; omega
  subst hm
  have := takeC_list (md := md) (P := P) (Q := Q) (X := X) (V := V) (W := W) (f := f) hB.1 hQ ((l.drop k).take n) k listed a (fun j hj => by
    rw [hl] at hj
    simp [hj, List.getElem?_drop]) (by rw [hl]; exact hB.2) (by rw [hl]; exact h)
  rwa [hl] at this

/-- One of those that may come up. -/
def stepK (P : Program) (md : Region.Mode) (ops : Array Oper) (Q : Exit → Act → World → Prop) (X : Nat → Prop) (V : World) (f : Nat) (listed : Array Bool) (i : Nat) (a : Act) (W : World) : Prop :=
  ∀ w, Ext W w → wpOp P ops Q i (fun a' w' => Grw X V w' ∧ anyK P md ops Q X V f (listed.setIfInBounds i true) a' w') a w

theorem anyK_all {X : Nat → Prop} {V W : World} {listed : Array Bool} {a : Act} {f : Nat} (rs : List Nat) (hr : Region.ready md ops listed = rs) (hne : rs ≠ []) (h : ∀ i ∈ rs, stepK P md ops Q X V f listed i a W) : anyK P md ops Q X V (f + 1) listed a W := by
  intro hV
  refine ⟨fun e => absurd (hr ▸ e) hne, fun i hi w hw => wpOp_mono ?_ (h i (hr ▸ hi) w hw)⟩
  rintro a' w' ⟨hx, hk⟩
  exact ⟨Ext w', kept_grw hx, Ext.refl _, hk hx⟩

theorem anyK_done {X : Nat → Prop} {V W : World} {listed : Array Bool} {a : Act} (hr : Region.ready md ops listed = []) (h : ∀ w, Ext W w → Q .normal a w) : ∀ f, anyK P md ops Q X V f listed a W
  | 0 => fun _ => ⟨hr, h⟩
  | _ + 1 => fun _ => ⟨fun _ => h, by rw [hr]; simp⟩

theorem anyK_one {X : Nat → Prop} {V W : World} {listed : Array Bool} {a : Act} {f : Nat} (i : Nat) (hr : Region.ready md ops listed = [i]) (h : stepK P md ops Q X V f listed i a W) : anyK P md ops Q X V (f + 1) listed a W :=
  anyK_all [i] hr (by simp) (fun j hj => by rw [List.mem_singleton.1 hj]; exact h)

theorem anyK_two {X : Nat → Prop} {V W : World} {listed : Array Bool} {a : Act} {f : Nat} (i j : Nat) (hr : Region.ready md ops listed = [i, j]) (h : stepK P md ops Q X V f listed i a W) (k : stepK P md ops Q X V f listed j a W) : anyK P md ops Q X V (f + 1) listed a W :=
  anyK_all [i, j] hr (by simp) (fun l hl => by
    rcases List.mem_cons.1 hl with rfl | hl
    · exact h
    · rw [List.mem_singleton.1 hl]; exact k)

/-- The step itself: the operation is run. -/
theorem stepK_run {X : Nat → Prop} {V W : World} {listed : Array Bool} {a : Act} {f i : Nat} {o : Oper} (hi : ops[i]? = some o)
    (h : ∀ w, Ext W w → ∀ K : Act → World → Prop, (∀ a' w', Grw X V w' → anyK P md ops Q X V f (listed.setIfInBounds i true) a' w' → K a' w') → if Region.wanted o (yielded ops a.tmps) then o.wp P a w K Q else K (a.put o.dst undef) w) : stepK P md ops Q X V f listed i a W := by
  intro w hw
  have k := h w hw (fun a' w' => Grw X V w' ∧ anyK P md ops Q X V f (listed.setIfInBounds i true) a' w') (fun a' w' hx hr => ⟨hx, hr⟩)
  unfold wpOp
  rw [hi]
  by_cases hwa : Region.wanted o (yielded ops a.tmps) = true
  · simp only [hwa, if_true] at k ⊢
    exact Or.inl k
  · simp only [hwa] at k ⊢
    exact k

end
end

section
set_option linter.unusedVariables false

open Go Go.Sort Go.RowKit

/-- Block C holds these, and is not frozen. -/
def Blk (w : World) (C : Nat) (vs : List Value) : Prop := ∀ i v, vs[i]? = some v → w.cell? ⟨C, i, none⟩ = some v ∧ w.frozen? ⟨C, i, none⟩ = false

theorem Blk.below {w w' : World} {C : Nat} {vs : List Value} (h : Blk w C vs) {S : Nat} (hb : Below S w w') (hC : C < S) : Blk w' C vs := fun i v hi =>
  ⟨(hb.cell (p := ⟨C, i, none⟩) hC).trans (h i v hi).1, (hb.frozen (p := ⟨C, i, none⟩) hC).trans (h i v hi).2⟩

theorem Blk.ext {w w' : World} {C : Nat} {vs : List Value} (h : Blk w C vs) (e : Ext w w') (hC : C < w.heap.size) : Blk w' C vs := h.below e hC

theorem Blk.alloc (w : World) (vs : List Value) (t : TypeId) : Blk (w.alloc (.cells vs.toArray t)) w.heap.size vs := fun i v hi => by
  constructor
  · simp [go_sem, hi]
  · simp [go_sem]

/-- These are stored, from place i on. -/
def putL (C : Nat) : Nat → List Value → World → World
  | _, [], w => w
  | i, v :: vs, w => putL C (i + 1) vs (w.setCell ⟨C, i, none⟩ v)

theorem size_putL (C : Nat) : ∀ (vs : List Value) (i : Nat) (w : World), (putL C i vs w).heap.size = w.heap.size
  | [], _, _ => rfl
  | v :: vs, i, w => by rw [putL, size_putL C vs]; simp [World.setCell]

theorem frozen_putL (C : Nat) (q : Addr) : ∀ (vs : List Value) (i : Nat) (w : World), (putL C i vs w).frozen? q = w.frozen? q
  | [], _, _ => rfl
  | v :: vs, i, w => by rw [putL, frozen_putL C q vs]; simp

theorem cell_putL_other (C : Nat) (q : Addr) : ∀ (vs : List Value) (i : Nat) (w : World), (q.block = C → q.off < i) → (putL C i vs w).cell? q = w.cell? q
  | [], _, _, _ => rfl
  | v :: vs, i, w, h => by
    rw [putL, cell_putL_other C q vs (i + 1) _ (fun e => Nat.lt_succ_of_lt (h e))]
    refine World.cell?_setCell_other _ _ _ _ ?_
    rintro rfl
    exact absurd (h rfl) (Nat.lt_irrefl _)

theorem below_putL {S C : Nat} {a : World} (hC : S ≤ C) : ∀ (vs : List Value) (i : Nat) (w : World), Below S a w → Below S a (putL C i vs w)
  | [], _, _, h => h
  | v :: vs, i, w, h => below_putL hC vs (i + 1) _ (h.setCell (p := ⟨C, i, none⟩) hC _)

theorem cell_putL (C : Nat) : ∀ (vs : List Value) (i : Nat) (w : World), (∀ j, j < vs.length → (w.cell? ⟨C, i + j, none⟩).isSome) → ∀ j v, vs[j]? = some v → (putL C i vs w).cell? ⟨C, i + j, none⟩ = some v
  | [], _, _, _, j, v, h => by simp at h
  | x :: vs, i, w, hw, j, v, h => by
    rw [putL]
    cases j with
    | zero =>
      rw [cell_putL_other C _ vs (i + 1) _ (fun _ => by simp)]
      obtain ⟨y, hy⟩ := Option.isSome_iff_exists.1 (hw 0 (by simp))
      simp at h
      subst h
      exact World.cell?_setCell_same _ _ _ hy
    | succ j =>
      have := cell_putL C vs (i + 1) (w.setCell ⟨C, i, none⟩ x) (fun k hk => by
        rw [World.cell?_setCell_other _ _ _ _ (by simp <;> omega)]
        have := hw (k + 1) (by simp; omega)
        rwa [show i + (k + 1) = i + 1 + k by omega] at this) j v (by simpa using h)
      rwa [show i + 1 + j = i + (j + 1) by omega] at this

theorem Blk.put {w : World} {C : Nat} {us : List Value} (h : Blk w C us) (vs : List Value) (hl : vs.length = us.length) : Blk (putL C 0 vs w) C vs := fun i v hi => by
  have hi' : i < us.length := by rw [← hl]; exact (List.getElem?_eq_some_iff.1 hi).1
  constructor
  · have := cell_putL C vs 0 w (fun j hj => by
      rw [hl] at hj
      rw [Nat.zero_add, (h j _ (List.getElem?_eq_getElem hj)).1]; rfl) i v hi
    rwa [Nat.zero_add] at this
  · rw [frozen_putL]
    exact (h i _ (List.getElem?_eq_getElem hi')).2

theorem Blk.put_other {w : World} {C D : Nat} {us : List Value} (h : Blk w D us) (vs : List Value) (hne : D ≠ C) : Blk (putL C 0 vs w) D us := fun i v hi =>
  ⟨(cell_putL_other C _ vs 0 w (fun e => absurd e hne)).trans (h i v hi).1, (frozen_putL C _ vs 0 w).trans (h i v hi).2⟩

theorem Ext.putL {a w : World} (h : Ext a w) {C : Nat} (hC : a.heap.size ≤ C) (vs : List Value) : Ext a (putL C 0 vs w) := below_putL hC vs 0 w h

theorem Ext.alloc (w : World) (o : Obj) : Ext w (w.alloc o) := (Below.refl _ _).alloc (Nat.le_refl _) _

theorem Calls.re_of {P : Program} {f : FuncId} {args : Array Value} {w : World} {v : Value} (h : Calls P f args w fun e w' => e = .returned v ∧ Ext w w') : Calls P f args w fun e w'' => e = .returned v ∧ ∃ q : Regrown, w'' = grow (redrawn w q.d) q.os :=
  h.mono fun e w' k => ⟨k.1, by obtain ⟨p, hp⟩ := regrown_of_below k.2; exact ⟨p, hp⟩⟩

theorem box1 (w : World) (l1 : List Value) (t1 : TypeId) {w1 : World} (h : Ext (w.alloc (.cells l1.toArray t1)) w1) : Blk w1 w.heap.size l1 ∧ Ext w w1 ∧ w.heap.size + 1 ≤ w1.heap.size :=
  ⟨(Blk.alloc w l1 t1).ext h (by simp), (Ext.alloc _ _).trans h, by have := Below.size h; simpa using this⟩

theorem box2 (w : World) (l1 l2 : List Value) (t1 t2 : TypeId) {w1 : World} (h : Ext ((w.alloc (.cells l1.toArray t1)).alloc (.cells l2.toArray t2)) w1) : Blk w1 w.heap.size l1 ∧ Blk w1 (w.heap.size + 1) l2 ∧ Ext w w1 ∧ w.heap.size + 2 ≤ w1.heap.size := by
  obtain ⟨a, b, c⟩ := box1 _ _ _ h
  obtain ⟨d, e, f⟩ := box1 w l1 t1 b
  rw [World.size_alloc] at a c
  exact ⟨d, a, e, c⟩

theorem box3 (w : World) (l1 l2 l3 : List Value) (t1 t2 t3 : TypeId) {w1 : World} (h : Ext (((w.alloc (.cells l1.toArray t1)).alloc (.cells l2.toArray t2)).alloc (.cells l3.toArray t3)) w1) : Blk w1 w.heap.size l1 ∧ Blk w1 (w.heap.size + 1) l2 ∧ Blk w1 (w.heap.size + 1 + 1) l3 ∧ Ext w w1 ∧ w.heap.size + 3 ≤ w1.heap.size := by
  obtain ⟨a, b, c⟩ := box1 _ _ _ h
  obtain ⟨d, e, f, g⟩ := box2 w l1 l2 t1 t2 b
  simp only [World.size_alloc] at a c
  exact ⟨d, e, a, f, c⟩

theorem Grw.putL {X : Nat → Prop} {V : World} {C : Nat} (hx : X C) : ∀ (vs : List Value) (i : Nat) (w : World), Grw X V w → Grw X V (putL C i vs w)
  | [], _, _, h => h
  | v :: vs, i, w, h => Grw.putL hx vs (i + 1) _ (h.trans (Grw.of_touch ((Touch.refl C w).set i v) hx))
end

section
set_option linter.unusedVariables false
set_option linter.unusedSimpArgs false

open Go.RowKit

/-- An item as it lies in memory: two numbers and a list of bytes. -/
structure It where
  tag : Int
  kid : Int
  ad : Option Addr
  blk : Nat
  off : Nat
  len : Nat
  cap : Nat
  f : Nat → Int

def itV (x : It) : Value := .agg #[.int .i64 x.tag, .slice x.ad x.len x.cap, .int .i64 x.kid]

/-- A list of n items. -/
structure ISeg (w : World) (a : Option Addr) (b off n : Nat) (x : Nat → It) : Prop where
  at' : 0 < n → a = some ⟨b, off, none⟩
  c0 : ∀ i, i < n → w.cell? ⟨b, off + i * 3, none⟩ = some (.int .i64 (x i).tag)
  c1 : ∀ i, i < n → w.cell? ⟨b, off + i * 3 + 1, none⟩ = some (.slice (x i).ad (x i).len (x i).cap)
  c2 : ∀ i, i < n → w.cell? ⟨b, off + i * 3 + 2, none⟩ = some (.int .i64 (x i).kid)
  body : ∀ i, i < n → BSeg w (x i).ad (x i).blk (x i).off (x i).len (x i).f
  small : ∀ i, i < n → (x i).len ≤ 9223372036854775807

theorem ISeg.lt {w : World} {a : Option Addr} {b off n : Nat} {x : Nat → It} (h : ISeg w a b off n x) (hn : 0 < n) : b < w.heap.size := World.block_lt_of_cell? _ _ (h.c0 0 hn)

theorem ISeg.of_all {w w' : World} {a : Option Addr} {b off n : Nat} {x : Nat → It} (h : ISeg w a b off n x) (e : Ext w w') : ISeg w' a b off n x :=
  ⟨h.at', fun i hi => (e.cell (p := ⟨b, off + i * 3, none⟩) (h.lt (by omega))).trans (h.c0 i hi), fun i hi => (e.cell (p := ⟨b, off + i * 3 + 1, none⟩) (h.lt (by omega))).trans (h.c1 i hi), fun i hi => (e.cell (p := ⟨b, off + i * 3 + 2, none⟩) (h.lt (by omega))).trans (h.c2 i hi), fun i hi => (h.body i hi).of_all e, h.small⟩

theorem ext_drewN (w : World) (q : Nat) : Ext w (w.drewN q) := ⟨rfl, rfl, rfl, Nat.le_refl _, fun _ _ => rfl⟩

def itEq (x y : It) : Bool := x.tag == y.tag && (x.len == y.len && alike x.f y.f x.len) && x.kid == y.kid

set_option maxHeartbeats 1600000 in
theorem eqItem_any (x y : It) (w : World) (hx : BSeg w x.ad x.blk x.off x.len x.f) (hy : BSeg w y.ad y.blk y.off y.len y.f) (hn : x.len ≤ 1048576) :
    Calls Tryd.prog 25 #[itV x, itV y] w fun e w' => e = .returned (.bool (itEq x y)) ∧ Ext w w' := by
  obtain ⟨V, hV⟩ : ∃ V, (w.alloc (.cells #[.int .i64 x.tag, .slice x.ad x.len x.cap, .int .i64 x.kid] 55)).alloc (.cells #[.int .i64 y.tag, .slice y.ad y.len y.cap, .int .i64 y.kid] 55) = V := ⟨_, rfl⟩
  obtain ⟨B1, B2, hE, -⟩ := box2 w [.int .i64 x.tag, .slice x.ad x.len x.cap, .int .i64 x.kid] [.int .i64 y.tag, .slice y.ad y.len y.cap, .int .i64 y.kid] 55 55 (w1 := V) (by rw [← hV]; exact Ext.refl _)
  have a0 := (B1 0 _ rfl).1
  have a1 := (B1 1 _ rfl).1
  have a2 := (B1 2 _ rfl).1
  have b0 := (B2 0 _ rfl).1
  have b1 := (B2 1 _ rfl).1
  have b2 := (B2 2 _ rfl).1
  have HC := hide (eqByteS_any x.ad x.blk x.off x.len x.cap x.f y.ad y.blk y.off y.len y.cap y.f V (hx.of_all hE) (hy.of_all hE) hn)
  have HE := hide hE
  clear B1 B2 hE hx hy
  obtain ⟨q, hq⟩ : ∃ q, (x.len == y.len && alike x.f y.f x.len) = q := ⟨_, rfl⟩
  have HQ : Hid (itEq x y = (x.tag == y.tag && q && x.kid == y.kid)) := hide (by unfold itEq; rw [hq])
  rw [hq] at HC
  clear hq
  show Calls Tryd.prog 25 #[.agg #[.int .i64 x.tag, .slice x.ad x.len x.cap, .int .i64 x.kid], .agg #[.int .i64 y.tag, .slice y.ad y.len y.cap, .int .i64 y.kid]] w _
  obtain ⟨F, hF⟩ : ∃ F, itEq x y = F := ⟨_, rfl⟩
  rw [hF] at HQ ⊢
  clear hF
  by_cases ht : x.tag = y.tag
  · have ht1 : (x.tag != y.tag) = false := by simp [ht]
    have Ht := hide ht
    clear ht
    go_enter Tryd.func25, Tryd.ntmps25
    go_wp2_with fail
    refine HC.out.mono ?_
    rintro e w1 ⟨rfl, d, rfl⟩
    cases q with
    | false =>
      go_wp2
      go_ret
      exact ⟨ret_bool (by rw [HQ.out]; simp), HE.out.trans (ext_drewN _ _)⟩
    | true =>
      by_cases hk : x.kid = y.kid
      · have hk1 : (x.kid != y.kid) = false := by simp [hk]
        have Hk := hide hk
        clear hk
        go_wp2
        go_ret
        exact ⟨ret_bool (by rw [HQ.out]; simp [Ht.out, Hk.out]), HE.out.trans (ext_drewN _ _)⟩
      · have hk1 : (x.kid != y.kid) = true := by simp [hk]
        go_wp2
        go_ret
        exact ⟨ret_bool (by rw [HQ.out]; simp [hk]), HE.out.trans (ext_drewN _ _)⟩
  · have ht1 : (x.tag != y.tag) = true := by simp [ht]
    go_enter Tryd.func25, Tryd.ntmps25
    go_wp2
    go_ret
    exact ⟨ret_bool (by rw [HQ.out]; simp [ht]), HE.out⟩

/-- The first n of two lists of items are alike. -/
def itsEq (x y : Nat → It) (n : Nat) : Bool := decide (∀ i, i < n → itEq (x i) (y i) = true)

theorem itsEq_yes {x y : Nat → It} {n : Nat} (h : ∀ i, i < n → itEq (x i) (y i) = true) : itsEq x y n = true := decide_eq_true h

theorem itsEq_no {x y : Nat → It} {n k : Nat} (hk : k < n) (h : itEq (x k) (y k) = false) : itsEq x y n = false := decide_eq_false (fun a => by rw [a k hk] at h; cases h)

set_option maxHeartbeats 1600000 in
theorem eqItemS_any (a : Option Addr) (b off n cap : Nat) (x : Nat → It) (a2 : Option Addr) (b2 off2 n2 cap2 : Nat) (y : Nat → It) (w : World) (hs : ISeg w a b off n x) (hs2 : ISeg w a2 b2 off2 n2 y) (hn : n ≤ 1048576) (hl : ∀ i, i < n → (x i).len ≤ 1048576) :
    Calls Tryd.prog 9 #[.slice a n cap, .slice a2 n2 cap2] w fun e w' => e = .returned (.bool (n == n2 && itsEq x y n)) ∧ Ext w w' := by
  by_cases hne : n = n2
  · subst hne
    obtain ⟨F, hF⟩ : ∃ F, (n == n && itsEq x y n) = F := ⟨_, rfl⟩
    have HF : Hid (F = itsEq x y n) := hide (by rw [← hF]; simp)
    rw [hF]
    clear hF
    go_enter Tryd.func9, Tryd.ntmps9
    go_wp2
    go_loopw [5] (fun i wr => ∃ k : Nat, k ≤ n ∧ i = .int .i64 k ∧ (∀ j, j < k → itEq (x j) (y j) = true) ∧ Ext w wr) (fun i _ => n - (intOf i).toNat)
    case atStart => exact ⟨0, Nat.zero_le _, rfl, fun j hj => absurd hj (Nat.not_lt_zero _), Ext.refl _⟩
    case round =>
      obtain ⟨k, hk, rfl, hd, hE⟩ := hrel
      have HD := hide hd
      clear hd
      by_cases hlt : k < n
      · obtain rfl := hs.at' (by omega)
        obtain rfl := hs2.at' (by omega)
        have hs' := hs.of_all hE
        have hs2' := hs2.of_all hE
        have c0 := hs'.c0 k hlt
        have c1 := hs'.c1 k hlt
        have c2 := hs'.c2 k hlt
        have d0 := hs2'.c0 k hlt
        have d1 := hs2'.c1 k hlt
        have d2 := hs2'.c2 k hlt
        obtain ⟨q, hq⟩ : ∃ q, itEq (x k) (y k) = q := ⟨_, rfl⟩
        have HC : Hid (∀ d os, Calls Tryd.prog 25 #[.agg #[.int .i64 (x k).tag, .slice (x k).ad (x k).len (x k).cap, .int .i64 (x k).kid], .agg #[.int .i64 (y k).tag, .slice (y k).ad (y k).len (y k).cap, .int .i64 (y k).kid]] (Sort.grow (redrawn wr d) os) fun e w'' => e = .returned (.bool q) ∧ ∃ p : Regrown, w'' = Sort.grow (redrawn wr p.d) p.os) := fun d os => by
          have := eqItem_any (x k) (y k) (Sort.grow (redrawn wr d) os) ((hs'.body k hlt).of_all (below_regrown wr d os)) ((hs2'.body k hlt).of_all (below_regrown wr d os)) (hl k hlt)
          rw [hq] at this
          exact Calls.regrown_of this
        have HE := hide hE
        clear hs hs' hs2 hs2' hE hl
        have hkn : (k : Int) < (n : Int) := by omega
        have Hq := hide hq
        clear hq
        have k0 := cell_regrown c0
        have k1 := cell_regrown c1
        have k2 := cell_regrown c2
        have k3 := cell_regrown d0
        have k4 := cell_regrown d1
        have k5 := cell_regrown d2
        go_wp2_with fail
        refine wp_region_quiet_below (by kernel_rfl) (by kernel_rfl) ?_
        repeat (first | go_big_quiet_step ((go_at_call 25; exact HC.out _ _)) | quiet_step ((go_at_call 25; exact HC.out _ _)))
        refine wpQuiet_nil ?_
        intro _ hw'
        obtain ⟨⟨dq, osq⟩, hw''⟩ := hw'
        subst hw''
        have HE1 : Hid (Ext wr (Sort.grow (redrawn wr dq) osq)) := hide (below_regrown wr dq osq)
        cases q with
        | true =>
          go_wp2
          go_roundw
          case rel => exact ⟨k + 1, by omega, by go_num, fun j hj => by
                        by_cases e : j = k
                        · subst e; exact Hq.out
                        · exact HD.out j (by omega), HE.out.trans HE1.out⟩
          case measure => simp [intOf]; omega
        | false =>
          go_wp2
          go_ret
          exact ⟨ret_bool (by rw [HF.out, itsEq_no hlt Hq.out]), HE.out.trans HE1.out⟩
      · obtain rfl : k = n := by omega
        go_wp2
        go_ret
        exact ⟨ret_bool (by rw [HF.out, itsEq_yes HD.out]), hE⟩
  · have hb : ((n : Int) != (n2 : Int)) = true := by simp; omega
    go_enter Tryd.func9, Tryd.ntmps9
    go_wp2
    go_ret
    exact ⟨ret_bool (by simp [hne]), Ext.refl _⟩
end

section
set_option linter.unusedVariables false
set_option linter.unusedSimpArgs false

open Go.RowKit

/-- The item with its bytes in block B. -/
def It.at (x : It) (B : Nat) : It := { x with ad := some ⟨B, 0, none⟩, blk := B, off := 0, cap := x.len }
end

section
set_option linter.unusedVariables false
set_option linter.unusedSimpArgs false

open Go.RowKit

/-- An item is well. -/
def itGood (x : It) : Prop := 0 ≤ x.tag ∧ x.tag ≤ 255 ∧ x.tag % 32 ≠ 31 ∧ 0 ≤ x.kid ∧ x.kid ≤ 300 ∧ (x.tag / 32 % 2 = 1 → x.len = 0) ∧ (x.tag / 32 % 2 ≠ 1 → x.kid = 0)

instance (x : It) : Decidable (itGood x) := by unfold itGood; infer_instance

/-- What the program asks of an item. -/
def itP (x : It) : Prop := 0 ≤ x.tag ∧ x.tag ≤ 255 ∧ x.tag % 32 ≠ 31 ∧ (x.tag / 32 % 2 = 1 → 0 ≤ x.kid ∧ x.len = 0) ∧ (x.tag / 32 % 2 ≠ 1 → x.kid = 0)

instance (x : It) : Decidable (itP x) := by unfold itP; infer_instance
end

section
set_option linter.unusedVariables false
set_option linter.unusedSimpArgs false

open Go.RowKit

theorem l7Made_any (t : Int) (w : World) (t0 : 0 ≤ t) (t1 : t ≤ 255) : Calls Tryd.prog 43 #[.int .i64 t] w fun e w' => e = .returned (.bool (decide (t / 32 % 2 = 1))) ∧ w' = w := by
  have e1 : t.tdiv 32 = t / 32 := Int.tdiv_eq_ediv_of_nonneg t0
  have e2 : (t / 32).tmod 2 = t / 32 % 2 := Int.tmod_eq_emod_of_nonneg (by omega)
  go_enter Tryd.func43, Tryd.ntmps43
  go_wp2
  go_ret
  exact ⟨ret_bool (by first | rfl | (rw [Bool.eq_iff_iff]; simp)), rfl⟩
end

section
set_option linter.unusedVariables false
set_option linter.unusedSimpArgs false

open Go Go.RowKit

/-- What is known of the memory below B alone. -/
def Lw (B : Nat) (I : World → Prop) : Prop := ∀ W W', I W → Below B W W' → I W'

/-- A round's word: from B on nothing that lay there has turned, nor what X tells. -/
structure Rd (X : Nat → Prop) (B : Nat) (W W' : World) : Prop where
  os : W'.os = W.os
  tape : W'.tape = W.tape
  output : W'.output = W.output
  size : W.heap.size ≤ W'.heap.size
  same : ∀ k, (B ≤ k ∨ X k) → k < W.heap.size → W'.heap[k]? = W.heap[k]?

theorem Rd.refl (X : Nat → Prop) (B : Nat) (W : World) : Rd X B W W := ⟨rfl, rfl, rfl, Nat.le_refl _, fun _ _ _ => rfl⟩

theorem Rd.trans {X : Nat → Prop} {B : Nat} {A C D : World} (h : Rd X B A C) (k : Rd X B C D) : Rd X B A D :=
  ⟨k.os.trans h.os, k.tape.trans h.tape, k.output.trans h.output, Nat.le_trans h.size k.size, fun i hi hl => (k.same i hi (Nat.lt_of_lt_of_le hl h.size)).trans (h.same i hi hl)⟩

theorem Rd.mono {X : Nat → Prop} {B C : Nat} {A D : World} (h : Rd X B A D) (hc : B ≤ C) : Rd X C A D := ⟨h.os, h.tape, h.output, h.size, fun i hi hl => h.same i (hi.imp (Nat.le_trans hc) id) hl⟩

theorem putObj_below (B : Nat) (W : World) (l : Nat) (o : Obj) (h : B ≤ l) : Below B W (W.putObj l o) :=
  ⟨rfl, rfl, rfl, by simp, fun k hk => World.putObj_heap_other (by omega)⟩
end

section
set_option linter.unusedVariables false
set_option linter.unusedSimpArgs false

open Go.RowKit

/-- One that is told is let through, u being untold. -/
def okAt (x : Nat → It) (u : Int) (p : Nat × Nat) : Prop := itP (x p.1) ∧ p.2 ≤ 12 ∧ (x p.1).kid ≤ u

instance (x : Nat → It) (u : Int) (p : Nat × Nat) : Decidable (okAt x u p) := by unfold okAt; infer_instance
end

section
set_option linter.unusedVariables false
set_option linter.unusedSimpArgs false

open Go.RowKit Go.Shelf

attribute [local go_sem] Oper.semAt_some

/-- Numbers as cells. -/
def iys (L : List Int) : List Value := L.map (.int .i64)

theorem iys_one (x : Int) : ∀ u ∈ [Value.int .i64 x], u.oneCell' = true := by
  intro u hu
  simp at hu
  subst hu
  rfl

/-- What an iterator of n items tells: a place that is one, and how many are around. -/
abbrev Pl (n : Nat) := { p : Nat × Nat // p.1 < n }

theorem below_append {B : Nat} {wr w1 : World} {o : Obj} {e n : Nat} {v : Value} {xs : List Value} (hb : B ≤ wr.heap.size) (ho : wr.ownsRow B e 1 v n xs) (hg : (wr.alloc o).grownBy w1 v.ownBlock) : Below B wr w1 :=
  ((Below.refl B wr).alloc hb o).grown hg (by simp; omega) (fun j hj => (ho.lt j hj).1)

/-- The list less its last. -/
theorem owns_cut {w : World} {B g cap : Nat} {L : List Int} {c : Int} (h : w.ownsRow B 3 1 (.slice (some ⟨g, 0, none⟩) (L ++ [c]).length cap) (L ++ [c]).length (iys (L ++ [c]))) : w.ownsRow B 3 1 (.slice (some ⟨g, 0, none⟩) L.length cap) L.length (iys L) := by
  rcases h.2 with ⟨h0, _⟩ | ⟨g', cap', cur, hv, hb, hg, h1, h2, h3, h4⟩
  · simp at h0
  · simp only [Value.slice.injEq, Option.some.injEq, Addr.mk.injEq] at hv
    obtain ⟨⟨rfl, -, -⟩, -, rfl⟩ := hv
    refine ⟨by simp [iys], .inr ⟨g, cap, cur, rfl, hb, hg, by simp at h1; omega, h2, h3, ?_⟩⟩
    have h5 : cur.toList.take (L.length + 1) = iys (L ++ [c]) := by simpa using h4
    have h6 : (cur.toList.take (L.length + 1)).take L.length = cur.toList.take L.length := by rw [List.take_take, Nat.min_eq_left (by omega)]
    rw [Nat.mul_one, ← h6, h5]
    simp [iys]

theorem owns_last {w : World} {B : Nat} {v : Value} {L : List Int} {c : Int} (h : w.ownsRow B 3 1 v (L ++ [c]).length (iys (L ++ [c]))) :
    ∃ g cap, v = .slice (some ⟨g, 0, none⟩) (L ++ [c]).length cap ∧ B ≤ g ∧ (L ++ [c]).length ≤ cap ∧ cap ≤ 9223372036854775807 ∧ w.cell? ⟨g, L.length, none⟩ = some (.int .i64 c) ∧ w.frozen? ⟨g, L.length, none⟩ = false := by
  have h' := h
  rcases h.2 with ⟨_, h0⟩ | ⟨g, cap, cur, rfl, hb, hg, h1, h2, h3, h4⟩
  · simp at h0
  · refine ⟨g, cap, rfl, hb, h1, by unfold maxLen at h2; omega, ?_, World.ownsRow.frozenAt h' _⟩
    rw [World.ownsRow.cellAt h' L.length (by simp)]
    simp [iys]
end

section
set_option linter.unusedVariables false
set_option linter.unusedSimpArgs false

open Go.RowKit

theorem and32 {x : Int} (h0 : 0 ≤ x) (h1 : x ≤ 255) : (bits .and .i64 x 32 != 0) = decide (x / 32 % 2 = 1) := by
  have h : ∀ n : Nat, n < 256 → (bits .and .i64 (n : Int) 32 != 0) = decide ((n : Int) / 32 % 2 = 1) := by decide +kernel
  have := h x.toNat (by omega)
  rwa [show ((x.toNat : Nat) : Int) = x by omega] at this

theorem and31 {x : Int} (h0 : 0 ≤ x) (h1 : x ≤ 255) : (bits .and .i64 x 31 != 31) = decide (x % 32 ≠ 31) := by
  have h : ∀ n : Nat, n < 256 → (bits .and .i64 (n : Int) 31 != 31) = decide ((n : Int) % 32 ≠ 31) := by decide +kernel
  have := h x.toNat (by omega)
  rwa [show ((x.toNat : Nat) : Int) = x by omega] at this

theorem isMade_any (t : Int) (w : World) (t0 : 0 ≤ t) (t1 : t ≤ 255) : Calls Tryd.prog 35 #[.int .i64 t] w fun e w' => e = .returned (.bool (decide (t / 32 % 2 = 1))) ∧ w' = w := by
  go_enter Tryd.func35, Tryd.ntmps35
  go_wp2
  go_ret
  exact ⟨ret_bool (and32 t0 t1), rfl⟩

theorem tagOk_any (t : Int) (w : World) (t0 : 0 ≤ t) (t1 : t ≤ 255) : Calls Tryd.prog 56 #[.int .i64 t] w fun e w' => e = .returned (.bool (decide (t % 32 ≠ 31))) ∧ w' = w := by
  go_enter Tryd.func56, Tryd.ntmps56
  go_wp2
  go_ret
  exact ⟨ret_bool (and31 t0 t1), rfl⟩
end

section
set_option linter.unusedVariables false
set_option linter.unusedSimpArgs false

open Go.RowKit Go.Shelf

attribute [local go_sem] Oper.semAt_some

theorem cell_set_other {W : World} {k k' o o' : Nat} (v : Value) (h : k ≠ k') : (W.setCell ⟨k, o, none⟩ v).cell? ⟨k', o', none⟩ = W.cell? ⟨k', o', none⟩ :=
  World.cell?_setCell_other _ _ _ _ (fun e => h (by have := congrArg Addr.block e; simp at this; omega))

/-- What TreeOk's own cells hold between two rounds. -/
structure TrI0 (w : World) (v : Int) (a : Option Addr) (n cap : Nat) (W : World) : Prop where
  c2 : W.cell? ⟨w.heap.size + 1 + 1, 0, none⟩ = some (.int .i64 v)
  f2 : W.frozen? ⟨w.heap.size + 1 + 1, 0, none⟩ = false
  c1 : W.cell? ⟨w.heap.size + 1, 0, none⟩ = some (.bool false)
  f1 : W.frozen? ⟨w.heap.size + 1, 0, none⟩ = false
  c0 : W.cell? ⟨w.heap.size, 0, none⟩ = some (.slice a n cap)
  ext : Ext w W

theorem TrI0.low {w : World} {v : Int} {a : Option Addr} {n cap B : Nat} (hB : w.heap.size + 5 ≤ B) {W W' : World} (h : TrI0 w v a n cap W) (k : Below B W W') : TrI0 w v a n cap W' :=
  ⟨(k.cell (p := ⟨w.heap.size + 1 + 1, 0, none⟩) (by simp; omega)).trans h.c2, (k.frozen (p := ⟨w.heap.size + 1 + 1, 0, none⟩) (by simp; omega)).trans h.f2,
   (k.cell (p := ⟨w.heap.size + 1, 0, none⟩) (by simp; omega)).trans h.c1, (k.frozen (p := ⟨w.heap.size + 1, 0, none⟩) (by simp; omega)).trans h.f1,
   (k.cell (p := ⟨w.heap.size, 0, none⟩) (by simp; omega)).trans h.c0, Below.trans h.ext (k.mono (by omega))⟩

theorem TrI0.set1 {w : World} {v : Int} {a : Option Addr} {n cap : Nat} {W : World} (h : TrI0 w v a n cap W) : TrI0 w v a n cap (W.setCell ⟨w.heap.size + 1, 0, none⟩ (.bool false)) :=
  ⟨by rw [cell_set_other _ (by omega)]; exact h.c2, by rw [World.frozen?_setCell]; exact h.f2, World.cell?_setCell_same _ _ _ h.c1, by rw [World.frozen?_setCell]; exact h.f1, by rw [cell_set_other _ (by omega)]; exact h.c0, below_touch h.ext ((Touch.refl (w.heap.size + 1) W).set 0 _) (by omega)⟩
end

section
set_option linter.unusedVariables false

open Go.RowKit

set_option maxHeartbeats 400000 in
theorem markByteS_any (a : Option Addr) (g off n cap : Nat) (f : Nat → Int) (k : Int) (w : World) (hs : BOwn w a g off n f) (hn : n ≤ 1048576) (hk0 : 0 ≤ k) (hk1 : k ≤ 1073741824) :
    Calls Tryd.prog 11 #[.slice a n cap, .int .i64 k] w fun e w' => e = .returned (.int .i64 (k + n)) ∧ BOwn w' a g off n (fun i => (k + i) % 256) ∧ Touch g w w' := by
  go_enter Tryd.func11, Tryd.ntmps11
  go_wp2
  go_loopw [1, 5] (fun t i wr => ∃ j : Nat, j ≤ n ∧ i = .int .i64 j ∧ t = .int .i64 (k + j) ∧ BOwn wr a g off n (fun i => if i < j then (k + i) % 256 else f i) ∧ Touch g w wr) (fun _ i _ => n - (intOf i).toNat)
  case atStart => exact ⟨0, Nat.zero_le _, rfl, by go_num, hs.congr (fun i _ => by simp), Touch.refl _ _⟩
  case round =>
    obtain ⟨j, hj, rfl, rfl, hO, hT⟩ := hrel
    by_cases hlt : j < n
    · obtain rfl := hs.at' (by omega)
      have hc := hO.cell j hlt
      have hf := hO.free j hlt
      have hjn : (j : Int) < (n : Int) := by omega
      have hO' := (hO.set hlt ((k + j) % 256)).congr (f' := fun i => if i < j + 1 then (k + i) % 256 else f i) (fun i _ => by
        by_cases e : i = j
        · subst e; simp
        · by_cases h : i < j
          · simp [e, h, show i < j + 1 by omega]
          · simp [e, h, show ¬ i < j + 1 by omega])
      have hT' := hT.set (off + j) (.int .u8 ((k + j) % 256))
      clear hO hT
      go_wp2
      go_roundw
      case rel => exact ⟨j + 1, by omega, by go_num, by go_num, hO', hT'⟩
      case measure => simp [intOf]; omega
    · obtain rfl : j = n := by omega
      go_wp2
      go_ret
      exact ⟨rfl, hO.congr (fun i hi => by simp [hi]), hT⟩

set_option maxHeartbeats 400000 in
theorem heldByteS_any (a : Option Addr) (g off n cap : Nat) (k : Int) (w : World) (hs : BSeg w a g off n (fun i => (k + i) % 256)) (hn : n ≤ 1048576) (hk0 : 0 ≤ k) (hk1 : k ≤ 1073741824) :
    Calls Tryd.prog 26 #[.slice a n cap, .int .i64 k] w fun e w' => e = .returned (.int .i64 (k + n)) ∧ w' = w := by
  go_enter Tryd.func26, Tryd.ntmps26
  go_wp2
  go_loop [1, 5] (fun t i => ∃ j : Nat, j ≤ n ∧ i = .int .i64 j ∧ t = .int .i64 (k + j)) (fun _ i => n - (intOf i).toNat)
  case atStart => exact ⟨0, Nat.zero_le _, rfl, by go_num⟩
  case round =>
    obtain ⟨j, hj, rfl, rfl⟩ := hrel
    by_cases hlt : j < n
    · obtain rfl := hs.at' (by omega)
      have hc := hs.cell j hlt
      have hjn : (j : Int) < (n : Int) := by omega
      go_wp2
      go_round
      case rel => exact ⟨j + 1, by omega, by go_num, by go_num⟩
      case measure => simp [intOf]; omega
    · obtain rfl : j = n := by omega
      go_wp2
      go_ret
      exact ⟨rfl, rfl⟩
end

section
set_option linter.unusedVariables false
set_option linter.unusedSimpArgs false

open Go.RowKit

/-- Only blocks from S up to T may have turned; none has come. -/
structure MarkT (S T : Nat) (w w' : World) : Prop where
  os : w'.os = w.os
  tape : w'.tape = w.tape
  output : w'.output = w.output
  size : w'.heap.size = w.heap.size
  same : ∀ k, (k < S ∨ T ≤ k) → w'.heap[k]? = w.heap[k]?

theorem MarkT.refl (S T : Nat) (w : World) : MarkT S T w w := ⟨rfl, rfl, rfl, rfl, fun _ _ => rfl⟩

theorem MarkT.trans {S T : Nat} {a b c : World} (h : MarkT S T a b) (k : MarkT S T b c) : MarkT S T a c := ⟨k.os.trans h.os, k.tape.trans h.tape, k.output.trans h.output, k.size.trans h.size, fun i hi => (k.same i hi).trans (h.same i hi)⟩

theorem MarkT.of_touch {S T g : Nat} {w w' : World} (h : Touch g w w') (h1 : S ≤ g) (h2 : g < T) : MarkT S T w w' :=
  ⟨h.grown.os, h.grown.tape, h.grown.output, h.size, fun k hk => by
    by_cases hl : k < w.heap.size
    · exact h.grown.block k hl (by simp; omega)
    · rw [Array.getElem?_eq_none (by rw [h.size]; omega), Array.getElem?_eq_none (by omega)]⟩

theorem MarkT.set {S T g o : Nat} {w w' : World} (h : MarkT S T w w') (h1 : S ≤ g) (h2 : g < T) (v : Value) : MarkT S T w (w'.setCell ⟨g, o, none⟩ v) := h.trans (MarkT.of_touch ((Touch.refl g w').set o v) h1 h2)

theorem MarkT.below {S T B : Nat} {w0 w w' : World} (h : Below B w0 w) (k : MarkT S T w w') (hB : B ≤ S) : Below B w0 w' := h.trans ⟨k.os, k.tape, k.output, by rw [k.size]; exact Nat.le_refl _, fun i hi => k.same i (.inl (by omega))⟩

def sumL (x : Nat → It) : Nat → Nat
  | 0 => 0
  | k + 1 => sumL x k + (x k).len

theorem sumL_mono (x : Nat → It) {j k : Nat} (h : j ≤ k) : sumL x j ≤ sumL x k := by
  induction k with
  | zero => rw [Nat.le_zero.1 h]; exact Nat.le_refl _
  | succ k ih =>
    by_cases e : j = k + 1
    · rw [e]; exact Nat.le_refl _
    · have := ih (by omega); rw [sumL]; omega

/-- A copied list, its items from i on whole. -/
structure Cpy (S n i : Nat) (x : Nat → It) (W : World) : Prop where
  c0 : ∀ j, i ≤ j → j < n → ∃ u, W.cell? ⟨S, j * 3, none⟩ = some (.int .i64 u)
  c1 : ∀ j, i ≤ j → j < n → W.cell? ⟨S, j * 3 + 1, none⟩ = some (.slice (some ⟨S + 4 + 4 * j, 0, none⟩) (x j).len (x j).len)
  c2 : ∀ j, i ≤ j → j < n → ∃ u, W.cell? ⟨S, j * 3 + 2, none⟩ = some (.int .i64 u)
  fz : ∀ o, W.frozen? ⟨S, o, none⟩ = false
  body : ∀ j, i ≤ j → j < n → BOwn W (some ⟨S + 4 + 4 * j, 0, none⟩) (S + 4 + 4 * j) 0 (x j).len (x j).f

theorem Cpy.ext {S n i : Nat} {x : Nat → It} {W W' : World} (h : Cpy S n i x W) (e : Ext W W') (hn : 0 < n) (hi : i < n) : Cpy S n i x W' := by
  have hS : S < W.heap.size := World.block_lt_of_cell? _ _ (h.c1 i (Nat.le_refl _) hi)
  have hb : W'.heap[S]? = W.heap[S]? := Below.block e S hS
  have hc : ∀ o, W'.cell? ⟨S, o, none⟩ = W.cell? ⟨S, o, none⟩ := fun o => World.cell?_of_block (a := ⟨S, o, none⟩) hb
  refine ⟨fun j h1 h2 => ?_, fun j h1 h2 => by rw [hc]; exact h.c1 j h1 h2, fun j h1 h2 => ?_, fun o => by rw [World.frozen?_of_block (a := ⟨S, o, none⟩) hb]; exact h.fz o, fun j h1 h2 => BOwn.of_all (h.body j h1 h2) e⟩
  · rw [hc]; exact h.c0 j h1 h2
  · rw [hc]; exact h.c2 j h1 h2

theorem cell_off {W : World} {S o p : Nat} (v : Value) (h : o ≠ p) : (W.setCell ⟨S, o, none⟩ v).cell? ⟨S, p, none⟩ = W.cell? ⟨S, p, none⟩ :=
  World.cell?_setCell_other _ _ _ _ (fun e => h (by have := congrArg Addr.off e; simp at this; omega))

/-- A store into the item at i. -/
theorem Cpy.set {S n i : Nat} {x : Nat → It} {W : World} (h : Cpy S n i x W) (o : Nat) (ho : o = i * 3 ∨ o = i * 3 + 2) (u : Int) : Cpy S n i x (W.setCell ⟨S, o, none⟩ (.int .i64 u)) := by
  have hb : ∀ j, S + 4 + 4 * j ≠ S := fun j => by omega
  refine ⟨fun j h1 h2 => ?_, fun j h1 h2 => ?_, fun j h1 h2 => ?_, fun o' => by rw [World.frozen?_setCell]; exact h.fz o', fun j h1 h2 => BOwn.touch (h.body j h1 h2) ((Touch.refl S W).set o _) (fun _ => hb j)⟩
  · obtain ⟨v, hv⟩ := h.c0 j h1 h2
    by_cases e : o = j * 3
    · subst e; exact ⟨u, World.cell?_setCell_same _ _ _ hv⟩
    · exact ⟨v, by rw [cell_off _ e]; exact hv⟩
  · rw [cell_off _ (by omega)]; exact h.c1 j h1 h2
  · obtain ⟨v, hv⟩ := h.c2 j h1 h2
    by_cases e : o = j * 3 + 2
    · subst e; exact ⟨u, World.cell?_setCell_same _ _ _ hv⟩
    · exact ⟨v, by rw [cell_off _ e]; exact hv⟩

theorem Cpy.next {S n i : Nat} {x : Nat → It} {W : World} (h : Cpy S n i x W) : Cpy S n (i + 1) x W :=
  ⟨fun j h1 h2 => h.c0 j (by omega) h2, fun j h1 h2 => h.c1 j (by omega) h2, fun j h1 h2 => h.c2 j (by omega) h2, h.fz, fun j h1 h2 => h.body j (by omega) h2⟩

theorem Cpy.old {S n i : Nat} {x : Nat → It} {W : World} (h : Cpy S n i x W) (o : Nat) (ho : o < i * 3) (u : Int) : Cpy S n i x (W.setCell ⟨S, o, none⟩ (.int .i64 u)) := by
  refine ⟨fun j h1 h2 => ?_, fun j h1 h2 => ?_, fun j h1 h2 => ?_, fun o' => by rw [World.frozen?_setCell]; exact h.fz o', fun j h1 h2 => BOwn.touch (h.body j h1 h2) ((Touch.refl S W).set o _) (fun _ => by omega)⟩
  · rw [cell_off _ (by omega)]; exact h.c0 j h1 h2
  · rw [cell_off _ (by omega)]; exact h.c1 j h1 h2
  · rw [cell_off _ (by omega)]; exact h.c2 j h1 h2
end

end Go.Proofs.YtmcdikbcmikihaaDoor
