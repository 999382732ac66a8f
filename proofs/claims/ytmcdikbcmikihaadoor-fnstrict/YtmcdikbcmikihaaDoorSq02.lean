/- A region that draws its order, step by step, in which calls turn one block C (a cursor): what only reads other memory or lays blocks is taken first, of what else may come up each is gone through. Nothing of the program. Blocks of cells: what lies there, what a store leaves. Nothing of the program. Walks: lists of bytes put behind each other: slices.Clone, slices.Grow, slices.Concat, appendWord. Plain facts on the model's bit operations of int: and with 65535, or of what does not meet, shifts. Nothing of the program. Walks of the model's draws: a cursor over bytes: l1Byte, l1Below, l1Once, l1PickInt: each answers some number in its range and turns the cursor alone. Walks: l1New, l1PickInt of the model's draws, and the laws' own big and at. Plain facts: worlds in which the cursor's block may have turned. Nothing of the program. Walks: the laws' own helpers over lists of items: their sizes. Walks: lists of items copied (the laws' own helpers). -/
import Derived.Test.YtmcdikbcmikihaaDoorSq01
import Derived.Lib.AppendZerosOnto
import Derived.Laws.OwnMore
import Derived.WalkKit
import Derived.Test.YtmcdikbcmikihaaDoorChecked
import Derived.Deep.QuietTactic
import Derived.BigQuiet
import Derived.Lib.QuietBelow
import Derived.Deep.DeepBigQuietO
namespace Go.Proofs.YtmcdikbcmikihaaDoor

section
set_option linter.unusedVariables false

open Go Go.Sort Go.RowKit

/-- w' is w with blocks laid behind it; those that X tells may have turned. -/
structure Grw (X : Nat → Prop) (w w' : World) : Prop where
  os : w'.os = w.os
  tape : w'.tape = w.tape
  output : w'.output = w.output
  size : w.heap.size ≤ w'.heap.size
  block : ∀ k, k < w.heap.size → ¬ X k → w'.heap[k]? = w.heap[k]?

theorem Grw.refl (X : Nat → Prop) (w : World) : Grw X w w := ⟨rfl, rfl, rfl, Nat.le_refl _, fun _ _ _ => rfl⟩

theorem Grw.trans {X : Nat → Prop} {a b c : World} (h : Grw X a b) (k : Grw X b c) : Grw X a c :=
  ⟨k.os.trans h.os, k.tape.trans h.tape, k.output.trans h.output, Nat.le_trans h.size k.size, fun i hi hn => (k.block i (Nat.lt_of_lt_of_le hi h.size) hn).trans (h.block i hi hn)⟩

theorem Grw.mono {X Y : Nat → Prop} {a b : World} (h : Grw X a b) (k : ∀ i, X i → Y i) : Grw Y a b :=
  ⟨h.os, h.tape, h.output, h.size, fun i hi hn => h.block i hi (fun e => hn (k i e))⟩

theorem Grw.of_ext {X : Nat → Prop} {a b : World} (h : Ext a b) : Grw X a b := ⟨h.os, h.tape, h.output, h.size, fun k hk _ => h.block k hk⟩

theorem Grw.of_touch {X : Nat → Prop} {C : Nat} {a b : World} (h : Touch C a b) (hX : X C) : Grw X a b :=
  ⟨h.grown.os, h.grown.tape, h.grown.output, Nat.le_of_eq h.size.symm, fun k hk hn => h.grown.block k hk (by simp; intro e; exact hn (e ▸ hX))⟩

theorem Grw.below {X : Nat → Prop} {S : Nat} {a b : World} (h : Grw X a b) (hS : ∀ k, k < S → ¬ X k) (hl : S ≤ a.heap.size) : Below S a b :=
  ⟨h.os, h.tape, h.output, h.size, fun k hk => h.block k (by omega) (hS k hk)⟩

/-- Such a world. -/
structure ReC (X : Nat → Prop) (w : World) where
  val : World
  ok : Grw X w val

instance (X : Nat → Prop) (w : World) : Inhabited (ReC X w) := ⟨⟨w, .refl X w⟩⟩

theorem cell_reC {X : Nat → Prop} {w : World} {a : Addr} {v : Value} (h : w.cell? a = some v) (hne : ¬ X a.block) (p : ReC X w) : p.val.cell? a = some v := by
  rw [World.cell?_of_block (p.ok.block a.block (block_lt_of_cell h) hne)]; exact h

section

variable {P : Program} {ops : Array Oper} {md : Region.Mode} {Q : Exit → Act → World → Prop}

def anyK (P : Program) (md : Region.Mode) (ops : Array Oper) (Q : Exit → Act → World → Prop) (X : Nat → Prop) (V : World) (f : Nat) (listed : Array Bool) (a : Act) (W : World) : Prop := Grw X V W → anyS P md ops Q (Grw X V) f listed a (Ext W)

theorem kept_grw {X : Nat → Prop} {V W : World} (h : Grw X V W) : Kept (Grw X V) (Ext W) := ⟨fun _ k => h.trans (.of_ext k), fun _ _ h k => h.trans k⟩

theorem anyK_begin {id : Nat} {a : Act} {w : World} {l : List Oper} (X : Nat → Prop) (n : Nat) (hn : l.length = n) (hm : P.follows .mixedOrders = true) (h : anyK P .any l.toArray Q X w n (Array.replicate n false) a w) : (Code.region id l.toArray true).wp P Q a w := by
  subst hn
  refine wp_region_any hm ?_
  have := any_of_S _ _ _ _ _ (show Ext w { w with drawn := w.drawn + 1 } from ⟨rfl, rfl, rfl, Nat.le_refl _, fun _ _ => rfl⟩) (h (Grw.refl X w))
  simpa using this

/-- The walk of the operations that may be taken first. -/
def headC (P : Program) (ops : Array Oper) (X : Nat → Prop) (w : World) (N : Act → Prop) : List Oper → Act → Prop
  | [], a => N a
  | o :: rest, a =>
    if Region.wanted o (yielded ops a.tmps) then ∃ v, (∀ p : ReC X w, o.quietAt P a (fun w'' => ∃ q : Regrown, w'' = grow (redrawn p.val q.d) q.os) p.val v) ∧ headC P ops X w N rest (a.put o.dst v)
    else headC P ops X w N rest (a.put o.dst undef)

theorem headC_nil {X : Nat → Prop} {w : World} {N : Act → Prop} {a : Act} (h : N a) : headC P ops X w N [] a := h

theorem headC_step {X : Nat → Prop} {w : World} {N : Act → Prop} {o : Oper} {rest : List Oper} {a : Act}
    (h : ∀ K : Act → Prop, (∀ a, headC P ops X w N rest a → K a) → if Region.wanted o (yielded ops a.tmps) then ∃ v, (∀ p : ReC X w, o.quietAt P a (fun w'' => ∃ q : Regrown, w'' = grow (redrawn p.val q.d) q.os) p.val v) ∧ K (a.put o.dst v) else K (a.put o.dst undef)) : headC P ops X w N (o :: rest) a :=
  h _ fun _ k => k

theorem takeC_list (hsel : Region.noSelect ops = true) (hQ : ∀ c a d v w, Q (.panic c) (a.put d v) w → Q (.panic c) a w) {X : Nat → Prop} {V W : World} {f : Nat} :
    ∀ (l : List Oper) (k : Nat) (listed : Array Bool) (a : Act), (∀ j, j < l.length → l[j]? = ops[k + j]?) → takeB md ops l.length k listed = true →
    headC P ops X V (fun a' => anyK P md ops Q X V f (setB l.length k listed) a' W) l a → anyK P md ops Q X V (l.length + f) listed a W
  | [], k, listed, a, _, _, h => by
    rw [List.length_nil, Nat.zero_add]
    exact h
  | o :: l, k, listed, a, hl, hB, h => by
    have h0 : ops[k]? = some o := by simpa using (hl 0 (by simp)).symm
    simp only [List.length_cons, takeB, Bool.and_eq_true] at hB
    obtain ⟨⟨hr, hf⟩, hB'⟩ := hB
    have hr' : k ∈ Region.ready md ops listed := by simpa using hr
    have hl' : ∀ j, j < l.length → l[j]? = ops[k + 1 + j]? := fun j hj => by
      have := hl (j + 1) (by simp; omega)
      simpa [Nat.add_assoc, Nat.add_comm 1 j] using this
    rw [List.length_cons, show l.length + 1 + f = (l.length + f) + 1 by omega]
    intro hV
    unfold headC at h
    by_cases hwa : Region.wanted o (yielded ops a.tmps) = true
    · simp only [hwa, if_true] at h
      obtain ⟨v, hv, hrest⟩ := h
      have hy : YieldsE P ops (Grw X V) o v a := Or.inl ⟨hwa, fun w' hw' => by
        exact quiet_up (fun w2 ⟨q, hq⟩ => by rw [hq]; exact below_regrown _ _ _) (hv ⟨w', hw'⟩)⟩
      exact anyS_first h0 (Region.noSelect_spec hsel) (fun c a w => hQ c a _ _ w) _ listed a (Ext W) (kept_grw hV) (Region.free_spec h0 hf) hr' hy (takeC_list hsel hQ l (k + 1) _ _ hl' hB' hrest hV)
    · simp only [hwa] at h
      have hy : YieldsE P ops (Grw X V) o undef a := Or.inr ⟨by simpa using hwa, rfl⟩
      exact anyS_first h0 (Region.noSelect_spec hsel) (fun c a w => hQ c a _ _ w) _ listed a (Ext W) (kept_grw hV) (Region.free_spec h0 hf) hr' hy (takeC_list hsel hQ l (k + 1) _ _ hl' hB' h hV)

/-- n operations from number k on are taken first. -/
theorem anyK_take {l : List Oper} {X : Nat → Prop} {V W : World} {listed : Array Bool} {a : Act} (k n f : Nat) {m : Nat} (hm : n + f = m) (hn : k + n ≤ l.length) (hB : (Region.noSelect l.toArray && takeB md l.toArray n k listed) = true) (hQ : ∀ c a d v w, Q (.panic c) (a.put d v) w → Q (.panic c) a w)
    (h : headC P l.toArray X V (fun a' => anyK P md l.toArray Q X V f (setB n k listed) a' W) ((l.drop k).take n) a) : anyK P md l.toArray Q X V m listed a W := by
  rw [Bool.and_eq_true] at hB
  have hl : ((l.drop k).take n).length = n := by simp; omega
  subst hm
  have := takeC_list (md := md) (P := P) (Q := Q) (X := X) (V := V) (W := W) (f := f) hB.1 hQ ((l.drop k).take n) k listed a (fun j hj => by
    rw [hl] at hj
    simp [hj, List.getElem?_drop]) (by rw [hl]; exact hB.2) (by rw [hl]; exact h)
  rwa [hl] at this

/-- One of those that may come up. -/
def stepK (P : Program) (md : Region.Mode) (ops : Array Oper) (Q : Exit → Act → World → Prop) (X : Nat → Prop) (V : World) (f : Nat) (listed : Array Bool) (i : Nat) (a : Act) (W : World) : Prop :=
  ∀ w, Ext W w → wpOp P ops Q i (fun a' w' => Grw X V w' ∧ anyK P md ops Q X V f (listed.setIfInBounds i true) a' w') a w

theorem anyK_all {X : Nat → Prop} {V W : World} {listed : Array Bool} {a : Act} {f : Nat} (rs : List Nat) (hr : Region.ready md ops listed = rs) (hne : rs ≠ []) (h : ∀ i ∈ rs, stepK P md ops Q X V f listed i a W) : anyK P md ops Q X V (f + 1) listed a W := by
  intro hV
  refine ⟨fun e => absurd (hr ▸ e) hne, fun i hi w hw => wpOp_mono ?_ (h i (hr ▸ hi) w hw)⟩
  rintro a' w' ⟨hx, hk⟩
  exact ⟨Ext w', kept_grw hx, Ext.refl _, hk hx⟩

theorem anyK_done {X : Nat → Prop} {V W : World} {listed : Array Bool} {a : Act} (hr : Region.ready md ops listed = []) (h : ∀ w, Ext W w → Q .normal a w) : ∀ f, anyK P md ops Q X V f listed a W
  | 0 => fun _ => ⟨hr, h⟩
  | _ + 1 => fun _ => ⟨fun _ => h, by rw [hr]; simp⟩

theorem anyK_one {X : Nat → Prop} {V W : World} {listed : Array Bool} {a : Act} {f : Nat} (i : Nat) (hr : Region.ready md ops listed = [i]) (h : stepK P md ops Q X V f listed i a W) : anyK P md ops Q X V (f + 1) listed a W :=
  anyK_all [i] hr (by simp) (fun j hj => by rw [List.mem_singleton.1 hj]; exact h)

theorem anyK_two {X : Nat → Prop} {V W : World} {listed : Array Bool} {a : Act} {f : Nat} (i j : Nat) (hr : Region.ready md ops listed = [i, j]) (h : stepK P md ops Q X V f listed i a W) (k : stepK P md ops Q X V f listed j a W) : anyK P md ops Q X V (f + 1) listed a W :=
  anyK_all [i, j] hr (by simp) (fun l hl => by
    rcases List.mem_cons.1 hl with rfl | hl
    · exact h
    · rw [List.mem_singleton.1 hl]; exact k)

/-- The step itself: the operation is run. -/
theorem stepK_run {X : Nat → Prop} {V W : World} {listed : Array Bool} {a : Act} {f i : Nat} {o : Oper} (hi : ops[i]? = some o)
    (h : ∀ w, Ext W w → ∀ K : Act → World → Prop, (∀ a' w', Grw X V w' → anyK P md ops Q X V f (listed.setIfInBounds i true) a' w' → K a' w') → if Region.wanted o (yielded ops a.tmps) then o.wp P a w K Q else K (a.put o.dst undef) w) : stepK P md ops Q X V f listed i a W := by
  intro w hw
  have k := h w hw (fun a' w' => Grw X V w' ∧ anyK P md ops Q X V f (listed.setIfInBounds i true) a' w') (fun a' w' hx hr => ⟨hx, hr⟩)
  unfold wpOp
  rw [hi]
  by_cases hwa : Region.wanted o (yielded ops a.tmps) = true
  · simp only [hwa, if_true] at k ⊢
    exact Or.inl k
  · simp only [hwa] at k ⊢
    exact k

end
end

section
set_option linter.unusedVariables false

open Go Go.Sort Go.RowKit

/-- Block C holds these, and is not frozen. -/
def Blk (w : World) (C : Nat) (vs : List Value) : Prop := ∀ i v, vs[i]? = some v → w.cell? ⟨C, i, none⟩ = some v ∧ w.frozen? ⟨C, i, none⟩ = false

theorem Blk.below {w w' : World} {C : Nat} {vs : List Value} (h : Blk w C vs) {S : Nat} (hb : Below S w w') (hC : C < S) : Blk w' C vs := fun i v hi =>
  ⟨(hb.cell (p := ⟨C, i, none⟩) hC).trans (h i v hi).1, (hb.frozen (p := ⟨C, i, none⟩) hC).trans (h i v hi).2⟩

theorem Blk.ext {w w' : World} {C : Nat} {vs : List Value} (h : Blk w C vs) (e : Ext w w') (hC : C < w.heap.size) : Blk w' C vs := h.below e hC

theorem Blk.alloc (w : World) (vs : List Value) (t : TypeId) : Blk (w.alloc (.cells vs.toArray t)) w.heap.size vs := fun i v hi => by
  constructor
  · simp [go_sem, hi]
  · simp [go_sem]

/-- These are stored, from place i on. -/
def putL (C : Nat) : Nat → List Value → World → World
  | _, [], w => w
  | i, v :: vs, w => putL C (i + 1) vs (w.setCell ⟨C, i, none⟩ v)

theorem size_putL (C : Nat) : ∀ (vs : List Value) (i : Nat) (w : World), (putL C i vs w).heap.size = w.heap.size
  | [], _, _ => rfl
  | v :: vs, i, w => by rw [putL, size_putL C vs]; simp [World.setCell]

theorem frozen_putL (C : Nat) (q : Addr) : ∀ (vs : List Value) (i : Nat) (w : World), (putL C i vs w).frozen? q = w.frozen? q
  | [], _, _ => rfl
  | v :: vs, i, w => by rw [putL, frozen_putL C q vs]; simp

theorem cell_putL_other (C : Nat) (q : Addr) : ∀ (vs : List Value) (i : Nat) (w : World), (q.block = C → q.off < i) → (putL C i vs w).cell? q = w.cell? q
  | [], _, _, _ => rfl
  | v :: vs, i, w, h => by
    rw [putL, cell_putL_other C q vs (i + 1) _ (fun e => Nat.lt_succ_of_lt (h e))]
    refine World.cell?_setCell_other _ _ _ _ ?_
    rintro rfl
    exact absurd (h rfl) (Nat.lt_irrefl _)

theorem below_putL {S C : Nat} {a : World} (hC : S ≤ C) : ∀ (vs : List Value) (i : Nat) (w : World), Below S a w → Below S a (putL C i vs w)
  | [], _, _, h => h
  | v :: vs, i, w, h => below_putL hC vs (i + 1) _ (h.setCell (p := ⟨C, i, none⟩) hC _)

theorem cell_putL (C : Nat) : ∀ (vs : List Value) (i : Nat) (w : World), (∀ j, j < vs.length → (w.cell? ⟨C, i + j, none⟩).isSome) → ∀ j v, vs[j]? = some v → (putL C i vs w).cell? ⟨C, i + j, none⟩ = some v
  | [], _, _, _, j, v, h => by simp at h
  | x :: vs, i, w, hw, j, v, h => by
    rw [putL]
    cases j with
    | zero =>
      rw [cell_putL_other C _ vs (i + 1) _ (fun _ => by simp)]
      obtain ⟨y, hy⟩ := Option.isSome_iff_exists.1 (hw 0 (by simp))
      simp at h
      subst h
      exact World.cell?_setCell_same _ _ _ hy
    | succ j =>
      have := cell_putL C vs (i + 1) (w.setCell ⟨C, i, none⟩ x) (fun k hk => by
        rw [World.cell?_setCell_other _ _ _ _ (by simp <;> omega)]
        have := hw (k + 1) (by simp; omega)
        rwa [show i + (k + 1) = i + 1 + k by omega] at this) j v (by simpa using h)
      rwa [show i + 1 + j = i + (j + 1) by omega] at this

theorem Blk.put {w : World} {C : Nat} {us : List Value} (h : Blk w C us) (vs : List Value) (hl : vs.length = us.length) : Blk (putL C 0 vs w) C vs := fun i v hi => by
  have hi' : i < us.length := by rw [← hl]; exact (List.getElem?_eq_some_iff.1 hi).1
  constructor
  · have := cell_putL C vs 0 w (fun j hj => by
      rw [hl] at hj
      rw [Nat.zero_add, (h j _ (List.getElem?_eq_getElem hj)).1]; rfl) i v hi
    rwa [Nat.zero_add] at this
  · rw [frozen_putL]
    exact (h i _ (List.getElem?_eq_getElem hi')).2

theorem Blk.put_other {w : World} {C D : Nat} {us : List Value} (h : Blk w D us) (vs : List Value) (hne : D ≠ C) : Blk (putL C 0 vs w) D us := fun i v hi =>
  ⟨(cell_putL_other C _ vs 0 w (fun e => absurd e hne)).trans (h i v hi).1, (frozen_putL C _ vs 0 w).trans (h i v hi).2⟩

theorem Ext.putL {a w : World} (h : Ext a w) {C : Nat} (hC : a.heap.size ≤ C) (vs : List Value) : Ext a (putL C 0 vs w) := below_putL hC vs 0 w h

theorem Ext.alloc (w : World) (o : Obj) : Ext w (w.alloc o) := (Below.refl _ _).alloc (Nat.le_refl _) _

theorem Calls.re_of {P : Program} {f : FuncId} {args : Array Value} {w : World} {v : Value} (h : Calls P f args w fun e w' => e = .returned v ∧ Ext w w') : Calls P f args w fun e w'' => e = .returned v ∧ ∃ q : Regrown, w'' = grow (redrawn w q.d) q.os :=
  h.mono fun e w' k => ⟨k.1, by obtain ⟨p, hp⟩ := regrown_of_below k.2; exact ⟨p, hp⟩⟩

theorem box1 (w : World) (l1 : List Value) (t1 : TypeId) {w1 : World} (h : Ext (w.alloc (.cells l1.toArray t1)) w1) : Blk w1 w.heap.size l1 ∧ Ext w w1 ∧ w.heap.size + 1 ≤ w1.heap.size :=
  ⟨(Blk.alloc w l1 t1).ext h (by simp), (Ext.alloc _ _).trans h, by have := Below.size h; simpa using this⟩

theorem box2 (w : World) (l1 l2 : List Value) (t1 t2 : TypeId) {w1 : World} (h : Ext ((w.alloc (.cells l1.toArray t1)).alloc (.cells l2.toArray t2)) w1) : Blk w1 w.heap.size l1 ∧ Blk w1 (w.heap.size + 1) l2 ∧ Ext w w1 ∧ w.heap.size + 2 ≤ w1.heap.size := by
  obtain ⟨a, b, c⟩ := box1 _ _ _ h
  obtain ⟨d, e, f⟩ := box1 w l1 t1 b
  rw [World.size_alloc] at a c
  exact ⟨d, a, e, c⟩

theorem box3 (w : World) (l1 l2 l3 : List Value) (t1 t2 t3 : TypeId) {w1 : World} (h : Ext (((w.alloc (.cells l1.toArray t1)).alloc (.cells l2.toArray t2)).alloc (.cells l3.toArray t3)) w1) : Blk w1 w.heap.size l1 ∧ Blk w1 (w.heap.size + 1) l2 ∧ Blk w1 (w.heap.size + 1 + 1) l3 ∧ Ext w w1 ∧ w.heap.size + 3 ≤ w1.heap.size := by
  obtain ⟨a, b, c⟩ := box1 _ _ _ h
  obtain ⟨d, e, f, g⟩ := box2 w l1 l2 t1 t2 b
  simp only [World.size_alloc] at a c
  exact ⟨d, e, a, f, c⟩

theorem box4 (w : World) (l1 l2 l3 l4 : List Value) (t1 t2 t3 t4 : TypeId) {w1 : World} (h : Ext ((((w.alloc (.cells l1.toArray t1)).alloc (.cells l2.toArray t2)).alloc (.cells l3.toArray t3)).alloc (.cells l4.toArray t4)) w1) : Blk w1 w.heap.size l1 ∧ Blk w1 (w.heap.size + 1) l2 ∧ Blk w1 (w.heap.size + 1 + 1) l3 ∧ Blk w1 (w.heap.size + 1 + 1 + 1) l4 ∧ Ext w w1 ∧ w.heap.size + 4 ≤ w1.heap.size := by
  obtain ⟨a, b, c⟩ := box1 _ _ _ h
  obtain ⟨d, e, f, g, i⟩ := box3 w l1 l2 l3 t1 t2 t3 b
  simp only [World.size_alloc] at a c
  exact ⟨d, e, f, a, g, c⟩

theorem box5 (w : World) (l1 l2 l3 l4 l5 : List Value) (t1 t2 t3 t4 t5 : TypeId) {w1 : World} (h : Ext (((((w.alloc (.cells l1.toArray t1)).alloc (.cells l2.toArray t2)).alloc (.cells l3.toArray t3)).alloc (.cells l4.toArray t4)).alloc (.cells l5.toArray t5)) w1) : Blk w1 w.heap.size l1 ∧ Blk w1 (w.heap.size + 1) l2 ∧ Blk w1 (w.heap.size + 1 + 1) l3 ∧ Blk w1 (w.heap.size + 1 + 1 + 1) l4 ∧ Blk w1 (w.heap.size + 1 + 1 + 1 + 1) l5 ∧ Ext w w1 ∧ w.heap.size + 5 ≤ w1.heap.size := by
  obtain ⟨a, b, c⟩ := box1 _ _ _ h
  obtain ⟨d, e, f, g, i, j⟩ := box4 w l1 l2 l3 l4 t1 t2 t3 t4 b
  simp only [World.size_alloc] at a c
  exact ⟨d, e, f, g, a, i, c⟩

theorem Grw.putL {X : Nat → Prop} {V : World} {C : Nat} (hx : X C) : ∀ (vs : List Value) (i : Nat) (w : World), Grw X V w → Grw X V (putL C i vs w)
  | [], _, _, h => h
  | v :: vs, i, w, h => Grw.putL hx vs (i + 1) _ (h.trans (Grw.of_touch ((Touch.refl C w).set i v) hx))
end

section
set_option linter.unusedVariables false
set_option linter.unusedSimpArgs false

open Go.RowKit

theorem byts_one (f : Nat → Int) (n : Nat) : ∀ u ∈ byts f n, u.oneCell' = true := by
  intro u hu
  obtain ⟨i, -, rfl⟩ := List.mem_map.1 hu
  rfl

theorem byts_congr {f g : Nat → Int} {n : Nat} (h : ∀ i, i < n → f i = g i) : byts f n = byts g n := by
  unfold byts
  refine List.map_congr_left (fun i hi => ?_)
  rw [h i (List.mem_range.1 hi)]

/-- One list behind the other. -/
def catF (f : Nat → Int) (n : Nat) (g : Nat → Int) (i : Nat) : Int := if i < n then f i else g (i - n)

theorem byts_append (f : Nat → Int) (n : Nat) (g : Nat → Int) (m : Nat) : byts f n ++ byts g m = byts (catF f n g) (n + m) := by
  induction m with
  | zero => rw [Nat.add_zero, show byts g 0 = [] from rfl, List.append_nil]; exact byts_congr (fun i hi => by rw [catF, if_pos hi])
  | succ m ih =>
    rw [byts_succ, ← List.append_assoc, ih, ← Nat.add_assoc, byts_succ]
    congr 3
    rw [catF, if_neg (by omega)]
    congr 1
    omega

theorem run_append_nothing {P : Program} {w : World} (base : Nat) (t ty e : TypeId) (i : TypeInfo) (size : Nat) (ht : P.underlying t = some (.slice e)) (hi : P.info? e = some i)
    (v : Value) (n c : Nat) (xs : List Value) (hown : w.ownsRow base e size v n xs) :
    (Builtin.append_ #[t, t] ty #[v, .slice none 0 c]).run P w = .ok v w := by
  rcases hown.2 with ⟨rfl, rfl⟩ | ⟨g, cap, cur, rfl, _, _, hnc, _⟩
  · simp [Builtin.append_, run_underlying ht, sizeOf, typeInfo, hi, Builtin.lenOf, Builtin.firstCells]
  · simp [Builtin.append_, run_underlying ht, sizeOf, typeInfo, hi, Builtin.lenOf, Builtin.firstCells, hnc, storeCells]

/-- An append of bytes, whatever slice they are. -/
theorem wp_append_bs {o : Oper} {a0 : Act} {K : Act → World → Prop} {Q : Exit → Act → World → Prop} {w : World} (s x : Operand)
    (ho : o.op = .call { callee := .builtin .append, args := #[s, x], argTypes := #[22, 22] })
    (base : Nat) (v : Value) (n : Nat) (xs : List Value) (hs : a0.eval s = v) (hown : w.ownsRow base 5 1 v n xs)
    (a : Option Addr) (b off m c : Nat) (f : Nat → Int) (hx : a0.eval x = .slice a m c) (hB : BSeg w a b off m f) (hlen : n + m ≤ 1099511627776) (hbase : base ≤ w.heap.size)
    (h : ∀ v' w', w'.ownsRow base 5 1 v' (n + m) (xs ++ byts f m) → Below base w w' → K (a0.put o.dst v') w') : o.wp Tryd.prog a0 w K Q := by
  obtain ⟨i0, hi, hz0, hz1, hz2⟩ := info_parts Tryd.info5
  have hml : n + m ≤ maxLen := by unfold maxLen; omega
  cases a with
  | none =>
    have hm : m = 0 := by
      cases m with
      | zero => rfl
      | succ m => have := hB.at' (Nat.succ_pos _); cases this
    subst hm
    have hr := run_append_nothing (P := Tryd.prog) base 22 o.type 5 i0 1 Tryd.underlying22 hi v n c xs hown
    unfold Oper.wp
    simp [execOp, ho, resolve, invoke, builtin, hs, hx, hr, Result.andThen]
    exact h v w (by rw [show byts f 0 = [] from rfl, List.append_nil]; exact hown) (Below.refl _ _)
  | some ad =>
    refine wp_append_own w s x 22 ho base 5 i0 (.int .u8 0) 1 1 Tryd.underlying22 hi hz0 hz1 hz2 rfl (by decide) v n xs hs hown ad m c (byts f m) hx (by rw [byts_length, Nat.mul_one]) ?_ (byts_one f m) hml (by omega) hbase ?_
    · intro j u hj
      have hjm : j < m := by have := (List.getElem?_eq_some_iff.1 hj).1; rwa [byts_length] at this
      have := hB.at' (by omega)
      obtain rfl := Option.some.inj this
      rw [show (byts f m)[j]? = some (.int .u8 (f j)) by simp [byts, hjm]] at hj
      obtain rfl := Option.some.inj hj
      have e : Addr.add ⟨b, off, none⟩ j = ⟨b, off + j, none⟩ := by
        by_cases h0 : j = 0
        · subst h0; simp [Addr.add]
        · simp [Addr.add, h0]
      rw [e]
      exact hB.cell j hjm
    · intro v' w' h1 h2 h3
      exact h v' w' h1 ((Below.refl base w).grown h2 hbase (fun k hk => (hown.lt k hk).1))

theorem wpList_append_bs {ops : Array Oper} {rest : List Oper} {o : Oper} {a0 : Act} {Q : Exit → Act → World → Prop} {w : World} (hgd : o.guard = none) (s x : Operand)
    (ho : o.op = .call { callee := .builtin .append, args := #[s, x], argTypes := #[22, 22] })
    (base : Nat) (v : Value) (n : Nat) (xs : List Value) (hs : a0.eval s = v) (hown : w.ownsRow base 5 1 v n xs)
    (a : Option Addr) (b off m c : Nat) (f : Nat → Int) (hx : a0.eval x = .slice a m c) (hB : BSeg w a b off m f) (hlen : n + m ≤ 1099511627776) (hbase : base ≤ w.heap.size)
    (h : ∀ v' w', w'.ownsRow base 5 1 v' (n + m) (xs ++ byts f m) → Below base w w' → wpList Tryd.prog ops Q rest (a0.put o.dst v') w') : wpList Tryd.prog ops Q (o :: rest) a0 w :=
  wpList_plain hgd fun K hK => wp_append_bs s x ho base v n xs hs hown a b off m c f hx hB hlen hbase fun v' w' h1 h2 => hK _ _ (h v' w' h1 h2)

/-- A new list of n bytes, with what lies behind it the call's own. -/
def GivesR (w : World) (n : Nat) (f : Nat → Int) (e : Ending) (w' : World) : Prop :=
  ∃ v, e = .returned v ∧ w'.ownsRow w.heap.size 5 1 v n (byts f n) ∧ Ext w w'

theorem owns_congr {w : World} {base : Nat} {v : Value} {n : Nat} {f g : Nat → Int} (h : w.ownsRow base 5 1 v n (byts f n)) (e : ∀ i, i < n → f i = g i) : w.ownsRow base 5 1 v n (byts g n) := by
  rwa [byts_congr e] at h

theorem owns_mono {w : World} {b b' : Nat} {v : Value} {n : Nat} {xs : List Value} (h : w.ownsRow b 5 1 v n xs) (hb : b' ≤ b) : w.ownsRow b' 5 1 v n xs := by
  refine ⟨h.1, ?_⟩
  rcases h.2 with h | ⟨g, cap, cur, hv, hg, hr⟩
  · exact .inl h
  · exact .inr ⟨g, cap, cur, hv, Nat.le_trans hb hg, hr⟩

theorem owns_ext' {w w' : World} {b : Nat} {v : Value} {n : Nat} {xs : List Value} (h : w.ownsRow b 5 1 v n xs) (he : Ext w w') : w'.ownsRow b 5 1 v n xs := by
  refine ⟨h.1, ?_⟩
  rcases h.2 with h | ⟨g, cap, cur, hv, hg, hr, hr'⟩
  · exact .inl h
  · refine .inr ⟨g, cap, cur, hv, hg, ?_, hr'⟩
    have hlt : g < w.heap.size := by
      have := (Array.getElem?_eq_some_iff.1 hr).1
      exact this
    rw [Below.block he g hlt]; exact hr

/-- Its value is a slice, read as the bytes. -/
theorem owns_seg {w : World} {base : Nat} {v : Value} {n : Nat} {f : Nat → Int} (h : w.ownsRow base 5 1 v n (byts f n)) : ∃ a g cap, v = .slice a n cap ∧ base ≤ g ∧ n ≤ cap ∧ cap ≤ 9223372036854775807 ∧ BOwn w a g 0 n f := by
  have h' := h
  rcases h.2 with ⟨rfl, rfl⟩ | ⟨g, cap, cur, rfl, hg, hb, hn, hm, hs, ht⟩
  · exact ⟨none, base, 0, rfl, Nat.le_refl _, Nat.le_refl _, by omega, BOwn.nil _ _ _ _ _⟩
  · obtain ⟨a, g', cap', hv', hg', hO⟩ := bown_of_owns h'
    simp only [Value.slice.injEq] at hv'
    obtain ⟨rfl, -, rfl⟩ := hv'
    refine ⟨_, g', cap, rfl, hg', hn, by unfold maxLen at hm; omega, hO⟩

set_option maxHeartbeats 800000 in
set_option maxRecDepth 100000 in
theorem clone_any (a : Option Addr) (b off n cap : Nat) (f : Nat → Int) (w : World) (hB : BSeg w a b off n f) (hn : n ≤ 1099511627776) : Calls Tryd.prog 36 #[.slice a n cap] w fun e w' => GivesR w n f e w' := by
  cases a with
  | none =>
    have hm : n = 0 := by
      cases n with
      | zero => rfl
      | succ m => have := hB.at' (Nat.succ_pos _); cases this
    subst hm
    have hq : ∀ w : World, (binOp .eql 22 (.slice none 0 cap) (.slice none 0 0)).run Tryd.prog w = .ok (.bool true) w := fun w => by kernel_rfl
    go_enter Tryd.func36, Tryd.ntmps36
    go_wp2
    go_ret
    exact ⟨_, rfl, World.ownsRow_nil _ _ _ _, Ext.refl _⟩
  | some ad =>
    have hown := World.ownsRow_made (base := w.heap.size) (e := 5) (size := 1) w #[] 0 (Nat.le_refl _) (by simp) rfl
    have hB1 := hB.of_all (Ext.alloc w (.cells #[] 5))
    have Hb := hide hB1
    have Ho := hide hown
    clear hB hB1 hown
    have hq : ∀ w : World, (binOp .eql 22 (.slice (some ad) n cap) (.slice none 0 0)).run Tryd.prog w = .ok (.bool false) w := fun w => by kernel_rfl
    go_enter Tryd.func36, Tryd.ntmps36
    go_wp2_with (at_builtin; refine wpList_append_bs rfl _ _ rfl w.heap.size _ 0 [] rfl Ho.out _ b off n cap f rfl Hb.out (by omega) (by simp) ?_)
    intro v' w1 h1 h2
    have HO := hide h1
    clear h1 Ho Hb
    have HE : Hid (Ext w w1) := hide (((Below.refl _ _).alloc (Nat.le_refl _) _).trans h2)
    clear h2
    go_wp2
    go_ret
    exact ⟨_, rfl, HO.out, HE.out⟩
end

section
set_option linter.unusedVariables false

theorem ofInt64 (x : Int) : (BitVec.ofInt 64 x).toNat = (x % 18446744073709551616).toNat := by
  rw [BitVec.toNat_ofInt]; rfl
end

section
set_option linter.unusedVariables false

open Go.RowKit

/-- The cursor in block C, over the n bytes of the slice a. -/
structure Cur (w : World) (C : Nat) (a : Option Addr) (n cap : Nat) : Prop where
  c0 : w.cell? ⟨C, 0, none⟩ = some (.slice a n cap)
  c1 : ∃ i : Nat, i ≤ n ∧ w.cell? ⟨C, 1, none⟩ = some (.int .i64 i)
  c2 : ∃ h : Int, w.cell? ⟨C, 2, none⟩ = some (.int .i64 h)
  f1 : w.frozen? ⟨C, 1, none⟩ = false
  f2 : w.frozen? ⟨C, 2, none⟩ = false

theorem Cur.of_block {w w' : World} {C : Nat} {a : Option Addr} {n cap : Nat} (h : Cur w C a n cap) (e : w'.heap[C]? = w.heap[C]?) : Cur w' C a n cap := by
  have k : ∀ o, w'.cell? ⟨C, o, none⟩ = w.cell? ⟨C, o, none⟩ := fun o => World.cell?_of_block (a := ⟨C, o, none⟩) e
  have z : ∀ o, w'.frozen? ⟨C, o, none⟩ = w.frozen? ⟨C, o, none⟩ := fun o => World.frozen?_of_block (a := ⟨C, o, none⟩) e
  obtain ⟨i, hi, c1⟩ := h.c1
  obtain ⟨hh, c2⟩ := h.c2
  exact ⟨(k 0).trans h.c0, ⟨i, hi, (k 1).trans c1⟩, ⟨hh, (k 2).trans c2⟩, (z 1).trans h.f1, (z 2).trans h.f2⟩

theorem and_255 (x : Int) : bits .and .i64 x 255 = x % 256 := by
  show IntKind.i64.wrap ((BitVec.ofInt 64 x &&& BitVec.ofInt 64 255).toNat : Int) = _
  have h2 : (BitVec.ofInt 64 255).toNat = 2 ^ 8 - 1 := by decide
  rw [BitVec.toNat_and, ofInt64, h2, Nat.and_two_pow_sub_one_eq_mod, IntKind.wrap_i64]
  omega

/-- The call answers a number in 0 .. lim, and turns the cursor alone. -/
def GivesIn (w : World) (C : Nat) (a : Option Addr) (n cap : Nat) (lim : Int) (e : Ending) (w' : World) : Prop :=
  ∃ x, e = .returned (.int .i64 x) ∧ 0 ≤ x ∧ x ≤ lim ∧ Cur w' C a n cap ∧ Touch C w w'

/-- The bytes that the draws read, not in the cursor's block. -/
structure Code (w : World) (C : Nat) (a : Option Addr) (b off n : Nat) (f : Nat → Int) : Prop where
  seg : BSeg w a b off n f
  byts : ∀ i, i < n → 0 ≤ f i ∧ f i ≤ 255
  ne : 0 < n → b ≠ C

theorem Code.touch {w w' : World} {C : Nat} {a : Option Addr} {b off n : Nat} {f : Nat → Int} (h : Code w C a b off n f) (ht : Touch C w w') : Code w' C a b off n f :=
  ⟨h.seg.touch ht h.ne, h.byts, h.ne⟩

/-- The cursor, its place and its number known. -/
structure CurAt (w : World) (C : Nat) (a : Option Addr) (n cap i : Nat) (h : Int) : Prop where
  c0 : w.cell? ⟨C, 0, none⟩ = some (.slice a n cap)
  c1 : w.cell? ⟨C, 1, none⟩ = some (.int .i64 i)
  c2 : w.cell? ⟨C, 2, none⟩ = some (.int .i64 h)
  f1 : w.frozen? ⟨C, 1, none⟩ = false
  f2 : w.frozen? ⟨C, 2, none⟩ = false

theorem CurAt.cur {w : World} {C : Nat} {a : Option Addr} {n cap i : Nat} {h : Int} (k : CurAt w C a n cap i h) (hi : i ≤ n) : Cur w C a n cap := ⟨k.c0, ⟨i, hi, k.c1⟩, ⟨h, k.c2⟩, k.f1, k.f2⟩

theorem CurAt.drew {w : World} {C : Nat} {a : Option Addr} {n cap i : Nat} {h : Int} (k : CurAt w C a n cap i h) (q : Nat) : CurAt (w.drewN q) C a n cap i h := ⟨k.c0, k.c1, k.c2, k.f1, k.f2⟩

theorem ne_off {C o p : Nat} (h : o ≠ p) : (⟨C, o, none⟩ : Addr) ≠ ⟨C, p, none⟩ := fun e => h (congrArg Addr.off e)

theorem CurAt.setH {w : World} {C : Nat} {a : Option Addr} {n cap i : Nat} {h : Int} (k : CurAt w C a n cap i h) (h' : Int) : CurAt (w.setCell ⟨C, 2, none⟩ (.int .i64 h')) C a n cap i h' :=
  ⟨by rw [World.cell?_setCell_other _ _ _ _ (ne_off (by omega))]; exact k.c0, by rw [World.cell?_setCell_other _ _ _ _ (ne_off (by omega))]; exact k.c1, World.cell?_setCell_same _ _ _ k.c2, by rw [World.frozen?_setCell]; exact k.f1, by rw [World.frozen?_setCell]; exact k.f2⟩

theorem CurAt.setI {w : World} {C : Nat} {a : Option Addr} {n cap i : Nat} {h : Int} (k : CurAt w C a n cap i h) (i' : Nat) : CurAt (w.setCell ⟨C, 1, none⟩ (.int .i64 i')) C a n cap i' h :=
  ⟨by rw [World.cell?_setCell_other _ _ _ _ (ne_off (by omega))]; exact k.c0, World.cell?_setCell_same _ _ _ k.c1, by rw [World.cell?_setCell_other _ _ _ _ (ne_off (by omega))]; exact k.c2, by rw [World.frozen?_setCell]; exact k.f1, by rw [World.frozen?_setCell]; exact k.f2⟩

set_option maxHeartbeats 1600000 in
theorem l1Byte_any (C : Nat) (a : Option Addr) (b off n cap : Nat) (f : Nat → Int) (w : World) (hC : Cur w C a n cap) (hK : Code w C a b off n f) (hn : n ≤ 1048576) :
    Calls Tryd.prog 40 #[.pointer (some ⟨C, 0, none⟩)] w fun e w' => GivesIn w C a n cap 255 e w' := by
  obtain ⟨i, hi, c1⟩ := hC.c1
  obtain ⟨h0, c2⟩ := hC.c2
  have c0 := hC.c0
  have f1 := hC.f1
  have f2 := hC.f2
  have A0 : CurAt w C a n cap i h0 := ⟨c0, c1, c2, f1, f2⟩
  clear hC
  go_enter Tryd.func40, Tryd.ntmps40
  go_wp2
  have A1 := A0.setH (wrap64 (wrap64 (h0 * 6364136223846793005) + 1442695040888963407))
  have T1 := (Touch.refl C w).set 2 (.int .i64 (wrap64 (wrap64 (h0 * 6364136223846793005) + 1442695040888963407)))
  have K1 := hK.touch T1
  clear c0 c1 c2 f1 f2 A0 hK
  generalize wrap64 (wrap64 (h0 * 6364136223846793005) + 1442695040888963407) = h1 at *
  generalize w.setCell ⟨C, 2, none⟩ (.int .i64 h1) = w1 at *
  have c0 := A1.c0
  have c1 := A1.c1
  have c2 := A1.c2
  go_quiet (fail)
  have A2 := A1.drew nq
  have T2 := T1.drew nq
  have K2 := K1.touch ((Touch.refl C w1).drew nq)
  have hx0 : 0 ≤ bits .and .i64 (bits .xor .i64 (h1 / 8589934592) (h1 / 35184372088832)) 255 ∧ bits .and .i64 (bits .xor .i64 (h1 / 8589934592) (h1 / 35184372088832)) 255 ≤ 255 := by rw [and_255]; omega
  generalize bits .and .i64 (bits .xor .i64 (h1 / 8589934592) (h1 / 35184372088832)) 255 = x at *
  clear c0 c1 c2 A1 T1 K1
  generalize w1.drewN nq = w2 at *
  have c0 := A2.c0
  have c1 := A2.c1
  have hin : (i : Int) ≤ (n : Int) := by omega
  go_wp2
  go_quiet (fail)
  have A3 := A2.drew nq
  have T3 := T2.drew nq
  have K3 := K2.touch ((Touch.refl C w2).drew nq)
  clear c0 c1 A2 T2 K2
  generalize w2.drewN nq = w3 at *
  by_cases hlt : i < n
  · have hlt' : (i : Int) < (n : Int) := by omega
    obtain rfl := K3.seg.at' (by omega)
    have cb := K3.seg.cell i hlt
    have bb := K3.byts i hlt
    have c0 := A3.c0
    have c1 := A3.c1
    go_wp2
    go_quiet (fail)
    have A4 := A3.drew nq
    have T4 := T3.drew nq
    clear c0 c1 A3 T3 K3 cb
    have hy0 : 0 ≤ bits .and .i64 (x + f i) 255 ∧ bits .and .i64 (x + f i) 255 ≤ 255 := by rw [and_255]; omega
    generalize w3.drewN nq = w4 at *
    have c1 := A4.c1
    have f1 := A4.f1
    have A5 := A4.setI (i + 1)
    have T5 := T4.set 1 (.int .i64 ((i + 1 : Nat) : Int))
    rw [show (((i + 1 : Nat)) : Int) = (i : Int) + 1 by omega] at T5
    have A5' : CurAt (w4.setCell ⟨C, 1, none⟩ (.int .i64 ((i : Int) + 1))) C (some ⟨b, off, none⟩) n cap (i + 1) h1 := by
      have := A5
      rw [show (((i + 1 : Nat)) : Int) = (i : Int) + 1 by omega] at this
      exact this
    clear A4 T4 A5
    go_wp2
    go_ret
    exact ⟨_, rfl, hy0.1, hy0.2, A5'.cur (by omega), T5⟩
  · have hlt' : ¬ (i : Int) < (n : Int) := by omega
    go_wp2
    go_ret
    exact ⟨x, rfl, hx0.1, hx0.2, A3.cur hi, T3⟩

/-- What a cursor's block and the bytes become when other memory is made. -/
theorem Code.grow {w w' : World} {C : Nat} {a : Option Addr} {b off n : Nat} {f : Nat → Int} (h : Code w C a b off n f) (hg : w.grownBy w' (some C)) : Code w' C a b off n f :=
  ⟨⟨h.seg.at', fun i hi => (World.cell?_of_block (a := ⟨b, off + i, none⟩) (hg.block b (h.seg.lt (by omega)) (by simp; exact h.ne (by omega)))).trans (h.seg.cell i hi)⟩, h.byts, h.ne⟩

set_option maxHeartbeats 800000 in
theorem l1Below_any (C : Nat) (a : Option Addr) (b off n cap : Nat) (f : Nat → Int) (m : Int) (w : World) (hC : Cur w C a n cap) (hK : Code w C a b off n f) (hn : n ≤ 1048576) (hm0 : 0 < m) (hm1 : m ≤ 65536) :
    Calls Tryd.prog 39 #[.pointer (some ⟨C, 0, none⟩), .int .i64 m] w fun e w' => GivesIn w C a n cap (m - 1) e w' := by
  have hmz : (m == 0) = false := by simp; omega
  by_cases h256 : m ≤ 256
  · go_enter Tryd.func39, Tryd.ntmps39
    go_wp2_with fail
    refine (l1Byte_any C a b off n cap f _ hC hK hn).mono ?_
    rintro e w1 ⟨x, rfl, x0, x1, hC1, T1⟩
    have r0 := Int.emod_nonneg x (show m ≠ 0 by omega)
    have r1 := Int.emod_lt_of_pos x hm0
    go_wp2
    go_ret
    exact ⟨_, rfl, r0, by omega, hC1, T1⟩
  · go_enter Tryd.func39, Tryd.ntmps39
    go_wp2_with fail
    refine (l1Byte_any C a b off n cap f _ hC hK hn).mono ?_
    rintro e w1 ⟨x, rfl, x0, x1, hC1, T1⟩
    go_wp2_with fail
    refine (l1Byte_any C a b off n cap f _ hC1 (hK.touch T1) hn).mono ?_
    rintro e w2 ⟨y, rfl, y0, y1, hC2, T2⟩
    have T12 := T1.trans T2
    go_wp2_with fail
    refine (l1Byte_any C a b off n cap f _ hC2 (hK.touch T12) hn).mono ?_
    rintro e w3 ⟨z, rfl, z0, z1, hC3, T3⟩
    have T13 := T12.trans T3
    go_wp2_with fail
    refine (l1Byte_any C a b off n cap f _ hC3 (hK.touch T13) hn).mono ?_
    rintro e w4 ⟨v, rfl, v0, v1, hC4, T4⟩
    have T14 := T13.trans T4
    have r0 := Int.emod_nonneg (x * 16777216 + y * 65536 + z * 256 + v) (show m ≠ 0 by omega)
    have r1 := Int.emod_lt_of_pos (x * 16777216 + y * 65536 + z * 256 + v) hm0
    clear hC hK hC1 hC2 hC3 T1 T2 T3 T4 T12 T13
    go_wp2
    go_ret
    exact ⟨_, rfl, r0, by omega, hC4, T14⟩

/-- The call answers a bool, and turns the cursor alone. -/
def GivesB2 (w : World) (C : Nat) (a : Option Addr) (n cap : Nat) (e : Ending) (w' : World) : Prop :=
  ∃ x : Bool, e = .returned (.bool x) ∧ Cur w' C a n cap ∧ Touch C w w'

set_option maxHeartbeats 400000 in
theorem l1Once_any (C : Nat) (a : Option Addr) (b off n cap : Nat) (f : Nat → Int) (m : Int) (w : World) (hC : Cur w C a n cap) (hK : Code w C a b off n f) (hn : n ≤ 1048576) (hm0 : 0 < m) (hm1 : m ≤ 65536) :
    Calls Tryd.prog 50 #[.pointer (some ⟨C, 0, none⟩), .int .i64 m] w fun e w' => GivesB2 w C a n cap e w' := by
  go_enter Tryd.func50, Tryd.ntmps50
  go_wp2_with fail
  refine (l1Below_any C a b off n cap f m _ hC hK hn hm0 hm1).mono ?_
  rintro e w1 ⟨x, rfl, x0, x1, hC1, T1⟩
  go_wp2
  go_ret
  exact ⟨_, rfl, hC1, T1⟩
end

section
set_option linter.unusedVariables false

open Go.RowKit

set_option maxHeartbeats 800000 in
set_option maxRecDepth 100000 in
theorem l1New_any (a : Option Addr) (b off n cap : Nat) (f : Nat → Int) (w : World) (hs : BSeg w a b off n f) (hB : ∀ i, i < n → 0 ≤ f i ∧ f i ≤ 255) (hn : n ≤ 1048576) :
    Calls Tryd.prog 28 #[.slice a n cap] w fun e w' => e = .returned (.pointer (some ⟨w.heap.size, 0, none⟩)) ∧ Cur w' w.heap.size a n cap ∧ w.heap.size < w'.heap.size ∧ Below w.heap.size w w' := by
  go_enter Tryd.func28, Tryd.ntmps28
  go_wp2
  go_loop [3, 4] (fun sh si => ∃ (k : Nat) (h : Int), k ≤ n ∧ si = .int .i64 k ∧ sh = .int .i64 h) (fun _ si => n - (intOf si).toNat)
  case atStart => exact ⟨0, _, by omega, rfl, rfl⟩
  case round =>
    obtain ⟨k, h, hk, rfl, rfl⟩ := hrel
    by_cases hlt : k < n
    · by_cases h4 : k < 4000
      · obtain rfl := hs.at' (by omega)
        have hc := hs.cell k hlt
        obtain ⟨b0, b1⟩ := hB k hlt
        have hkn : (k : Int) < (n : Int) := by omega
        go_wp2
        go_round
        case rel => exact ⟨k + 1, _, by omega, by go_num, rfl⟩
        case measure => simp [intOf]; omega
      · have hkn : (k : Int) < (n : Int) := by omega
        have h4' : ¬ (k : Int) < 4000 := by omega
        go_wp2
        go_ret
        refine ⟨rfl, ⟨?_, ⟨0, by omega, ?_⟩, ⟨h, ?_⟩, ?_, ?_⟩, by simp, (Below.refl _ _).alloc (Nat.le_refl _) _⟩
        all_goals first | exact World.cell?_alloc_at _ _ _ _ _ rfl | simp
    · go_wp2
      go_ret
      refine ⟨rfl, ⟨?_, ⟨0, by omega, ?_⟩, ⟨h, ?_⟩, ?_, ?_⟩, by simp, (Below.refl _ _).alloc (Nat.le_refl _) _⟩
      all_goals first | exact World.cell?_alloc_at _ _ _ _ _ rfl | simp

theorem big_any (a : Option Addr) (n cap : Nat) (w : World) (hn : n ≤ 1048576) : Calls Tryd.prog 14 #[.slice a n cap] w fun e w' => e = .returned (.bool false) ∧ w' = w := by
  have h : ¬ (1048576 : Int) < (n : Int) := by omega
  go_enter Tryd.func14, Tryd.ntmps14
  go_wp2
  go_ret
  exact ⟨rfl, rfl⟩

theorem big_long (a : Option Addr) (n cap : Nat) (w : World) (hn : ¬ n ≤ 1048576) : Calls Tryd.prog 14 #[.slice a n cap] w fun e w' => e = .returned (.bool true) ∧ w' = w := by
  have h : (1048576 : Int) < (n : Int) := by omega
  go_enter Tryd.func14, Tryd.ntmps14
  go_wp2
  go_ret
  exact ⟨rfl, rfl⟩

/-- The call answers one of a list, told by its place, and turns the cursor alone. -/
def GivesAt (w : World) (C : Nat) (a : Option Addr) (n cap : Nat) (m : Nat) (g : Nat → Int) (e : Ending) (w' : World) : Prop :=
  ∃ i, i < m ∧ e = .returned (.int .i64 (g i)) ∧ Cur w' C a n cap ∧ Touch C w w'

set_option maxHeartbeats 400000 in
theorem l1PickInt_of (C : Nat) (a : Option Addr) (b off n cap : Nat) (f : Nat → Int) (a2 : Option Addr) (b2 off2 m cap2 : Nat) (g : Nat → Int) (w : World) (hC : Cur w C a n cap) (hK : Code w C a b off n f) (hn : n ≤ 1048576) (hs : Seg w a2 b2 off2 m g) (hm : 0 < m) (hm1 : m ≤ 100) (hne : b2 ≠ C) :
    Calls Tryd.prog 52 #[.pointer (some ⟨C, 0, none⟩), .slice a2 m cap2] w fun e w' => GivesAt w C a n cap m g e w' := by
  obtain rfl := hs.at' hm
  go_enter Tryd.func52, Tryd.ntmps52
  go_wp2_with fail
  refine (l1Below_any C a b off n cap f (m : Int) _ hC hK hn (by omega) (by omega)).mono ?_
  rintro e w1 ⟨x, rfl, x0, x1, hC1, T1⟩
  obtain ⟨i, rfl⟩ := Int.eq_ofNat_of_zero_le x0
  have hc := (hs.touch T1 (fun _ => hne)).cell i (by omega)
  have him : (i : Int) < (m : Int) := by omega
  go_wp2
  go_ret
  exact ⟨i, by omega, rfl, hC1, T1⟩
end

section
set_option linter.unusedVariables false
set_option linter.unusedSimpArgs false

open Go.RowKit

theorem gb_trans {C : Nat} {w w1 w2 : World} (h : w.grownBy w1 (some C)) (k : w1.grownBy w2 (some C)) : w.grownBy w2 (some C) :=
  ⟨k.os.trans h.os, k.tape.trans h.tape, k.output.trans h.output, Nat.le_trans h.size k.size, fun i hi hn => (k.block i (Nat.lt_of_lt_of_le hi h.size) hn).trans (h.block i hi hn)⟩

theorem gb_refl {C : Nat} (w : World) : w.grownBy w (some C) := ⟨rfl, rfl, rfl, Nat.le_refl _, fun _ _ _ => rfl⟩

theorem gb_below {C B : Nat} {w w1 : World} (h : Below B w w1) (hB : w.heap.size ≤ B) : w.grownBy w1 (some C) :=
  ⟨h.os, h.tape, h.output, h.size, fun i hi _ => h.block i (by omega)⟩

theorem gb_later {C B : Nat} {w w1 w2 : World} (h : w.grownBy w1 (some C)) (k : Below B w1 w2) (hB : w.heap.size ≤ B) : w.grownBy w2 (some C) :=
  ⟨k.os.trans h.os, k.tape.trans h.tape, k.output.trans h.output, Nat.le_trans h.size k.size, fun i hi hn => (k.block i (by omega)).trans (h.block i hi hn)⟩

theorem gb_touch {C : Nat} {w w1 : World} (h : Touch C w w1) : w.grownBy w1 (some C) := h.grown

theorem owns_gb {C : Nat} {w w1 : World} {base n : Nat} {e : TypeId} {v : Value} {xs : List Value} (h : w.ownsRow base e 1 v n xs) (k : w.grownBy w1 (some C)) (hC : C < base) : w1.ownsRow base e 1 v n xs := by
  refine h.kept k ?_
  cases hv : v.ownBlock with
  | none => exact .inl rfl
  | some g => have := (h.lt g hv).1; exact .inr (fun e => by injection e with e; omega)

theorem seg_list (w : World) (xs : List Int) : Seg (w.alloc (.cells (xs.map (Value.int .i64)).toArray 3)) (some ⟨w.heap.size, 0, none⟩) w.heap.size 0 xs.length (fun i => xs.getD i 0) :=
  ⟨fun _ => rfl, fun i hi => by
    have := Blk.alloc w (xs.map (Value.int .i64)) 3
    rw [Nat.zero_add]
    exact (this i _ (by simp [List.getElem?_map, List.getElem?_eq_getElem hi, List.getD, hi])).1⟩
end

section
set_option linter.unusedVariables false
set_option linter.unusedSimpArgs false

open Go.RowKit

/-- An item as it lies in memory: two numbers and a list of bytes. -/
structure It where
  tag : Int
  kid : Int
  ad : Option Addr
  blk : Nat
  off : Nat
  len : Nat
  cap : Nat
  f : Nat → Int

def itV (x : It) : Value := .agg #[.int .i64 x.tag, .slice x.ad x.len x.cap, .int .i64 x.kid]

/-- A list of n items. -/
structure ISeg (w : World) (a : Option Addr) (b off n : Nat) (x : Nat → It) : Prop where
  at' : 0 < n → a = some ⟨b, off, none⟩
  c0 : ∀ i, i < n → w.cell? ⟨b, off + i * 3, none⟩ = some (.int .i64 (x i).tag)
  c1 : ∀ i, i < n → w.cell? ⟨b, off + i * 3 + 1, none⟩ = some (.slice (x i).ad (x i).len (x i).cap)
  c2 : ∀ i, i < n → w.cell? ⟨b, off + i * 3 + 2, none⟩ = some (.int .i64 (x i).kid)
  body : ∀ i, i < n → BSeg w (x i).ad (x i).blk (x i).off (x i).len (x i).f
  small : ∀ i, i < n → (x i).len ≤ 9223372036854775807

theorem ISeg.lt {w : World} {a : Option Addr} {b off n : Nat} {x : Nat → It} (h : ISeg w a b off n x) (hn : 0 < n) : b < w.heap.size := World.block_lt_of_cell? _ _ (h.c0 0 hn)

theorem ISeg.of_all {w w' : World} {a : Option Addr} {b off n : Nat} {x : Nat → It} (h : ISeg w a b off n x) (e : Ext w w') : ISeg w' a b off n x :=
  ⟨h.at', fun i hi => (e.cell (p := ⟨b, off + i * 3, none⟩) (h.lt (by omega))).trans (h.c0 i hi), fun i hi => (e.cell (p := ⟨b, off + i * 3 + 1, none⟩) (h.lt (by omega))).trans (h.c1 i hi), fun i hi => (e.cell (p := ⟨b, off + i * 3 + 2, none⟩) (h.lt (by omega))).trans (h.c2 i hi), fun i hi => (h.body i hi).of_all e, h.small⟩
end

section
set_option linter.unusedVariables false
set_option linter.unusedSimpArgs false

open Go.RowKit

/-- The item with its bytes in block B. -/
def It.at (x : It) (B : Nat) : It := { x with ad := some ⟨B, 0, none⟩, blk := B, off := 0, cap := x.len }

/-- The cells of an item, of an empty one. -/
def itC (x : It) : Nat → Value
  | 0 => .int .i64 x.tag
  | 1 => .slice x.ad x.len x.cap
  | _ => .int .i64 x.kid

def zeC : Nat → Value
  | 0 => .int .i64 0
  | 1 => .slice none 0 0
  | _ => .int .i64 0

/-- The row of a list of items of which the first k are there. -/
def rowC (y : Nat → It) (k j : Nat) : Value := if j / 3 < k then itC (y (j / 3)) (j % 3) else zeC (j % 3)

theorem rowC_at {y : Nat → It} {k i : Nat} (h : i < k) (r : Nat) (hr : r < 3) : rowC y k (i * 3 + r) = itC (y i) r := by
  unfold rowC
  rw [show (i * 3 + r) / 3 = i by omega, show (i * 3 + r) % 3 = r by omega, if_pos h]

/-- Items with their bytes in blocks laid one behind the other. -/
def laidI (x : Nat → It) (S : Nat) (i : Nat) : It := (x i).at (S + 4 + 4 * i)

structure ICopying (w wr : World) (n k : Nat) (x : Nat → It) : Prop where
  below : Below w.heap.size w wr
  size : wr.heap.size = w.heap.size + 1 + 4 * k
  row : wr.rowIs w.heap.size 55 (n * 3) (rowC (laidI x w.heap.size) k)
  body : ∀ i, i < k → wr.rowIs (w.heap.size + 4 + 4 * i) 5 (x i).len (fun j => .int .u8 ((x i).f j))

/-- What has been copied is a list of items. -/
theorem ICopying.seg {w w' : World} {n : Nat} {x : Nat → It} (h : ICopying w w' n n x) (hl : ∀ i, i < n → (x i).len ≤ 9223372036854775807) : ISeg w' (some ⟨w.heap.size, 0, none⟩) w.heap.size 0 n (laidI x w.heap.size) := by
  refine ⟨fun _ => rfl, fun i hi => ?_, fun i hi => ?_, fun i hi => ?_, fun i hi => ?_, fun i hi => hl i hi⟩
  · rw [Nat.zero_add]; exact (h.row.cell (i := i * 3) (by omega)).trans (congrArg some (rowC_at (r := 0) hi (by omega)))
  · rw [Nat.zero_add]; exact (h.row.cell (by omega)).trans (congrArg some (rowC_at hi 1 (by omega)))
  · rw [Nat.zero_add]; exact (h.row.cell (by omega)).trans (congrArg some (rowC_at hi 2 (by omega)))
  · exact BSeg.of_row (h.body i hi) (Nat.le_refl _)
end

end Go.Proofs.YtmcdikbcmikihaaDoor
