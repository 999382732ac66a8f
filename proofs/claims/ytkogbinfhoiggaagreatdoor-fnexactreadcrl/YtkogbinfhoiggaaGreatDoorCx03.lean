/- A range over an iterator that keeps cells of its own between two rounds. What the caller knows lies below the place where the loop began; what the iterator knows lies behind the loop's record; a round turns nothing of both but what lies below. Nothing of the program. Numbers: the program's walk over a tree as a check of what an iterator tells. Nothing of the program. Walks: the program's iterator below: what it tells, whatever its caller does with it. Walks: the program's itemOk. -/
import Derived.RangeFuncNested
import Derived.RangeFuncBound
import Derived.RangeFuncCalls
import Derived.RangeFuncLeaves
import Derived.Below
import Derived.Test.YtkogbinfhoiggaaGreatDoorCx02
import Derived.Shelf.Abstract
import Derived.Shelf.RegionOpen
import Derived.OwnWalkIn
import Derived.TacticsInMore
import Derived.LoopNIn
import Derived.LoopIn
import Derived.Maps.AppendAt
namespace Go.Proofs.YtkogbinfhoiggaaGreatDoor
set_option linter.unusedVariables false
set_option linter.unusedSimpArgs false
section
open Go Go.RowKit
def Lw (B : Nat) (I : World → Prop) : Prop := ∀ W W', I W → Below B W W' → I W'
structure Rd (X : Nat → Prop) (B : Nat) (W W' : World) : Prop where
 os : W'.os = W.os
 tape : W'.tape = W.tape
 output : W'.output = W.output
 size : W.heap.size ≤ W'.heap.size
 same : ∀ k, (B ≤ k ∨ X k) → k < W.heap.size → W'.heap[k]? = W.heap[k]?
theorem Rd.refl (X : Nat → Prop) (B : Nat) (W : World) : Rd X B W W := ⟨rfl, rfl, rfl, Nat.le_refl _, fun _ _ _ => rfl⟩
theorem Rd.trans {X : Nat → Prop} {B : Nat} {A C D : World} (h : Rd X B A C) (k : Rd X B C D) : Rd X B A D :=
 ⟨k.os.trans h.os, k.tape.trans h.tape, k.output.trans h.output, Nat.le_trans h.size k.size, fun i hi hl => (k.same i hi (Nat.lt_of_lt_of_le hl h.size)).trans (h.same i hi hl)⟩
theorem Rd.mono {X : Nat → Prop} {B C : Nat} {A D : World} (h : Rd X B A D) (hc : B ≤ C) : Rd X C A D := ⟨h.os, h.tape, h.output, h.size, fun i hi hl => h.same i (hi.imp (Nat.le_trans hc) id) hl⟩
def bodyEnds {α : Type} (X : Nat → Prop) (B : Nat) (I : List α → World → Prop) (Ix : Go.Code → List α → World → Prop) (xs : List α) (W : World) : Exit → Act → World → Prop
 | .normal, _, W' => Rd X B W W' ∧ I xs W'
 | .ret, _, W' => Rd X B W W' ∧ Ix .ret xs W'
 | .exit i, _, W' => Rd X B W W' ∧ Ix (.exit i) xs W'
 | _, _, _ => False
def Tells {α : Type} (n : Nat) (P : Program) (g : Nat) (lb : Array Value) (encs : α → Array Value) (S Sp : List α → Prop) (N : Nat) (X : Nat → Prop) (w0 : World) : Prop :=
 ∀ (l : Nat) (J Jx : List α → World → Prop) (W : World), Below w0.heap.size w0 W → (∀ s, Lw W.heap.size (J s)) → (∀ s, Lw W.heap.size (Jx s)) →
  (∀ pre x W1, J pre W1 → W.heap.size ≤ W1.heap.size → pre.length < N → YieldAt Fence.wide (n - 1) P l (encs x) W1 fun e W' =>
   (e = .returned (.bool true) ∧ J (pre ++ [x]) W' ∧ Rd X W.heap.size W1 W') ∨ (e = .returned (.bool false) ∧ Jx (pre ++ [x]) W')) →
  J [] W →
  CallsIn Fence.wide n P g (#[.func (.yield l) #[] #[]] ++ lb) W fun e W' => (∃ v, e = .returned v) ∧ ((∃ xs, S xs ∧ J xs W') ∨ (∃ pre, Sp pre ∧ Jx pre W'))
theorem putObj_below (B : Nat) (W : World) (l : Nat) (o : Obj) (h : B ≤ l) : Below B W (W.putObj l o) :=
 ⟨rfl, rfl, rfl, by simp, fun k hk => World.putObj_heap_other (by omega)⟩
theorem putObj_rd (X : Nat → Prop) (B : Nat) (W : World) (l : Nat) (o : Obj) (h : l < B) (hx : ¬ X l) : Rd X B W (W.putObj l o) :=
 ⟨rfl, rfl, rfl, by simp, fun k hk _ => World.putObj_heap_other (by rintro rfl; rcases hk with hk | hk; exact absurd hk (by omega); exact hx hk)⟩
set_option maxHeartbeats 800000 in
theorem range_own {P : Program} {n : Nat} {α : Type} {g : Operand} {ps : Array Tmp} {assign body : Go.Code} {Q : Exit → Act → World → Prop} {a : Act} {w : World} (h1 : 1 ≤ n)
  {gf : Nat} {lb : Array Value} (hg : a.eval g = .func (.func gf) #[] lb) (eg : ∀ args w, (callFunc gf args).run P w = .ok (.enter gf args) w)
  {encs : α → Array Value} {S Sp : List α → Prop} {N : Nat} {X : Nat → Prop} {w0 : World} (hX : ∀ k, X k → k < w0.heap.size) (hseq : Tells (n - 1) P gf lb encs S Sp N X w0) (hb0 : Below w0.heap.size w0 w) (hps : ∀ x, (encs x).size = ps.size)
  (I : List α → World → Prop) (Ix : Go.Code → List α → World → Prop) (hI : ∀ s, Lw w.heap.size (I s)) (hIx : ∀ c s, Lw w.heap.size (Ix c s)) (h0 : I [] w) (Ax : α → Act)
  (hassign : ∀ (l : Nat) (x : α) (W : World) (K : Act → World → Prop), K (Ax x) W →
   assign.wpIn (Fence.wide.inRound l) (n - 1 - 1) P (Exit.then K (fun _ _ _ => False)) { tmps := (ps.zip (encs x)).foldl (fun t (p, v) => t.setIfInBounds p v) a.tmps, defers := [] } W)
  (hbody : ∀ (l : Nat) (pre : List α) (x : α) (W : World), I pre W → w.heap.size + 2 ≤ W.heap.size → pre.length < N → body.wpIn (Fence.wide.inRound l) (n - 1 - 1) P (bodyEnds X w.heap.size I Ix (pre ++ [x]) W) (Ax x) W)
  (hdone : ∀ (xs : List α) (W : World), S xs → I xs W → w.heap.size < W.heap.size → W.heap[w.heap.size]? = some (.deferred (some [])) → Q .normal { a with defers := { target := .collected w.heap.size, args := #[] } :: a.defers } W)
  (hstop : ∀ (c : Go.Code) (pre : List α) (W : World), Sp pre → Ix c pre W → w.heap.size < W.heap.size → W.heap[w.heap.size]? = some (.deferred (some [])) → c.wpIn Fence.wide n P Q { a with defers := { target := .collected w.heap.size, args := #[] } :: a.defers } W) :
  (Go.Code.rangeFunc g ps assign body).wpIn Fence.wide n P Q a w := by
 refine wpIn_rangeFunc (fun fn hfn => ?_)
 obtain ⟨R, hR⟩ : ∃ R : LoopState → Option Go.Code → Loop, R = fun st pe => { state := st, pending := pe, fn := fn, tmps := a.tmps, params := ps, assign := assign, body := body, defers := w.heap.size } := ⟨_, rfl⟩
 obtain ⟨V, hV⟩ : ∃ V, (w.alloc (.deferred (some []))).alloc (.loop (R .ready none)) = V := ⟨_, rfl⟩
 have sV : V.heap.size = w.heap.size + 2 := by rw [← hV]; simp
 have bV : Below w.heap.size w V := by rw [← hV]; exact ((Below.refl _ _).alloc (Nat.le_refl _) _).alloc (by simp) _
 have rV : V.heap[w.heap.size + 1]? = some (.loop (R .ready none)) := by
  rw [← hV]
  have := World.alloc_heap_new (w.alloc (.deferred (some []))) (.loop (R .ready none))
  rwa [World.size_alloc] at this
 have dV : V.heap[w.heap.size]? = some (.deferred (some [])) := by
  rw [← hV]
  exact (Below.heap_alloc _ _ _ (by simp)).trans (World.alloc_heap_new w _)
 refine ⟨w.heap.size + 1, [{ target := .collected w.heap.size, args := #[] }], V, { target := .fn (.func gf) lb, args := #[.func (.yield (w.heap.size + 1)) #[] #[]] }, V, gf, #[.func (.yield (w.heap.size + 1)) #[] #[]] ++ lb, V, ?e1, ?e2, fun _ _ => trivial, ?e3, fun _ => h1, ?e4⟩
 case e1 => rw [← hV, hR]; exact run_enterLoop_outer _ _ _ _ _
 case e2 =>
  simp only [resolve, hg]
  simp [go_sem]
 case e3 => simp [invoke, go_sem, eg]
 case e4 =>
  have keep : ∀ {A C : World} {k : Nat} {o : Obj}, Below V.heap.size A C → k < V.heap.size → A.heap[k]? = some o → C.heap[k]? = some o := fun h hk ho => (h.block _ hk).trans ho
  refine (hseq (w.heap.size + 1)
   (fun pre W => I pre W ∧ W.heap[w.heap.size + 1]? = some (.loop (R .ready none)) ∧ W.heap[w.heap.size]? = some (.deferred (some [])))
   (fun pre W => ∃ c, Ix c pre W ∧ W.heap[w.heap.size + 1]? = some (.loop (R .done (some c))) ∧ W.heap[w.heap.size]? = some (.deferred (some [])))
   V (hb0.trans (bV.mono hb0.size))
   (fun s A C ⟨i, r, d⟩ h => ⟨hI s A C i (h.mono (by omega)), keep h (by omega) r, keep h (by omega) d⟩)
   (fun s A C ⟨c, i, r, d⟩ h => ⟨c, hIx c s A C i (h.mono (by omega)), keep h (by omega) r, keep h (by omega) d⟩)
   ?round ⟨hI [] w V h0 bV, rV, dV⟩).mono ?behind
  case round =>
   rintro pre x W ⟨hi, hr, hd⟩ hsz hlen
   have lt : w.heap.size + 1 < W.heap.size := (Array.getElem?_eq_some_iff.1 hr).1
   have hy := run_yield (P := P) (args := encs x) hr (by rw [hR]; exact hps x)
   rw [hR] at hy
   refine ⟨fn, _, assign, body, hy, roundIn_of_wpIn hfn (hassign _ x W _ ⟨_, run_beginRound hr (by rw [hR]), ?_⟩)⟩
   obtain ⟨U, hU⟩ : ∃ U, W.putObj (w.heap.size + 1) (.loop { R .ready none with state := .busy }) = U := ⟨_, rfl⟩
   rw [hU]
   have bU : Below w.heap.size W U := hU ▸ putObj_below _ _ _ _ (by omega)
   have nX : ¬ X (w.heap.size + 1) := fun h => by have := hX _ h; have := hb0.size; omega
   have uU : Rd X V.heap.size W U := hU ▸ putObj_rd _ _ _ _ _ (by omega) nX
   have rU : U.heap[w.heap.size + 1]? = some (.loop { R .ready none with state := .busy }) := by rw [← hU]; exact World.putObj_heap_same lt
   have dU : U.heap[w.heap.size]? = some (.deferred (some [])) := by rw [← hU]; exact (World.putObj_heap_other (by omega)).trans hd
   have zU : W.heap.size ≤ U.heap.size := bU.size
   refine wpIn_mono (hbody _ pre x U (hI pre W U hi bU) (by omega) hlen) ?_
   have shut : ∀ (j : Option Go.Code) (W3 : World), Rd X w.heap.size U W3 →
     (Instr.endRound (w.heap.size + 1) j).run P W3 = .ok (.bool j.isNone) (W3.putObj (w.heap.size + 1) (.loop (R (if j.isNone then .ready else .done) j))) ∧
     (W3.putObj (w.heap.size + 1) (.loop (R (if j.isNone then .ready else .done) j))).heap[w.heap.size + 1]? = some (.loop (R (if j.isNone then .ready else .done) j)) ∧
     (W3.putObj (w.heap.size + 1) (.loop (R (if j.isNone then .ready else .done) j))).heap[w.heap.size]? = some (.deferred (some [])) ∧
     Below w.heap.size W3 (W3.putObj (w.heap.size + 1) (.loop (R (if j.isNone then .ready else .done) j))) ∧ Rd X V.heap.size W3 (W3.putObj (w.heap.size + 1) (.loop (R (if j.isNone then .ready else .done) j))) := fun j W3 h3 => by
    have r3 : W3.heap[w.heap.size + 1]? = some (.loop { R .ready none with state := .busy }) := (h3.same _ (Or.inl (by omega)) (by omega)).trans rU
    have d3 : W3.heap[w.heap.size]? = some (.deferred (some [])) := (h3.same _ (Or.inl (Nat.le_refl _)) (by omega)).trans dU
    have lt3 : w.heap.size + 1 < W3.heap.size := (Array.getElem?_eq_some_iff.1 r3).1
    have := run_endRound (P := P) j r3
    rw [hR] at this ⊢
    exact ⟨this, World.putObj_heap_same lt3, (World.putObj_heap_other (by omega)).trans d3, putObj_below _ _ _ _ (by omega), putObj_rd _ _ _ _ _ (by omega) nX⟩
   rintro e a3 W3 hp
   cases e with
   | normal =>
    obtain ⟨h3, i3⟩ := hp
    obtain ⟨s1, s2, s3, s4, s5⟩ := shut none W3 h3
    exact ⟨_, _, s1, .inl ⟨rfl, ⟨hI _ _ _ i3 s4, s2, s3⟩, (uU.trans (h3.mono (by omega))).trans s5⟩⟩
   | ret =>
    obtain ⟨h3, i3⟩ := hp
    obtain ⟨s1, s2, s3, s4, s5⟩ := shut (some .ret) W3 h3
    exact ⟨_, _, s1, .inr ⟨rfl, .ret, hIx _ _ _ _ i3 s4, s2, s3⟩⟩
   | exit i =>
    obtain ⟨h3, i3⟩ := hp
    obtain ⟨s1, s2, s3, s4, s5⟩ := shut (some (.exit i)) W3 h3
    exact ⟨_, _, s1, .inr ⟨rfl, .exit i, hIx _ _ _ _ i3 s4, s2, s3⟩⟩
   | goto i => exact hp.elim
   | panic ch => exact hp.elim
   | outgrown => exact hp.elim
  case behind =>
   rintro e W2 ⟨⟨v, rfl⟩, (⟨xs, hS, hi, hr, hd⟩ | ⟨pre, hSp, c, hi, hr, hd⟩)⟩
   ·have lt : w.heap.size + 1 < W2.heap.size := (Array.getElem?_eq_some_iff.1 hr).1
    have := run_endLoop (P := P) hr (by rw [hR]; simp)
    rw [hR] at this
    exact ⟨none, _, this, hdone xs _ hS (hI _ _ _ hi (putObj_below _ _ _ _ (by omega))) (by simp; omega) ((World.putObj_heap_other (by omega)).trans hd)⟩
   ·have lt : w.heap.size + 1 < W2.heap.size := (Array.getElem?_eq_some_iff.1 hr).1
    have := run_endLoop (P := P) hr (by rw [hR]; simp)
    rw [hR] at this
    exact ⟨some c, _, this, hstop c pre _ hSp (hIx _ _ _ _ hi (putObj_below _ _ _ _ (by omega))) (by simp; omega) ((World.putObj_heap_other (by omega)).trans hd)⟩
end
section
open Go.RowKit
def trP (kid : Nat → Int) : Nat → Nat → List Nat → List (Nat × Nat)
 | 0, _, _ => []
 | f + 1, i, st => (i, st.length) :: match popF ((kid i).toNat :: st) with
  | none => []
  | some st' => trP kid f (i + 1) st'
def okAt (x : Nat → It) (u : Int) (p : Nat × Nat) : Prop := itP (x p.1) ∧ p.2 ≤ 12 ∧ (x p.1).kid ≤ u
instance (x : Nat → It) (u : Int) (p : Nat × Nat) : Decidable (okAt x u p) := by unfold okAt; infer_instance
def chk (x : Nat → It) : List (Nat × Nat) → Int → Option Int
 | [], u => some u
 | p :: r, u => if okAt x u p then chk x r (u - (x p.1).kid) else none
theorem chk_append (x : Nat → It) : ∀ (a b : List (Nat × Nat)) (u : Int), chk x (a ++ b) u = (chk x a u).bind (chk x b)
 | [], b, u => rfl
 | p :: a, b, u => by
  rw [List.cons_append, chk, chk]
  split
  ·exact chk_append x a b _
  ·rfl
theorem chk_one (x : Nat → It) (pre : List (Nat × Nat)) (p : Nat × Nat) (u v : Int) (h : chk x pre u = some v) : chk x (pre ++ [p]) u = if okAt x v p then some (v - (x p.1).kid) else none := by
 rw [chk_append, h]
 rfl
theorem chk_prefix (x : Nat → It) (pre t : List (Nat × Nat)) (u : Int) (hp : pre <+: t) (h : chk x pre u = none) : chk x t u = none := by
 obtain ⟨r, rfl⟩ := hp
 rw [chk_append, h]
 rfl
theorem chk_range (x : Nat → It) : ∀ (t : List (Nat × Nat)) (u v : Int), 0 ≤ u → chk x t u = some v → 0 ≤ v ∧ v ≤ u
 | [], u, v, h, e => by simp [chk] at e; omega
 | p :: t, u, v, h, e => by
  rw [chk] at e
  split at e
  ·rename_i ho
   have hk := itP_kid ho.1
   have hle := ho.2.2
   have := chk_range x t _ v (by omega) e
   omega
  ·cases e
theorem runP_chk (x : Nat → It) : ∀ (f i : Nat) (st : List Nat) (u : Int), runP x f i st u = match chk x (trP (fun j => (x j).kid) f i st) u with
  | none => false
  | some v => decide (v = 0)
 | 0, i, st, u => rfl
 | f + 1, i, st, u => by
  rw [runP, trP, chk]
  by_cases h : okAt x u (i, st.length)
  ·have h' := h
   obtain ⟨h1, h2, h3⟩ := h'
   simp only at h1 h2 h3
   rw [if_neg (by rintro (g | g | g); exact g h1; omega; omega), if_pos h]
   cases hq : popF ((x i).kid.toNat :: st) with
   | none => rfl
   | some st' => exact runP_chk x f (i + 1) st' _
  ·rw [if_neg h, if_pos]
   by_cases h1 : itP (x i)
   ·by_cases h2 : st.length ≤ 12
    ·by_cases h3 : (x i).kid ≤ u
     ·exact absurd ⟨h1, h2, h3⟩ h
     ·exact Or.inr (Or.inr (by omega))
    ·exact Or.inr (Or.inl (by omega))
   ·exact Or.inl h1
end
section
open Go.RowKit Go.Shelf
attribute [local go_sem] Oper.semAt_some
def iys (L : List Int) : List Value := L.map (.int .i64)
def sOf (L : List Int) : List Nat := (L.map Int.toNat).reverse
theorem sOf_push (L : List Int) (k : Int) : sOf (L ++ [k]) = k.toNat :: sOf L := by simp [sOf]
theorem sOf_len (L : List Int) : (sOf L).length = L.length := by simp [sOf]
theorem iys_one (x : Int) : ∀ u ∈ [Value.int .i64 x], u.oneCell' = true := by
 intro u hu
 simp at hu
 subst hu
 rfl
def KidAt (w : World) (b off n : Nat) (kid : Nat → Int) : Prop := ∀ i, i < n → w.cell? ⟨b, off + i * 3 + 2, none⟩ = some (.int .i64 (kid i))
abbrev Pl (n : Nat) := { p : Nat × Nat // p.1 < n }
def encP {n : Nat} (p : Pl n) : Array Value := #[.int .i64 (p.1.1 : Int), .int .i64 (p.1.2 : Int)]
def XB (CT CL b : Nat) (k : Nat) : Prop := k = CT ∨ k = CL ∨ k = b
theorem owns_rd {X : Nat → Prop} {B : Nat} {W W' : World} (h : Rd X B W W') {e n : Nat} {v : Value} {xs : List Value} (ho : W.ownsRow B e 1 v n xs) : W'.ownsRow B e 1 v n xs := by
 refine ⟨ho.1, ?_⟩
 rcases ho.2 with h0 | ⟨g, cap, cur, rfl, hb, hg, rest⟩
 ·exact .inl h0
 ·exact .inr ⟨g, cap, cur, rfl, hb, (h.same g (.inl hb) (Array.getElem?_eq_some_iff.1 hg).1).trans hg, rest⟩
theorem below_append {B : Nat} {wr w1 : World} {o : Obj} {e n : Nat} {v : Value} {xs : List Value} (hb : B ≤ wr.heap.size) (ho : wr.ownsRow B e 1 v n xs) (hg : (wr.alloc o).grownBy w1 v.ownBlock) : Below B wr w1 :=
 ((Below.refl B wr).alloc hb o).grown hg (by simp; omega) (fun j hj => (ho.lt j hj).1)
theorem owns_cut {w : World} {B g cap : Nat} {L : List Int} {c : Int} (h : w.ownsRow B 3 1 (.slice (some ⟨g, 0, none⟩) (L ++ [c]).length cap) (L ++ [c]).length (iys (L ++ [c]))) : w.ownsRow B 3 1 (.slice (some ⟨g, 0, none⟩) L.length cap) L.length (iys L) := by
 rcases h.2 with ⟨h0, _⟩ | ⟨g', cap', cur, hv, hb, hg, h1, h2, h3, h4⟩
 ·simp at h0
 ·simp only [Value.slice.injEq, Option.some.injEq, Addr.mk.injEq] at hv
  obtain ⟨⟨rfl, -, -⟩, -, rfl⟩ := hv
  refine ⟨by simp [iys], .inr ⟨g, cap, cur, rfl, hb, hg, by simp at h1; omega, h2, h3, ?_⟩⟩
  have h5 : cur.toList.take (L.length + 1) = iys (L ++ [c]) := by simpa using h4
  have h6 : (cur.toList.take (L.length + 1)).take L.length = cur.toList.take L.length := by rw [List.take_take, Nat.min_eq_left (by omega)]
  rw [Nat.mul_one, ← h6, h5]
  simp [iys]
theorem owns_last {w : World} {B : Nat} {v : Value} {L : List Int} {c : Int} (h : w.ownsRow B 3 1 v (L ++ [c]).length (iys (L ++ [c]))) :
  ∃ g cap, v = .slice (some ⟨g, 0, none⟩) (L ++ [c]).length cap ∧ B ≤ g ∧ (L ++ [c]).length ≤ cap ∧ cap ≤ 9223372036854775807 ∧ w.cell? ⟨g, L.length, none⟩ = some (.int .i64 c) ∧ w.frozen? ⟨g, L.length, none⟩ = false := by
 have h' := h
 rcases h.2 with ⟨_, h0⟩ | ⟨g, cap, cur, rfl, hb, hg, h1, h2, h3, h4⟩
 ·simp at h0
 ·refine ⟨g, cap, rfl, hb, h1, by unfold maxLen at h2; omega, ?_, World.ownsRow.frozenAt h' _⟩
  rw [World.ownsRow.cellAt h' L.length (by simp)]
  simp [iys]
theorem owns_setLast {w : World} {B g cap : Nat} {L : List Int} {c : Int} (h : w.ownsRow B 3 1 (.slice (some ⟨g, 0, none⟩) (L ++ [c]).length cap) (L ++ [c]).length (iys (L ++ [c]))) (x : Int) :
  (w.setCell ⟨g, L.length, none⟩ (.int .i64 x)).ownsRow B 3 1 (.slice (some ⟨g, 0, none⟩) (L ++ [x]).length cap) (L ++ [x]).length (iys (L ++ [x])) := by
 have := (World.ownsRow.stored h L.length (.int .i64 x)).1
 rw [show (iys (L ++ [c])).set L.length (.int .i64 x) = iys (L ++ [x]) by simp [iys, List.set_append]] at this
 rw [show (L ++ [x]).length = (L ++ [c]).length by simp]
 exact this
theorem rd_below {X : Nat → Prop} {W wr w1 : World} (h : Rd X W.heap.size W wr) (k : Below W.heap.size wr w1) : Rd X W.heap.size W w1 :=
 ⟨k.os.trans h.os, k.tape.trans h.tape, k.output.trans h.output, Nat.le_trans h.size k.size, fun i hi hl => (k.block i hl).trans (h.same i hi hl)⟩
theorem owns_slice {w : World} {B n : Nat} {v : Value} {xs : List Value} (h : w.ownsRow B 3 1 v n xs) : ∃ a c, v = .slice a n c := by
 rcases h.2 with ⟨rfl, rfl⟩ | ⟨g, cap, cur, rfl, _⟩
 ·exact ⟨_, _, rfl⟩
 ·exact ⟨_, _, rfl⟩
theorem popF_low {L : List Int} {c : Int} (h : c ≤ 0) : popF (sOf (L ++ [c])) = popF (sOf L) := by
 rw [sOf_push, show c.toNat = 0 by omega]; rfl
theorem popF_high {L : List Int} {c : Int} (h : 0 < c) : popF (sOf (L ++ [c])) = some (sOf (L ++ [c - 1])) := by
 rw [sOf_push, sOf_push, show c.toNat = (c - 1).toNat + 1 by omega]; rfl
theorem list_last (L : List Int) : L = [] ∨ ∃ M c, L = M ++ [c] := by
 rcases List.eq_nil_or_concat L with h | ⟨M, c, h⟩
 ·exact .inl h
 ·exact .inr ⟨M, c, by simpa using h⟩
set_option maxHeartbeats 6400000 in
set_option maxRecDepth 100000 in
theorem below1_in (n : Nat) (hn1 : 1 ≤ n) (m top CT CL b off cap : Nat) (kid : Nat → Int) (w0 : World) (htop : top ≤ m) (hm : m ≤ 1048576) (hm0 : 0 < m) (hCT : w0.cell? ⟨CT, 0, none⟩ = some (.int .i64 (top : Int))) (hCL : w0.cell? ⟨CL, 0, none⟩ = some (.slice (some ⟨b, off, none⟩) m cap)) (hK : KidAt w0 b off m kid) (hk : ∀ i, i < m → kid i ≤ 9223372036854775807) :
  Tells (α := Pl m) n Tryz.prog 125 #[.pointer (some ⟨CT, 0, none⟩), .pointer (some ⟨CL, 0, none⟩)] encP (fun xs => xs.map (·.1) = trP kid (m - top) top []) (fun pre => pre.map (·.1) <+: trP kid (m - top) top []) m (XB CT CL b) w0 := by
 intro l J Jx W hW hJ hJx hY h0
 have lt1 : CT < w0.heap.size := World.block_lt_of_cell? _ _ hCT
 have lt2 : CL < w0.heap.size := World.block_lt_of_cell? _ _ hCL
 have lt3 : b < w0.heap.size := World.block_lt_of_cell? _ _ (hK 0 hm0)
 have a1 : ∀ o, (W.alloc o).cell? ⟨CT, 0, none⟩ = some (.int .i64 (top : Int)) := fun o => (Below.cell (hW.trans ((Below.refl _ _).alloc hW.size o)) (p := ⟨CT, 0, none⟩) lt1).trans hCT
 obtain ⟨i0, hi, hz0, hz1, hz2⟩ := info_parts Tryz.info3
 refine callsIn_of_wp Tryz.func125 rfl trivial ?_ rfl
 simp only [Tryz.ntmps125, List.size_toArray, List.length_cons, List.length_nil, Nat.reduceAdd, Nat.reduceSub, Array.replicate_succ, Array.replicate_zero, List.push_toArray, List.append_toArray, List.nil_append, List.cons_append]
 gi_wp2
 have hO0 : Hid ((W.alloc (.cells #[] 3)).ownsRow W.heap.size 3 1 (.slice (some ⟨W.heap.size, 0, none⟩) 0 0) 0 []) := World.ownsRow_made (base := W.heap.size) (e := 3) (size := 1) W #[] 0 (Nat.le_refl _) (by simp) rfl
 have HK2 : Hid (∀ wr, Rd (XB CT CL b) W.heap.size W wr → wr.cell? ⟨CL, 0, none⟩ = some (.slice (some ⟨b, off, none⟩) m cap) ∧ KidAt wr b off m kid) := by
  intro wr hr
  have hs := hW.size
  refine ⟨?_, fun i hi => ?_⟩
  ·rw [World.cell?_of_block (a := ⟨CL, 0, none⟩) (hr.same CL (.inr (.inr (.inl rfl))) (by omega))]
   exact (hW.cell (p := ⟨CL, 0, none⟩) lt2).trans hCL
  ·rw [World.cell?_of_block (a := ⟨b, off + i * 3 + 2, none⟩) (hr.same b (.inr (.inr (.inr rfl))) (by omega))]
   exact (hW.cell (p := ⟨b, off + i * 3 + 2, none⟩) lt3).trans (hK i hi)
 gi_loopw [4, 5] (fun v p wr => ∃ (i : Nat) (L : List Int) (pre : List (Pl m)), p = .int .i64 (i : Int) ∧ top ≤ i ∧ i ≤ m ∧ L.length ≤ i ∧ (∀ c, c ∈ L → c ≤ 9223372036854775807) ∧ pre.length ≤ i ∧ wr.ownsRow W.heap.size 3 1 v L.length (iys L) ∧ pre.map (·.1) ++ trP kid (m - i) i (sOf L) = trP kid (m - top) top [] ∧ J pre wr ∧ W.heap.size ≤ wr.heap.size ∧ Rd (XB CT CL b) W.heap.size W wr) (fun _ p _ => m - (intOf p).toNat)
 case atStart => exact ⟨top, [], [], rfl, Nat.le_refl _, htop, Nat.zero_le _, fun c hc => by simp at hc, Nat.zero_le _, hO0.out, rfl, hJ [] W _ h0 ((Below.refl _ _).alloc (Nat.le_refl _) _), by simp, rd_below (Rd.refl _ _ _) ((Below.refl _ _).alloc (Nat.le_refl _) _)⟩
 case round =>
  clear hO0 a1
  obtain ⟨i, L, pre, rfl, hti, him, hLi, hLc, hpi, hO, hT, hJp, hsz, hrd⟩ := hrel
  have HLc := hide hLc
  clear hLc
  obtain ⟨va, vc, rfl⟩ := owns_slice hO
  obtain ⟨cl, kd⟩ := HK2.out wr hrd
  have HO := hide hO
  have HT := hide hT
  have Hrd := hide hrd
  have Hpi := hide hpi
  have HLi := hide hLi
  clear hO hT hrd kd hpi hLi
  by_cases hlt : i < m
  ·have hlt' : (i : Int) < (m : Int) := by omega
   obtain ⟨fn, tmps, assign, body, hy, hR⟩ := hY pre ⟨(i, L.length), hlt⟩ wr hJp hsz (by have := Hpi.out; omega)
   simp only [encP] at hy
   have HR := hide hR
   clear hR
   have HF : Hid (trP kid (m - i) i (sOf L) = (i, L.length) :: match popF ((kid i).toNat :: sOf L) with | none => [] | some st' => trP kid (m - (i + 1)) (i + 1) st') := by
    show _ = _
    rw [show m - i = (m - (i + 1)) + 1 by omega, trP, sOf_len]
    all_goals (cases popF ((kid i).toNat :: sOf L) <;> rfl)
   gi_wp2
   refine HR.out.mono ?_
   rintro e W3 (⟨rfl, hJ3, hk3⟩ | ⟨rfl, hJx3⟩)
   ·have HO3 := hide (owns_rd hk3 HO.out)
    have Hrd3 := hide (Hrd.out.trans hk3)
    obtain ⟨cl3, kd3⟩ := HK2.out W3 Hrd3.out
    have kc3 := kd3 i hlt
    have HJ3 := hide hJ3
    have hsz3 : W.heap.size ≤ W3.heap.size := Nat.le_trans hsz hk3.size
    have Hki := hide (hk i hlt)
    clear hJ3 hk3 kd3 HO Hrd cl hy HR
    have hLL : L.length ≤ 1048576 := by have := HLi.out; omega
    have HP : Hid (popF ((kid i).toNat :: sOf L) = popF (sOf (L ++ [kid i]))) := by show _ = _; rw [sOf_push]
    generalize hkk : kid i = kk at *
    clear hkk
    gi_wp2_with (gi_at_builtin; refine wpListIn_append_own _ rfl _ _ 24 rfl W.heap.size 3 i0 (.int .i64 0) 1 8 Tryz.underlying24 hi hz0 hz1 hz2 rfl (by decide) _ _ _ rfl (HO3.out.alloc _) ⟨W3.heap.size, 0, none⟩ 1 1 [.int .i64 kk] rfl rfl (cell_one_new _ _ _) (iys_one _) (by unfold maxLen; omega) (by omega) (by simp; omega) ?_; intro v' w4 hown' hgrow hnil)
    have HB4 := hide (below_append hsz3 HO3.out hgrow)
    have HO4 : Hid (w4.ownsRow W.heap.size 3 1 v' (L ++ [kk]).length (iys (L ++ [kk]))) := by
     show World.ownsRow _ _ _ _ _ _ _
     simpa [iys] using hown'
    have hsz4 : W.heap.size ≤ w4.heap.size := Nat.le_trans hsz3 HB4.out.size
    have HJ4 := hide (hJ _ W3 w4 HJ3.out HB4.out)
    have Hrd4 := hide (rd_below Hrd3.out HB4.out)
    clear hown' hgrow hnil HO3 Hrd3 HJ3 cl3 kc3
    gi_loopw [4] (fun v wq => wq = w4 ∧ ∃ M : List Int, M.length ≤ L.length + 1 ∧ popF (sOf M) = popF ((kk).toNat :: sOf L) ∧ w4.ownsRow W.heap.size 3 1 v M.length (iys M) ∧ (∀ c, c ∈ M → c ∈ L ∨ c = kk)) (fun v _ => match v with | .slice _ k _ => k | _ => 0)
    case atStart => exact ⟨rfl, L ++ [kk], by simp, HP.out.symm, HO4.out, fun c hc => by simpa using hc⟩
    case round =>
     clear HO4 HP
     obtain ⟨rfl, M, hM1, hM2, hMO, hM3⟩ := hrel
     have HM2 := hide hM2
     have HM3 := hide hM3
     clear hM2 hM3
     rcases list_last M with rfl | ⟨M', c, rfl⟩
     ·obtain ⟨ma, mc, rfl⟩ := owns_slice hMO
      clear hMO
      gi_wp2
      refine bodyPost_ret (results_none rfl _ _ _) rfl ?_
      refine ⟨⟨_, rfl⟩, .inl ⟨pre ++ [⟨(i, L.length), hlt⟩], ?_, HJ4.out⟩⟩
      rw [← HT.out, HF.out, ← HM2.out, List.map_append]
      rfl
     ·obtain ⟨g, gc, rfl, hgB, hgc, hgc2, cc, cf⟩ := owns_last hMO
      have HMO := hide hMO
      have hlen : (M' ++ [c]).length = M'.length + 1 := by simp
      rw [hlen] at hgc hM1
      have hp1 : (0 : Int) < (M'.length : Int) + 1 := by omega
      have hq1 : (0 : Int) ≤ (M'.length : Int) + 1 - 1 := by omega
      have HgB := hide hgB
      clear hMO hgB
      by_cases hc : c ≤ 0
      ·rw [hlen]
       have HMO2 := hide (owns_cut HMO.out)
       have HM5 : Hid (popF (sOf M') = popF (kk.toNat :: sOf L)) := by show _ = _; rw [← HM2.out, popF_low hc]
       gi_wp2
       go_roundw
       case rel => exact ⟨by trivial, M', by omega, HM5.out, HMO2.out, fun c' h => HM3.out c' (by simp [h])⟩
       case measure => simp
      ·have hc1 : 0 < c := by omega
       have hcb : c ≤ 9223372036854775807 := by
        rcases HM3.out c (by simp) with h | h
        ·exact HLc.out c h
        ·rw [h]; exact Hki.out
       have hz : ((M'.length : Int) + 1 == 0) = false := by simp; omega
       have HO6 := hide (owns_setLast HMO.out (c - 1))
       have HB6 : Hid (Below W.heap.size wr (wr.setCell ⟨g, M'.length, none⟩ (.int .i64 (c - 1)))) := below_touch (Below.refl _ _) ((Touch.refl g wr).set M'.length _) HgB.out
       rw [hlen]
       gi_wp2
       go_roundw
       case rel =>
        refine ⟨i + 1, M' ++ [c - 1], pre ++ [⟨(i, L.length), hlt⟩], by go_num, by omega, by omega, by have := HLi.out; simp; omega, fun c' h => ?_, by have := Hpi.out; simp; omega, ?_, ?_, hJ _ wr _ HJ4.out HB6.out, Nat.le_trans hsz4 HB6.out.size, rd_below Hrd4.out HB6.out⟩
        ·rcases List.mem_append.1 h with h | h
         ·rcases HM3.out c' (by simp [h]) with h' | h'
          ·exact HLc.out c' h'
          ·rw [h']; exact Hki.out
         ·simp at h; omega
        ·have := HO6.out
         rw [show (M' ++ [c - 1]).length = M'.length + 1 by simp] at this ⊢
         exact this
        ·rw [← HT.out, HF.out, ← HM2.out, popF_high hc1, List.map_append, List.append_assoc]
         rfl
       case measure => simp [intOf]; omega
   ·gi_wp2
    go_end0
    refine ⟨⟨_, rfl⟩, .inr ⟨pre ++ [⟨(i, L.length), hlt⟩], ?_, hJx3⟩⟩
    rw [← HT.out, HF.out, List.map_append]
    exact ⟨_, by rw [List.append_assoc]; rfl⟩
  ·obtain rfl : i = m := by omega
   gi_wp2
   refine ⟨fun _ h => (by cases h), ?_⟩
   gi_wp2
   go_end0
   refine ⟨⟨_, rfl⟩, .inl ⟨pre, ?_, hJp⟩⟩
   have h := HT.out
   rw [Nat.sub_self, trP, List.append_nil] at h
   exact h
theorem below_any (a : Option Addr) (n cap : Nat) (top : Int) (w : World) :
  Calls Tryz.prog 99 #[.slice a n cap, .int .i64 top] w fun e w' => e = .returned (.func (.func 125) #[] #[.pointer (some ⟨w.heap.size + 1, 0, none⟩), .pointer (some ⟨w.heap.size, 0, none⟩)]) ∧ w' = (w.alloc (.cells #[.slice a n cap] 35)).alloc (.cells #[.int .i64 top] 3) := by
 go_enter Tryz.func99, Tryz.ntmps99
 go_wp2
 go_ret
 exact ⟨rfl, rfl⟩
end
section
open Go.RowKit
theorem and32 {x : Int} (h0 : 0 ≤ x) (h1 : x ≤ 255) : (bits .and .i64 x 32 != 0) = decide (x / 32 % 2 = 1) := by
 have h : ∀ n : Nat, n < 256 → (bits .and .i64 (n : Int) 32 != 0) = decide ((n : Int) / 32 % 2 = 1) := by decide +kernel
 have := h x.toNat (by omega)
 rwa [show ((x.toNat : Nat) : Int) = x by omega] at this
theorem and31 {x : Int} (h0 : 0 ≤ x) (h1 : x ≤ 255) : (bits .and .i64 x 31 != 31) = decide (x % 32 ≠ 31) := by
 have h : ∀ n : Nat, n < 256 → (bits .and .i64 (n : Int) 31 != 31) = decide ((n : Int) % 32 ≠ 31) := by decide +kernel
 have := h x.toNat (by omega)
 rwa [show ((x.toNat : Nat) : Int) = x by omega] at this
theorem isMade_any (t : Int) (w : World) (t0 : 0 ≤ t) (t1 : t ≤ 255) : Calls Tryz.prog 77 #[.int .i64 t] w fun e w' => e = .returned (.bool (decide (t / 32 % 2 = 1))) ∧ w' = w := by
 go_enter Tryz.func77, Tryz.ntmps77
 go_wp2
 go_ret
 exact ⟨ret_bool (and32 t0 t1), rfl⟩
theorem tagOk_any (t : Int) (w : World) (t0 : 0 ≤ t) (t1 : t ≤ 255) : Calls Tryz.prog 134 #[.int .i64 t] w fun e w' => e = .returned (.bool (decide (t % 32 ≠ 31))) ∧ w' = w := by
 go_enter Tryz.func134, Tryz.ntmps134
 go_wp2
 go_ret
 exact ⟨ret_bool (and31 t0 t1), rfl⟩
set_option maxHeartbeats 1600000 in
theorem itemOk_any (x : It) (w : World) (hn : x.len ≤ 9223372036854775807) :
  Calls Tryz.prog 123 #[itV x] w fun e w' => e = .returned (.bool (decide (itP x))) ∧ Ext w w' := by
 obtain ⟨V, hV⟩ : ∃ V, w.alloc (.cells #[.int .i64 x.tag, .slice x.ad x.len x.cap, .int .i64 x.kid] 40) = V := ⟨_, rfl⟩
 obtain ⟨B1, hE, -⟩ := box1 w [.int .i64 x.tag, .slice x.ad x.len x.cap, .int .i64 x.kid] 40 (w1 := V) (by rw [← hV]; exact Ext.refl _)
 have a0 := (B1 0 _ rfl).1
 have a1 := (B1 1 _ rfl).1
 have a2 := (B1 2 _ rfl).1
 have HE := hide hE
 clear B1 hE
 show Calls Tryz.prog 123 #[.agg #[.int .i64 x.tag, .slice x.ad x.len x.cap, .int .i64 x.kid]] w _
 obtain ⟨F, hF⟩ : ∃ F, decide (itP x) = F := ⟨_, rfl⟩
 rw [hF]
 have HF : Hid (F = decide (0 ≤ x.tag ∧ x.tag ≤ 255 ∧ x.tag % 32 ≠ 31 ∧ (x.tag / 32 % 2 = 1 → 0 ≤ x.kid ∧ x.len = 0) ∧ (x.tag / 32 % 2 ≠ 1 → x.kid = 0))) := hide (by rw [← hF]; rfl)
 clear hF
 generalize x.tag = t at *
 generalize x.kid = c at *
 generalize x.len = q at *
 by_cases hA : t < 0
 ·go_enter Tryz.func123, Tryz.ntmps123
  go_wp2
  go_ret
  exact ⟨ret_bool (by rw [HF.out]; symm; exact decide_eq_false (by omega)), HE.out⟩
 ·by_cases hB : 255 < t
  ·go_enter Tryz.func123, Tryz.ntmps123
   go_wp2
   go_ret
   exact ⟨ret_bool (by rw [HF.out]; symm; exact decide_eq_false (by omega)), HE.out⟩
  ·have HT := hide (fun W => tagOk_any t W (by omega) (by omega))
   have HM := hide (fun W => isMade_any t W (by omega) (by omega))
   by_cases hC : t % 32 = 31
   ·rw [show decide (t % 32 ≠ 31) = false by simp [hC]] at HT
    go_enter Tryz.func123, Tryz.ntmps123
    go_wp2_with fail
    refine (HT.out _).mono ?_
    rintro e w1 ⟨rfl, hw1⟩
    subst hw1
    go_wp2
    go_ret
    exact ⟨ret_bool (by rw [HF.out]; symm; exact decide_eq_false (by omega)), HE.out⟩
   ·rw [show decide (t % 32 ≠ 31) = true by simp [hC]] at HT
    by_cases hM : t / 32 % 2 = 1
    ·rw [show decide (t / 32 % 2 = 1) = true by simp [hM]] at HM
     by_cases hk : 0 ≤ c
     ·go_enter Tryz.func123, Tryz.ntmps123
      go_wp2_with fail
      refine (HT.out _).mono ?_
      rintro e w1 ⟨rfl, hw1⟩
      subst hw1
      go_wp2_with fail
      refine (HM.out _).mono ?_
      rintro e w1 ⟨rfl, hw1⟩
      subst hw1
      go_wp2
      go_ret
      exact ⟨ret_bool (by rw [HF.out, Bool.eq_iff_iff]; simp; omega), HE.out⟩
     ·go_enter Tryz.func123, Tryz.ntmps123
      go_wp2_with fail
      refine (HT.out _).mono ?_
      rintro e w1 ⟨rfl, hw1⟩
      subst hw1
      go_wp2_with fail
      refine (HM.out _).mono ?_
      rintro e w1 ⟨rfl, hw1⟩
      subst hw1
      go_wp2
      go_ret
      exact ⟨ret_bool (by rw [HF.out]; symm; exact decide_eq_false (by omega)), HE.out⟩
    ·rw [show decide (t / 32 % 2 = 1) = false by simp [hM]] at HM
     go_enter Tryz.func123, Tryz.ntmps123
     go_wp2_with fail
     refine (HT.out _).mono ?_
     rintro e w1 ⟨rfl, hw1⟩
     subst hw1
     go_wp2_with fail
     refine (HM.out _).mono ?_
     rintro e w1 ⟨rfl, hw1⟩
     subst hw1
     go_wp2
     go_ret
     exact ⟨ret_bool (by rw [HF.out, Bool.eq_iff_iff]; simp; omega), HE.out⟩
end
end Go.Proofs.YtkogbinfhoiggaaGreatDoor
