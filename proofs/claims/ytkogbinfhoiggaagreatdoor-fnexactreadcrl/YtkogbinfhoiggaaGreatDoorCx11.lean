/- A scope in which the run jumps to labels of its own, inside a fence. Nothing of the program. A range over an iterator that keeps cells of its own between two rounds, and a body that makes memory of its own in a round: O tells whose a block is: the iterator's (and the loop's record). A round keeps what is O's, the iterator turns nothing but what is O's. Nothing of the program. As range_ownO, where what the round assigns lies in memory of its own, and the iterator tells what may come behind what has come. Nothing of the program. Walks: the program's iterator below, for a caller that makes memory of its own in a round. -/
import Derived.ControlIn
import Derived.Scope
import Derived.Test.YtkogbinfhoiggaaGreatDoorCx03
import Derived.Maps.OwnIn
namespace Go.Proofs.YtkogbinfhoiggaaGreatDoor
set_option linter.unusedVariables false
set_option linter.unusedSimpArgs false
section
open Go
theorem stepR_scope {P : Program} {b : Frame} {a : Act} {k : List Item} {cs : List Frame} {w : World} {c : Go.Code} : step P (lone (b.atR a (.code (.scope c) :: k)) cs w) = .next (lone (b.atR a (.code c :: .inScope c :: k)) cs w) :=
 step_lone_go (by simp [stepG, stepG.exec, Frame.atR])
theorem stepR_inScope {P : Program} {b : Frame} {a : Act} {k : List Item} {cs : List Frame} {w : World} {c : Go.Code} : step P (lone (b.atR a (.inScope c :: k)) cs w) = .next (lone (b.atR a k) cs w) :=
 step_lone_go (by simp [stepG, stepG.exec, Frame.atR])
def jumpsTo (J : Nat → Act → World → Prop) (Q : Exit → Act → World → Prop) : Exit → Act → World → Prop
 | .goto l, a, w => J l a w
 | e, a, w => Q e a w
theorem wpIn_scope_jumps {F : Fence} {n : Nat} {P : Program} {Q : Exit → Act → World → Prop} {a : Act} {w : World} {c : Go.Code} (J : Nat → Act → World → Prop) (μ : Nat → Act → World → Nat)
  (first : c.wpIn F n P (jumpsTo J Q) a w)
  (pass : ∀ l a w, J l a w → ∃ rest, findLabel c l = some rest ∧ rest.wpIn F n P (jumpsTo (fun l' a' w' => J l' a' w' ∧ μ l' a' w' < μ l a w) Q) a w) : (Go.Code.scope c).wpIn F n P Q a w := by
 intro b k cs hro hb hr
 have fin : ∀ {m : Machine} {e : Exit} {a' : Act} {w' : World}, (∀ l, e ≠ .goto l) → ArrivesIn (Machine.fenced P F) P m b (.inScope c :: k) cs e a' w' → ArrivesIn (Machine.fenced P F) P m b k cs e a' w' := by
  intro m e a' w' hne h
  cases e with
  | normal => exact StepsIn.trans h (.one (fenced_calm hb hr rfl) stepR_inScope)
  | exit id =>
   have hx : exitTo id (.inScope c :: k) = exitTo id k := by simp [exitTo]
   exact ⟨fun k' hk => h.1 k' (by rw [hx]; exact hk), fun hr' hk => h.2 hr' (by rw [hx]; exact hk)⟩
  | goto l => exact absurd rfl (hne l)
  | ret => exact h
  | panic ch => exact h
  | outgrown => exact h
 have key : ∀ j l a w, μ l a w = j → J l a w → ∀ rest, findLabel c l = some rest →
   ∃ e a' w', Q e a' w' ∧ ArrivesIn (Machine.fenced P F) P (lone (b.atR a (.code rest :: .inScope c :: k)) cs w) b k cs e a' w' := by
  intro j
  induction j using Nat.strongRecOn with
  | _ j ih =>
   intro l a w hj hJ rest hf
   obtain ⟨rest', hf', hp⟩ := pass l a w hJ
   rw [hf] at hf'
   obtain rfl := Option.some.inj hf'
   obtain ⟨e, a₁, w₁, hq, harr⟩ := hp b (.inScope c :: k) cs hro hb hr
   cases e with
   | goto l' =>
    obtain ⟨hJ', hlt⟩ := hq
    obtain ⟨rest2, hf2, -⟩ := pass l' a₁ w₁ hJ'
    obtain ⟨e₂, a₂, w₂, hq₂, harr₂⟩ := ih _ (hj ▸ hlt) l' a₁ w₁ rfl hJ' rest2 hf2
    exact ⟨e₂, a₂, w₂, hq₂, .of_steps (harr.1 _ (by simp [gotoIn, hf2])) harr₂⟩
   | normal => exact ⟨_, a₁, w₁, hq, fin (fun l => by simp) harr⟩
   | exit id => exact ⟨_, a₁, w₁, hq, fin (fun l => by simp) harr⟩
   | ret => exact ⟨_, a₁, w₁, hq, fin (fun l => by simp) harr⟩
   | panic ch => exact ⟨_, a₁, w₁, hq, fin (fun l => by simp) harr⟩
   | outgrown => exact ⟨_, a₁, w₁, hq, fin (fun l => by simp) harr⟩
 have h0 : (lone (b.atR a (.code (.scope c) :: k)) cs w).fenced P F := fenced_calm hb hr rfl
 obtain ⟨e, a₁, w₁, hq, harr⟩ := first b (.inScope c :: k) cs hro hb hr
 cases e with
 | goto l' =>
  obtain ⟨rest2, hf2, -⟩ := pass l' a₁ w₁ hq
  obtain ⟨e₂, a₂, w₂, hq₂, harr₂⟩ := key _ l' a₁ w₁ rfl hq rest2 hf2
  exact ⟨e₂, a₂, w₂, hq₂, .of_steps (.head h0 stepR_scope (harr.1 _ (by simp [gotoIn, hf2]))) harr₂⟩
 | normal => exact ⟨_, a₁, w₁, hq, .of_steps (.one h0 stepR_scope) (fin (fun l => by simp) harr)⟩
 | exit id => exact ⟨_, a₁, w₁, hq, .of_steps (.one h0 stepR_scope) (fin (fun l => by simp) harr)⟩
 | ret => exact ⟨_, a₁, w₁, hq, .of_steps (.one h0 stepR_scope) (fin (fun l => by simp) harr)⟩
 | panic ch => exact ⟨_, a₁, w₁, hq, .of_steps (.one h0 stepR_scope) (fin (fun l => by simp) harr)⟩
 | outgrown => exact ⟨_, a₁, w₁, hq, .of_steps (.one h0 stepR_scope) (fin (fun l => by simp) harr)⟩
theorem wpIn_scope_two {F : Fence} {n : Nat} {P : Program} {Q : Exit → Act → World → Prop} {a : Act} {w : World} {c X0 X1 : Go.Code} (h0 : findLabel c 0 = some (.seq .skip X0)) (h1 : findLabel c 1 = some (.seq .skip X1)) (J : Nat → Act → World → Prop) (μ : Nat → Act → World → Nat) (hJ : ∀ l a w, J l a w → l = 0 ∨ l = 1)
  (leaf1 : ∀ M a w, J 1 a w → μ 1 a w ≤ M → X1.wpIn F n P (jumpsTo (fun l' a' w' => J l' a' w' ∧ μ l' a' w' < M) Q) a w)
  (leaf0 : (∀ M a w, J 1 a w → μ 1 a w ≤ M → X1.wpIn F n P (jumpsTo (fun l' a' w' => J l' a' w' ∧ μ l' a' w' < M) Q) a w) → ∀ M a w, J 0 a w → μ 0 a w ≤ M → X0.wpIn F n P (jumpsTo (fun l' a' w' => J l' a' w' ∧ μ l' a' w' < M) Q) a w)
  (first : (∀ a w, J 0 a w → X0.wpIn F n P (jumpsTo J Q) a w) → c.wpIn F n P (jumpsTo J Q) a w) : (Go.Code.scope c).wpIn F n P Q a w := by
 refine wpIn_scope_jumps J μ (first fun a w h => wpIn_mono (leaf0 leaf1 _ a w h (Nat.le_refl _)) ?_) fun l a w h => ?_
 ·intro e a' w' q
  cases e with
  | goto l => exact q.1
  | _ => exact q
 ·rcases hJ l a w h with rfl | rfl
  ·refine ⟨_, h0, wpIn_seq (wpIn_skip ?_)⟩
   exact leaf0 leaf1 _ a w h (Nat.le_refl _)
  ·refine ⟨_, h1, wpIn_seq (wpIn_skip ?_)⟩
   exact leaf1 _ a w h (Nat.le_refl _)
end
section
open Go Go.RowKit
structure Stp (O : Nat → Prop) (A : World) (O' : Nat → Prop) (C : World) : Prop where
 os : C.os = A.os
 tape : C.tape = A.tape
 output : C.output = A.output
 size : A.heap.size ≤ C.heap.size
 same : ∀ k, k < A.heap.size → ¬ O k → C.heap[k]? = A.heap[k]?
 own : ∀ k, O' k ↔ O k ∨ (A.heap.size ≤ k ∧ k < C.heap.size)
def AbO (I : (Nat → Prop) → World → Prop) : Prop := ∀ O O' A C, I O A → Stp O A O' C → I O' C
structure RdO (X O : Nat → Prop) (W W' : World) : Prop where
 os : W'.os = W.os
 tape : W'.tape = W.tape
 output : W'.output = W.output
 size : W.heap.size ≤ W'.heap.size
 same : ∀ k, (O k ∨ X k) → k < W.heap.size → W'.heap[k]? = W.heap[k]?
theorem RdO.refl (X O : Nat → Prop) (W : World) : RdO X O W W := ⟨rfl, rfl, rfl, Nat.le_refl _, fun _ _ _ => rfl⟩
theorem RdO.trans {X O : Nat → Prop} {A C D : World} (h : RdO X O A C) (k : RdO X O C D) : RdO X O A D :=
 ⟨k.os.trans h.os, k.tape.trans h.tape, k.output.trans h.output, Nat.le_trans h.size k.size, fun i hi hl => (k.same i hi (Nat.lt_of_lt_of_le hl h.size)).trans (h.same i hi hl)⟩
theorem RdO.sub {X O O' : Nat → Prop} {A D : World} (h : RdO X O A D) (hs : ∀ k, O' k → O k) : RdO X O' A D := ⟨h.os, h.tape, h.output, h.size, fun i hi hl => h.same i (hi.imp (hs i) id) hl⟩
theorem stp_put {O : Nat → Prop} {A : World} {l : Nat} (h : O l) (o : Obj) : Stp O A O (A.putObj l o) :=
 ⟨rfl, rfl, rfl, by simp, fun k _ hk => World.putObj_heap_other (by rintro rfl; exact hk h), fun k => ⟨.inl, fun h => h.elim id (fun ⟨h1, h2⟩ => by simp at h2; omega)⟩⟩
theorem rdo_put {X O : Nat → Prop} {A : World} {l : Nat} (h : ¬ O l) (hx : ¬ X l) (o : Obj) : RdO X O A (A.putObj l o) :=
 ⟨rfl, rfl, rfl, by simp, fun k hk _ => World.putObj_heap_other (by rintro rfl; rcases hk with hk | hk; exact h hk; exact hx hk)⟩
def bodyEndsO {α : Type} (X O : Nat → Prop) (I : (Nat → Prop) → List α → World → Prop) (Ix : Go.Code → (Nat → Prop) → List α → World → Prop) (xs : List α) (W : World) : Exit → Act → World → Prop
 | .normal, _, W' => RdO X O W W' ∧ I O xs W'
 | .ret, _, W' => RdO X O W W' ∧ Ix .ret O xs W'
 | .exit i, _, W' => RdO X O W W' ∧ Ix (.exit i) O xs W'
 | _, _, _ => False
def TellsO {α : Type} (n : Nat) (P : Program) (g : Nat) (lb : Array Value) (encs : α → Array Value) (S Sp : List α → Prop) (N : Nat) (X : Nat → Prop) (w0 : World) : Prop :=
 ∀ (l : Nat) (J Jx : (Nat → Prop) → List α → World → Prop) (W : World), Below w0.heap.size w0 W → (∀ s, AbO (fun O => J O s)) → (∀ s, AbO (fun O => Jx O s)) →
  (∀ O pre x W1, J O pre W1 → (∀ k, O k → W.heap.size ≤ k ∧ k < W1.heap.size) → W.heap.size ≤ W1.heap.size → pre.length < N → YieldAt Fence.wide (n - 1) P l (encs x) W1 fun e W' =>
   (e = .returned (.bool true) ∧ J O (pre ++ [x]) W' ∧ RdO X O W1 W') ∨ (e = .returned (.bool false) ∧ Jx O (pre ++ [x]) W')) →
  J (fun _ => False) [] W →
  CallsIn Fence.wide n P g (#[.func (.yield l) #[] #[]] ++ lb) W fun e W' => (∃ v, e = .returned v) ∧ ((∃ xs O, S xs ∧ J O xs W') ∨ (∃ pre O, Sp pre ∧ Jx O pre W'))
set_option maxHeartbeats 800000 in
theorem range_ownO {P : Program} {n : Nat} {α : Type} {g : Operand} {ps : Array Tmp} {assign body : Go.Code} {Q : Exit → Act → World → Prop} {a : Act} {w : World} (h1 : 1 ≤ n)
  {gf : Nat} {lb : Array Value} (hg : a.eval g = .func (.func gf) #[] lb) (eg : ∀ args w, (callFunc gf args).run P w = .ok (.enter gf args) w)
  {encs : α → Array Value} {S Sp : List α → Prop} {N : Nat} {X : Nat → Prop} {w0 : World} (hX : ∀ k, X k → k < w0.heap.size) (hseq : TellsO (n - 1) P gf lb encs S Sp N X w0) (hb0 : Below w0.heap.size w0 w) (hps : ∀ x, (encs x).size = ps.size)
  (I : (Nat → Prop) → List α → World → Prop) (Ix : Go.Code → (Nat → Prop) → List α → World → Prop) (hI : ∀ s, AbO (fun O => I O s)) (hIx : ∀ c s, AbO (fun O => Ix c O s)) (h0 : I (fun _ => False) [] w) (Ax : α → Act)
  (hassign : ∀ (l : Nat) (x : α) (W : World) (K : Act → World → Prop), K (Ax x) W →
   assign.wpIn (Fence.wide.inRound l) (n - 1 - 1) P (Exit.then K (fun _ _ _ => False)) { tmps := (ps.zip (encs x)).foldl (fun t (p, v) => t.setIfInBounds p v) a.tmps, defers := [] } W)
  (hbody : ∀ (l : Nat) (O : Nat → Prop) (pre : List α) (x : α) (W : World), I O pre W → (∀ k, O k → w.heap.size ≤ k ∧ k < W.heap.size) → w.heap.size + 2 ≤ W.heap.size → pre.length < N → body.wpIn (Fence.wide.inRound l) (n - 1 - 1) P (bodyEndsO X O I Ix (pre ++ [x]) W) (Ax x) W)
  (hdone : ∀ (O : Nat → Prop) (xs : List α) (W : World), S xs → I O xs W → O w.heap.size → w.heap.size < W.heap.size → W.heap[w.heap.size]? = some (.deferred (some [])) → Q .normal { a with defers := { target := .collected w.heap.size, args := #[] } :: a.defers } W)
  (hstop : ∀ (c : Go.Code) (O : Nat → Prop) (pre : List α) (W : World), Sp pre → Ix c O pre W → O w.heap.size → w.heap.size < W.heap.size → W.heap[w.heap.size]? = some (.deferred (some [])) → c.wpIn Fence.wide n P Q { a with defers := { target := .collected w.heap.size, args := #[] } :: a.defers } W) :
  (Go.Code.rangeFunc g ps assign body).wpIn Fence.wide n P Q a w := by
 refine wpIn_rangeFunc (fun fn hfn => ?_)
 obtain ⟨R, hR⟩ : ∃ R : LoopState → Option Go.Code → Loop, R = fun st pe => { state := st, pending := pe, fn := fn, tmps := a.tmps, params := ps, assign := assign, body := body, defers := w.heap.size } := ⟨_, rfl⟩
 obtain ⟨V, hV⟩ : ∃ V, (w.alloc (.deferred (some []))).alloc (.loop (R .ready none)) = V := ⟨_, rfl⟩
 have sV : V.heap.size = w.heap.size + 2 := by rw [← hV]; simp
 have bV : Below w.heap.size w V := by rw [← hV]; exact ((Below.refl _ _).alloc (Nat.le_refl _) _).alloc (by simp) _
 have rV : V.heap[w.heap.size + 1]? = some (.loop (R .ready none)) := by
  rw [← hV]
  have := World.alloc_heap_new (w.alloc (.deferred (some []))) (.loop (R .ready none))
  rwa [World.size_alloc] at this
 have dV : V.heap[w.heap.size]? = some (.deferred (some [])) := by
  rw [← hV]
  exact (Below.heap_alloc _ _ _ (by simp)).trans (World.alloc_heap_new w _)
 refine ⟨w.heap.size + 1, [{ target := .collected w.heap.size, args := #[] }], V, { target := .fn (.func gf) lb, args := #[.func (.yield (w.heap.size + 1)) #[] #[]] }, V, gf, #[.func (.yield (w.heap.size + 1)) #[] #[]] ++ lb, V, ?e1, ?e2, fun _ _ => trivial, ?e3, fun _ => h1, ?e4⟩
 case e1 => rw [← hV, hR]; exact run_enterLoop_outer _ _ _ _ _
 case e2 =>
  simp only [resolve, hg]
  simp [go_sem]
 case e3 => simp [invoke, go_sem, eg]
 case e4 =>
  obtain ⟨Pl, hPl⟩ : ∃ Pl : (Nat → Prop) → Nat → Prop, Pl = fun O k => O k ∨ k = w.heap.size ∨ k = w.heap.size + 1 := ⟨_, rfl⟩
  have pd : ∀ O, Pl O w.heap.size := fun O => by rw [hPl]; exact .inr (.inl rfl)
  have pr : ∀ O, Pl O (w.heap.size + 1) := fun O => by rw [hPl]; exact .inr (.inr rfl)
  have up : ∀ {O O' : Nat → Prop} {A C : World}, Stp O A O' C → Stp (Pl O) A (Pl O') C := fun h => ⟨h.os, h.tape, h.output, h.size, fun k hk hn => h.same k hk (fun ho => hn (by rw [hPl]; exact .inl ho)), fun k => by
   rw [hPl]
   simp only [h.own k]
   constructor
   ·rintro ((h | h) | h)
    ·exact .inl (.inl h)
    ·exact .inr h
    ·exact .inl (.inr h)
   ·rintro ((h | h) | h)
    ·exact .inl (.inl h)
    ·exact .inr h
    ·exact .inl (.inr h)⟩
  have ab : ∀ (T : (Nat → Prop) → World → Prop) (o1 : Obj), AbO T → AbO (fun O W => T (Pl O) W ∧ W.heap[w.heap.size + 1]? = some o1 ∧ W.heap[w.heap.size]? = some (.deferred (some [])) ∧ ∀ k, O k → w.heap.size + 2 ≤ k) := by
   rintro T o1 hT O O' A C ⟨t, r, d, hO⟩ h
   have l1 : w.heap.size + 1 < A.heap.size := (Array.getElem?_eq_some_iff.1 r).1
   refine ⟨hT _ _ _ _ t (up h), (h.same _ l1 (fun ho => by have := hO _ ho; omega)).trans r, (h.same _ (by omega) (fun ho => by have := hO _ ho; omega)).trans d, fun k hk => ?_⟩
   rcases (h.own k).1 hk with h | h
   ·exact hO k h
   ·omega
  refine (hseq (w.heap.size + 1)
   (fun O pre W => I (Pl O) pre W ∧ W.heap[w.heap.size + 1]? = some (.loop (R .ready none)) ∧ W.heap[w.heap.size]? = some (.deferred (some [])) ∧ ∀ k, O k → w.heap.size + 2 ≤ k)
   (fun O pre W => ∃ c, Ix c (Pl O) pre W ∧ W.heap[w.heap.size + 1]? = some (.loop (R .done (some c))) ∧ W.heap[w.heap.size]? = some (.deferred (some [])) ∧ ∀ k, O k → w.heap.size + 2 ≤ k)
   V (hb0.trans (bV.mono hb0.size))
   (fun s => ab (fun O => I O s) _ (hI s))
   (fun s O O' A C ⟨c, h⟩ hs => ⟨c, ab (fun O => Ix c O s) _ (hIx c s) O O' A C h hs⟩)
   ?round ⟨?first, rV, dV, fun k hk => hk.elim⟩).mono ?behind
  case first =>
   refine hI [] _ _ _ _ h0 ⟨bV.os, bV.tape, bV.output, bV.size, fun k hk _ => bV.block k hk, fun k => ?_⟩
   rw [hPl, sV]
   constructor
   ·rintro (h | h | h)
    ·exact h.elim
    ·exact .inr ⟨by omega, by omega⟩
    ·exact .inr ⟨by omega, by omega⟩
   ·rintro (h | ⟨h, h'⟩)
    ·exact h.elim
    ·exact .inr (by omega)
  case round =>
   rintro O pre x W ⟨hi, hr, hd, hO⟩ hOk hsz hlen
   have lt : w.heap.size + 1 < W.heap.size := (Array.getElem?_eq_some_iff.1 hr).1
   have hy := run_yield (P := P) (args := encs x) hr (by rw [hR]; exact hps x)
   rw [hR] at hy
   refine ⟨fn, _, assign, body, hy, roundIn_of_wpIn hfn (hassign _ x W _ ⟨_, run_beginRound hr (by rw [hR]), ?_⟩)⟩
   obtain ⟨U, hU⟩ : ∃ U, W.putObj (w.heap.size + 1) (.loop { R .ready none with state := .busy }) = U := ⟨_, rfl⟩
   rw [hU]
   have nX : ¬ X (w.heap.size + 1) := fun h => by have := hX _ h; have := hb0.size; omega
   have nO : ¬ O (w.heap.size + 1) := fun h => by have := hO _ h; omega
   have uU : RdO X O W U := hU ▸ rdo_put nO nX _
   have iU : I (Pl O) pre U := hU ▸ hI pre _ _ _ _ hi (stp_put (pr O) _)
   have rU : U.heap[w.heap.size + 1]? = some (.loop { R .ready none with state := .busy }) := by rw [← hU]; exact World.putObj_heap_same lt
   have dU : U.heap[w.heap.size]? = some (.deferred (some [])) := by rw [← hU]; exact (World.putObj_heap_other (by omega)).trans hd
   have zU : W.heap.size ≤ U.heap.size := uU.size
   refine wpIn_mono (hbody _ (Pl O) pre x U iU (fun k hk => ?_) (by omega) hlen) ?_
   ·rw [hPl] at hk
    rcases hk with h | h | h
    ·have := hOk k h; omega
    ·omega
    ·omega
   have sub : ∀ k, O k → Pl O k := fun k h => by rw [hPl]; exact .inl h
   have shut : ∀ (j : Option Go.Code) (W3 : World), RdO X (Pl O) U W3 →
     (Instr.endRound (w.heap.size + 1) j).run P W3 = .ok (.bool j.isNone) (W3.putObj (w.heap.size + 1) (.loop (R (if j.isNone then .ready else .done) j))) ∧
     (W3.putObj (w.heap.size + 1) (.loop (R (if j.isNone then .ready else .done) j))).heap[w.heap.size + 1]? = some (.loop (R (if j.isNone then .ready else .done) j)) ∧
     (W3.putObj (w.heap.size + 1) (.loop (R (if j.isNone then .ready else .done) j))).heap[w.heap.size]? = some (.deferred (some [])) ∧
     Stp (Pl O) W3 (Pl O) (W3.putObj (w.heap.size + 1) (.loop (R (if j.isNone then .ready else .done) j))) ∧ RdO X O W3 (W3.putObj (w.heap.size + 1) (.loop (R (if j.isNone then .ready else .done) j))) := fun j W3 h3 => by
    have r3 : W3.heap[w.heap.size + 1]? = some (.loop { R .ready none with state := .busy }) := (h3.same _ (Or.inl (pr O)) (by omega)).trans rU
    have d3 : W3.heap[w.heap.size]? = some (.deferred (some [])) := (h3.same _ (Or.inl (pd O)) (by omega)).trans dU
    have lt3 : w.heap.size + 1 < W3.heap.size := (Array.getElem?_eq_some_iff.1 r3).1
    have := run_endRound (P := P) j r3
    rw [hR] at this ⊢
    exact ⟨this, World.putObj_heap_same lt3, (World.putObj_heap_other (by omega)).trans d3, stp_put (pr O) _, rdo_put nO nX _⟩
   rintro e a3 W3 hp
   cases e with
   | normal =>
    obtain ⟨h3, i3⟩ := hp
    obtain ⟨s1, s2, s3, s4, s5⟩ := shut none W3 h3
    exact ⟨_, _, s1, .inl ⟨rfl, ⟨hI _ _ _ _ _ i3 s4, s2, s3, hO⟩, (uU.trans (h3.sub sub)).trans s5⟩⟩
   | ret =>
    obtain ⟨h3, i3⟩ := hp
    obtain ⟨s1, s2, s3, s4, s5⟩ := shut (some .ret) W3 h3
    exact ⟨_, _, s1, .inr ⟨rfl, .ret, hIx _ _ _ _ _ _ i3 s4, s2, s3, hO⟩⟩
   | exit i =>
    obtain ⟨h3, i3⟩ := hp
    obtain ⟨s1, s2, s3, s4, s5⟩ := shut (some (.exit i)) W3 h3
    exact ⟨_, _, s1, .inr ⟨rfl, .exit i, hIx _ _ _ _ _ _ i3 s4, s2, s3, hO⟩⟩
   | goto i => exact hp.elim
   | panic ch => exact hp.elim
   | outgrown => exact hp.elim
  case behind =>
   rintro e W2 ⟨⟨v, rfl⟩, (⟨xs, O, hS, hi, hr, hd, hO⟩ | ⟨pre, O, hSp, c, hi, hr, hd, hO⟩)⟩
   ·have lt : w.heap.size + 1 < W2.heap.size := (Array.getElem?_eq_some_iff.1 hr).1
    have := run_endLoop (P := P) hr (by rw [hR]; simp)
    rw [hR] at this
    exact ⟨none, _, this, hdone (Pl O) xs _ hS (hI _ _ _ _ _ hi (stp_put (pr O) _)) (pd O) (by simp; omega) ((World.putObj_heap_other (by omega)).trans hd)⟩
   ·have lt : w.heap.size + 1 < W2.heap.size := (Array.getElem?_eq_some_iff.1 hr).1
    have := run_endLoop (P := P) hr (by rw [hR]; simp)
    rw [hR] at this
    exact ⟨some c, _, this, hstop c (Pl O) pre _ hSp (hIx _ _ _ _ _ _ hi (stp_put (pr O) _)) (pd O) (by simp; omega) ((World.putObj_heap_other (by omega)).trans hd)⟩
def TellsV {α : Type} (n : Nat) (P : Program) (g : Nat) (lb : Array Value) (encs : α → Array Value) (V : List α → α → Prop) (S Sp : List α → Prop) (N : Nat) (X : Nat → Prop) (w0 : World) : Prop :=
 ∀ (l : Nat) (J Jx : (Nat → Prop) → List α → World → Prop) (W : World), Below w0.heap.size w0 W → (∀ s, AbO (fun O => J O s)) → (∀ s, AbO (fun O => Jx O s)) →
  (∀ O pre x W1, J O pre W1 → V pre x → (∀ k, O k → W.heap.size ≤ k ∧ k < W1.heap.size) → W.heap.size ≤ W1.heap.size → pre.length < N → YieldAt Fence.wide (n - 1) P l (encs x) W1 fun e W' =>
   (e = .returned (.bool true) ∧ J O (pre ++ [x]) W' ∧ RdO X O W1 W') ∨ (e = .returned (.bool false) ∧ Jx O (pre ++ [x]) W')) →
  J (fun _ => False) [] W →
  CallsIn Fence.wide n P g (#[.func (.yield l) #[] #[]] ++ lb) W fun e W' => (∃ v, e = .returned v) ∧ ((∃ xs O, S xs ∧ J O xs W') ∨ (∃ pre O, Sp pre ∧ Jx O pre W'))
set_option maxHeartbeats 800000 in
theorem range_ownV {P : Program} {n : Nat} {α : Type} {g : Operand} {ps : Array Tmp} {assign body : Go.Code} {Q : Exit → Act → World → Prop} {a : Act} {w : World} (h1 : 1 ≤ n)
  {gf : Nat} {lb : Array Value} (hg : a.eval g = .func (.func gf) #[] lb) (eg : ∀ args w, (callFunc gf args).run P w = .ok (.enter gf args) w)
  {encs : α → Array Value} {V : List α → α → Prop} {S Sp : List α → Prop} {N : Nat} {X : Nat → Prop} {w0 : World} (hX : ∀ k, X k → k < w0.heap.size) (hseq : TellsV (n - 1) P gf lb encs V S Sp N X w0) (hb0 : Below w0.heap.size w0 w) (hps : ∀ x, (encs x).size = ps.size)
  (I : (Nat → Prop) → List α → World → Prop) (Ix : Go.Code → (Nat → Prop) → List α → World → Prop) (hI : ∀ s, AbO (fun O => I O s)) (hIx : ∀ c s, AbO (fun O => Ix c O s)) (hIe : ∀ O s A C, I O s A → Ext A C → I O s C) (h0 : I (fun _ => False) [] w) (Wx : α → World → World) (hWx : ∀ x W, Ext W (Wx x W)) (Ax : α → World → Act)
  (hassign : ∀ (l : Nat) (x : α) (W : World) (K : Act → World → Prop), K (Ax x W) (Wx x W) →
   assign.wpIn (Fence.wide.inRound l) (n - 1 - 1) P (Exit.then K (fun _ _ _ => False)) { tmps := (ps.zip (encs x)).foldl (fun t (p, v) => t.setIfInBounds p v) a.tmps, defers := [] } W)
  (hbody : ∀ (l : Nat) (O : Nat → Prop) (pre : List α) (x : α) (W0 W : World), I O pre W → V pre x → (∀ k, O k → w.heap.size ≤ k ∧ k < W0.heap.size) → w.heap.size + 2 ≤ W0.heap.size → (∀ k, k ≠ w.heap.size + 1 → W.heap[k]? = (Wx x W0).heap[k]?) → W.heap.size = (Wx x W0).heap.size → pre.length < N → body.wpIn (Fence.wide.inRound l) (n - 1 - 1) P (bodyEndsO X O I Ix (pre ++ [x]) W) (Ax x W0) W)
  (hdone : ∀ (O : Nat → Prop) (xs : List α) (W : World), S xs → I O xs W → O w.heap.size → w.heap.size < W.heap.size → W.heap[w.heap.size]? = some (.deferred (some [])) → Q .normal { a with defers := { target := .collected w.heap.size, args := #[] } :: a.defers } W)
  (hstop : ∀ (c : Go.Code) (O : Nat → Prop) (pre : List α) (W : World), Sp pre → Ix c O pre W → O w.heap.size → w.heap.size < W.heap.size → W.heap[w.heap.size]? = some (.deferred (some [])) → c.wpIn Fence.wide n P Q { a with defers := { target := .collected w.heap.size, args := #[] } :: a.defers } W) :
  (Go.Code.rangeFunc g ps assign body).wpIn Fence.wide n P Q a w := by
 refine wpIn_rangeFunc (fun fn hfn => ?_)
 obtain ⟨R, hR⟩ : ∃ R : LoopState → Option Go.Code → Loop, R = fun st pe => { state := st, pending := pe, fn := fn, tmps := a.tmps, params := ps, assign := assign, body := body, defers := w.heap.size } := ⟨_, rfl⟩
 obtain ⟨VV, hV⟩ : ∃ VV, (w.alloc (.deferred (some []))).alloc (.loop (R .ready none)) = VV := ⟨_, rfl⟩
 have sV : VV.heap.size = w.heap.size + 2 := by rw [← hV]; simp
 have bV : Below w.heap.size w VV := by rw [← hV]; exact ((Below.refl _ _).alloc (Nat.le_refl _) _).alloc (by simp) _
 have rV : VV.heap[w.heap.size + 1]? = some (.loop (R .ready none)) := by
  rw [← hV]
  have := World.alloc_heap_new (w.alloc (.deferred (some []))) (.loop (R .ready none))
  rwa [World.size_alloc] at this
 have dV : VV.heap[w.heap.size]? = some (.deferred (some [])) := by
  rw [← hV]
  exact (Below.heap_alloc _ _ _ (by simp)).trans (World.alloc_heap_new w _)
 refine ⟨w.heap.size + 1, [{ target := .collected w.heap.size, args := #[] }], VV, { target := .fn (.func gf) lb, args := #[.func (.yield (w.heap.size + 1)) #[] #[]] }, VV, gf, #[.func (.yield (w.heap.size + 1)) #[] #[]] ++ lb, VV, ?e1, ?e2, fun _ _ => trivial, ?e3, fun _ => h1, ?e4⟩
 case e1 => rw [← hV, hR]; exact run_enterLoop_outer _ _ _ _ _
 case e2 =>
  simp only [resolve, hg]
  simp [go_sem]
 case e3 => simp [invoke, go_sem, eg]
 case e4 =>
  obtain ⟨Pl, hPl⟩ : ∃ Pl : (Nat → Prop) → Nat → Prop, Pl = fun O k => O k ∨ k = w.heap.size ∨ k = w.heap.size + 1 := ⟨_, rfl⟩
  have pd : ∀ O, Pl O w.heap.size := fun O => by rw [hPl]; exact .inr (.inl rfl)
  have pr : ∀ O, Pl O (w.heap.size + 1) := fun O => by rw [hPl]; exact .inr (.inr rfl)
  have up : ∀ {O O' : Nat → Prop} {A C : World}, Stp O A O' C → Stp (Pl O) A (Pl O') C := fun h => ⟨h.os, h.tape, h.output, h.size, fun k hk hn => h.same k hk (fun ho => hn (by rw [hPl]; exact .inl ho)), fun k => by
   rw [hPl]
   simp only [h.own k]
   constructor
   ·rintro ((h | h) | h)
    ·exact .inl (.inl h)
    ·exact .inr h
    ·exact .inl (.inr h)
   ·rintro ((h | h) | h)
    ·exact .inl (.inl h)
    ·exact .inr h
    ·exact .inl (.inr h)⟩
  have ab : ∀ (T : (Nat → Prop) → World → Prop) (o1 : Obj), AbO T → AbO (fun O W => T (Pl O) W ∧ W.heap[w.heap.size + 1]? = some o1 ∧ W.heap[w.heap.size]? = some (.deferred (some [])) ∧ ∀ k, O k → w.heap.size + 2 ≤ k) := by
   rintro T o1 hT O O' A C ⟨t, r, d, hO⟩ h
   have l1 : w.heap.size + 1 < A.heap.size := (Array.getElem?_eq_some_iff.1 r).1
   refine ⟨hT _ _ _ _ t (up h), (h.same _ l1 (fun ho => by have := hO _ ho; omega)).trans r, (h.same _ (by omega) (fun ho => by have := hO _ ho; omega)).trans d, fun k hk => ?_⟩
   rcases (h.own k).1 hk with h | h
   ·exact hO k h
   ·omega
  refine (hseq (w.heap.size + 1)
   (fun O pre W => I (Pl O) pre W ∧ W.heap[w.heap.size + 1]? = some (.loop (R .ready none)) ∧ W.heap[w.heap.size]? = some (.deferred (some [])) ∧ ∀ k, O k → w.heap.size + 2 ≤ k)
   (fun O pre W => ∃ c, Ix c (Pl O) pre W ∧ W.heap[w.heap.size + 1]? = some (.loop (R .done (some c))) ∧ W.heap[w.heap.size]? = some (.deferred (some [])) ∧ ∀ k, O k → w.heap.size + 2 ≤ k)
   VV (hb0.trans (bV.mono hb0.size))
   (fun s => ab (fun O => I O s) _ (hI s))
   (fun s O O' A C ⟨c, h⟩ hs => ⟨c, ab (fun O => Ix c O s) _ (hIx c s) O O' A C h hs⟩)
   ?round ⟨?first, rV, dV, fun k hk => hk.elim⟩).mono ?behind
  case first =>
   refine hI [] _ _ _ _ h0 ⟨bV.os, bV.tape, bV.output, bV.size, fun k hk _ => bV.block k hk, fun k => ?_⟩
   rw [hPl, sV]
   constructor
   ·rintro (h | h | h)
    ·exact h.elim
    ·exact .inr ⟨by omega, by omega⟩
    ·exact .inr ⟨by omega, by omega⟩
   ·rintro (h | ⟨h, h'⟩)
    ·exact h.elim
    ·exact .inr (by omega)
  case round =>
   rintro O pre x W ⟨hi, hr, hd, hO⟩ hVx hOk hsz hlen
   have lt : w.heap.size + 1 < W.heap.size := (Array.getElem?_eq_some_iff.1 hr).1
   have hy := run_yield (P := P) (args := encs x) hr (by rw [hR]; exact hps x)
   rw [hR] at hy
   have hx1 := hWx x W
   have hr1 : (Wx x W).heap[w.heap.size + 1]? = some (.loop (R .ready none)) := (Below.block hx1 _ lt).trans hr
   have lt1 : w.heap.size + 1 < (Wx x W).heap.size := (Array.getElem?_eq_some_iff.1 hr1).1
   have hd1 : (Wx x W).heap[w.heap.size]? = some (.deferred (some [])) := (Below.block hx1 _ (by omega)).trans hd
   refine ⟨fn, _, assign, body, hy, roundIn_of_wpIn hfn (hassign _ x W _ ⟨_, run_beginRound hr1 (by rw [hR]), ?_⟩)⟩
   obtain ⟨U, hU⟩ : ∃ U, (Wx x W).putObj (w.heap.size + 1) (.loop { R .ready none with state := .busy }) = U := ⟨_, rfl⟩
   rw [hU]
   have nX : ¬ X (w.heap.size + 1) := fun h => by have := hX _ h; have := hb0.size; omega
   have nO : ¬ O (w.heap.size + 1) := fun h => by have := hO _ h; omega
   have uU : RdO X O W U := RdO.trans ⟨hx1.os, hx1.tape, hx1.output, hx1.size, fun k _ hk => hx1.block k hk⟩ (hU ▸ rdo_put nO nX _)
   have iU : I (Pl O) pre U := hU ▸ hI pre _ _ _ _ (hIe _ _ _ _ hi hx1) (stp_put (pr O) _)
   have rU : U.heap[w.heap.size + 1]? = some (.loop { R .ready none with state := .busy }) := by rw [← hU]; exact World.putObj_heap_same lt1
   have dU : U.heap[w.heap.size]? = some (.deferred (some [])) := by rw [← hU]; exact (World.putObj_heap_other (by omega)).trans hd1
   have zU : W.heap.size ≤ U.heap.size := uU.size
   refine wpIn_mono (hbody _ (Pl O) pre x W U iU hVx (fun k hk => ?_) (by omega) (fun k hk => by rw [← hU]; exact World.putObj_heap_other (fun e => hk e)) (by rw [← hU]; simp) hlen) ?_
   ·rw [hPl] at hk
    rcases hk with h | h | h
    ·have := hOk k h; omega
    ·omega
    ·omega
   have sub : ∀ k, O k → Pl O k := fun k h => by rw [hPl]; exact .inl h
   have shut : ∀ (j : Option Go.Code) (W3 : World), RdO X (Pl O) U W3 →
     (Instr.endRound (w.heap.size + 1) j).run P W3 = .ok (.bool j.isNone) (W3.putObj (w.heap.size + 1) (.loop (R (if j.isNone then .ready else .done) j))) ∧
     (W3.putObj (w.heap.size + 1) (.loop (R (if j.isNone then .ready else .done) j))).heap[w.heap.size + 1]? = some (.loop (R (if j.isNone then .ready else .done) j)) ∧
     (W3.putObj (w.heap.size + 1) (.loop (R (if j.isNone then .ready else .done) j))).heap[w.heap.size]? = some (.deferred (some [])) ∧
     Stp (Pl O) W3 (Pl O) (W3.putObj (w.heap.size + 1) (.loop (R (if j.isNone then .ready else .done) j))) ∧ RdO X O W3 (W3.putObj (w.heap.size + 1) (.loop (R (if j.isNone then .ready else .done) j))) := fun j W3 h3 => by
    have r3 : W3.heap[w.heap.size + 1]? = some (.loop { R .ready none with state := .busy }) := (h3.same _ (Or.inl (pr O)) (by omega)).trans rU
    have d3 : W3.heap[w.heap.size]? = some (.deferred (some [])) := (h3.same _ (Or.inl (pd O)) (by omega)).trans dU
    have lt3 : w.heap.size + 1 < W3.heap.size := (Array.getElem?_eq_some_iff.1 r3).1
    have := run_endRound (P := P) j r3
    rw [hR] at this ⊢
    exact ⟨this, World.putObj_heap_same lt3, (World.putObj_heap_other (by omega)).trans d3, stp_put (pr O) _, rdo_put nO nX _⟩
   rintro e a3 W3 hp
   cases e with
   | normal =>
    obtain ⟨h3, i3⟩ := hp
    obtain ⟨s1, s2, s3, s4, s5⟩ := shut none W3 h3
    exact ⟨_, _, s1, .inl ⟨rfl, ⟨hI _ _ _ _ _ i3 s4, s2, s3, hO⟩, (uU.trans (h3.sub sub)).trans s5⟩⟩
   | ret =>
    obtain ⟨h3, i3⟩ := hp
    obtain ⟨s1, s2, s3, s4, s5⟩ := shut (some .ret) W3 h3
    exact ⟨_, _, s1, .inr ⟨rfl, .ret, hIx _ _ _ _ _ _ i3 s4, s2, s3, hO⟩⟩
   | exit i =>
    obtain ⟨h3, i3⟩ := hp
    obtain ⟨s1, s2, s3, s4, s5⟩ := shut (some (.exit i)) W3 h3
    exact ⟨_, _, s1, .inr ⟨rfl, .exit i, hIx _ _ _ _ _ _ i3 s4, s2, s3, hO⟩⟩
   | goto i => exact hp.elim
   | panic ch => exact hp.elim
   | outgrown => exact hp.elim
  case behind =>
   rintro e W2 ⟨⟨v, rfl⟩, (⟨xs, O, hS, hi, hr, hd, hO⟩ | ⟨pre, O, hSp, c, hi, hr, hd, hO⟩)⟩
   ·have lt : w.heap.size + 1 < W2.heap.size := (Array.getElem?_eq_some_iff.1 hr).1
    have := run_endLoop (P := P) hr (by rw [hR]; simp)
    rw [hR] at this
    exact ⟨none, _, this, hdone (Pl O) xs _ hS (hI _ _ _ _ _ hi (stp_put (pr O) _)) (pd O) (by simp; omega) ((World.putObj_heap_other (by omega)).trans hd)⟩
   ·have lt : w.heap.size + 1 < W2.heap.size := (Array.getElem?_eq_some_iff.1 hr).1
    have := run_endLoop (P := P) hr (by rw [hR]; simp)
    rw [hR] at this
    exact ⟨some c, _, this, hstop c (Pl O) pre _ hSp (hIx _ _ _ _ _ _ hi (stp_put (pr O) _)) (pd O) (by simp; omega) ((World.putObj_heap_other (by omega)).trans hd)⟩
end
section
open Go.RowKit Go.Shelf
attribute [local go_sem] Oper.semAt_some
def Oup (O : Nat → Prop) (A C : World) (k : Nat) : Prop := O k ∨ (A.heap.size ≤ k ∧ k < C.heap.size)
theorem stp_of {O : Nat → Prop} {A C : World} (h : World.grownBy A C none) : Stp O A (Oup O A C) C := ⟨h.os, h.tape, h.output, h.size, fun k hk _ => h.block k hk (by simp), fun k => Iff.rfl⟩
theorem stp_alloc (O : Nat → Prop) (A : World) (o : Obj) : Stp O A (Oup O A (A.alloc o)) (A.alloc o) := ⟨rfl, rfl, rfl, by simp, fun k hk _ => Below.heap_alloc _ _ _ hk, fun k => Iff.rfl⟩
theorem stp_append {O : Nat → Prop} {A C : World} {o : Obj} {v : Value} (hg : (A.alloc o).grownBy C v.ownBlock) (hv : ∀ g, v.ownBlock = some g → O g) : Stp O A (Oup O A C) C :=
 ⟨hg.os, hg.tape, hg.output, by have := hg.size; simp at this; omega, fun k hk hn => (hg.block k (by simp; omega) (fun e => hn (hv k e.symm))).trans (Below.heap_alloc _ _ _ hk), fun k => Iff.rfl⟩
theorem stp_set {O : Nat → Prop} {A : World} {g p : Nat} (v : Value) (hg : O g) : Stp O A O (A.setCell ⟨g, p, none⟩ v) :=
 ⟨rfl, rfl, rfl, by simp [World.setCell], fun k _ hn => Below.heap_setCell _ _ _ _ (by rintro rfl; exact hn hg), fun k => ⟨.inl, fun h => h.elim id (fun ⟨h1, h2⟩ => by simp [World.setCell] at h2; omega)⟩⟩
theorem owns_rdo {X O : Nat → Prop} {W W' : World} (h : RdO X O W W') {B e n : Nat} {v : Value} {xs : List Value} (ho : W.ownsRow B e 1 v n xs) (hv : ∀ g, v.ownBlock = some g → O g) : W'.ownsRow B e 1 v n xs := by
 refine ⟨ho.1, ?_⟩
 rcases ho.2 with h0 | ⟨g, cap, cur, rfl, hb, hg, rest⟩
 ·exact .inl h0
 ·exact .inr ⟨g, cap, cur, rfl, hb, (h.same g (.inl (hv g rfl)) (Array.getElem?_eq_some_iff.1 hg).1).trans hg, rest⟩
theorem owns_blk {w : World} {B e n : Nat} {v : Value} {xs : List Value} (ho : w.ownsRow B e 1 v n xs) {g : Nat} (h : v.ownBlock = some g) : g < w.heap.size := (ho.lt g h).2
set_option maxHeartbeats 6400000 in
set_option maxRecDepth 100000 in
theorem below1_inO (n : Nat) (hn1 : 1 ≤ n) (m top CT CL b off cap : Nat) (kid : Nat → Int) (w0 : World) (htop : top ≤ m) (hm : m ≤ 1048576) (hm0 : 0 < m) (hCT : w0.cell? ⟨CT, 0, none⟩ = some (.int .i64 (top : Int))) (hCL : w0.cell? ⟨CL, 0, none⟩ = some (.slice (some ⟨b, off, none⟩) m cap)) (hK : KidAt w0 b off m kid) (hk : ∀ i, i < m → kid i ≤ 9223372036854775807) :
  TellsO (α := Pl m) n Tryz.prog 125 #[.pointer (some ⟨CT, 0, none⟩), .pointer (some ⟨CL, 0, none⟩)] encP (fun xs => xs.map (·.1) = trP kid (m - top) top []) (fun pre => pre.map (·.1) <+: trP kid (m - top) top []) m (XB CT CL b) w0 := by
 intro l J Jx W hW hJ hJx hY h0
 have lt1 : CT < w0.heap.size := World.block_lt_of_cell? _ _ hCT
 have lt2 : CL < w0.heap.size := World.block_lt_of_cell? _ _ hCL
 have lt3 : b < w0.heap.size := World.block_lt_of_cell? _ _ (hK 0 hm0)
 have a1 : ∀ o, (W.alloc o).cell? ⟨CT, 0, none⟩ = some (.int .i64 (top : Int)) := fun o => (Below.cell (hW.trans ((Below.refl _ _).alloc hW.size o)) (p := ⟨CT, 0, none⟩) lt1).trans hCT
 obtain ⟨i0, hi, hz0, hz1, hz2⟩ := info_parts Tryz.info3
 refine callsIn_of_wp Tryz.func125 rfl trivial ?_ rfl
 simp only [Tryz.ntmps125, List.size_toArray, List.length_cons, List.length_nil, Nat.reduceAdd, Nat.reduceSub, Array.replicate_succ, Array.replicate_zero, List.push_toArray, List.append_toArray, List.nil_append, List.cons_append]
 gi_wp2
 have hO0 : Hid ((W.alloc (.cells #[] 3)).ownsRow W.heap.size 3 1 (.slice (some ⟨W.heap.size, 0, none⟩) 0 0) 0 []) := World.ownsRow_made (base := W.heap.size) (e := 3) (size := 1) W #[] 0 (Nat.le_refl _) (by simp) rfl
 have HK2 : Hid (∀ wr : World, (∀ k, XB CT CL b k → wr.heap[k]? = W.heap[k]?) → wr.cell? ⟨CL, 0, none⟩ = some (.slice (some ⟨b, off, none⟩) m cap) ∧ KidAt wr b off m kid) := by
  intro wr hr
  refine ⟨?_, fun i hi => ?_⟩
  ·rw [World.cell?_of_block (a := ⟨CL, 0, none⟩) (hr CL (.inr (.inl rfl)))]
   exact (hW.cell (p := ⟨CL, 0, none⟩) lt2).trans hCL
  ·rw [World.cell?_of_block (a := ⟨b, off + i * 3 + 2, none⟩) (hr b (.inr (.inr rfl)))]
   exact (hW.cell (p := ⟨b, off + i * 3 + 2, none⟩) lt3).trans (hK i hi)
 have HXl : Hid (∀ k, XB CT CL b k → k < W.heap.size) := fun k hk => by have := hW.size; rcases hk with h | h | h <;> omega
 gi_loopw [4, 5] (fun v p wr => ∃ (i : Nat) (L : List Int) (pre : List (Pl m)) (O : Nat → Prop), p = .int .i64 (i : Int) ∧ top ≤ i ∧ i ≤ m ∧ L.length ≤ i ∧ (∀ c, c ∈ L → c ≤ 9223372036854775807) ∧ pre.length ≤ i ∧ wr.ownsRow W.heap.size 3 1 v L.length (iys L) ∧ pre.map (·.1) ++ trP kid (m - i) i (sOf L) = trP kid (m - top) top [] ∧ J O pre wr ∧ W.heap.size ≤ wr.heap.size ∧ (∀ k, XB CT CL b k → wr.heap[k]? = W.heap[k]?) ∧ (∀ k, O k → W.heap.size ≤ k ∧ k < wr.heap.size) ∧ (∀ g, v.ownBlock = some g → O g)) (fun _ p _ => m - (intOf p).toNat)
 case atStart =>
  refine ⟨top, [], [], Oup (fun _ => False) W (W.alloc (.cells #[] 3)), rfl, Nat.le_refl _, htop, Nat.zero_le _, fun c hc => by simp at hc, Nat.zero_le _, hO0.out, rfl, hJ [] _ _ _ _ h0 (stp_alloc _ _ _), by simp, fun k hk => Below.heap_alloc _ _ _ (HXl.out k hk), fun k hk => ?_, fun g hg => ?_⟩
  ·rcases hk with h | h
   ·exact h.elim
   ·simp at h ⊢; omega
  ·simp only [Value.ownBlock, Option.some.injEq] at hg
   subst hg
   exact .inr ⟨Nat.le_refl _, by simp⟩
 case round =>
  clear hO0 a1
  obtain ⟨i, L, pre, O, rfl, hti, him, hLi, hLc, hpi, hO, hT, hJp, hsz, hrd, hOk, hOv⟩ := hrel
  have HLc := hide hLc
  clear hLc
  obtain ⟨va, vc, rfl⟩ := owns_slice hO
  obtain ⟨cl, kd⟩ := HK2.out wr hrd
  have HOk := hide hOk
  have HOv := hide hOv
  clear hOk hOv
  have HO := hide hO
  have HT := hide hT
  have Hrd := hide hrd
  have Hpi := hide hpi
  have HLi := hide hLi
  clear hO hT hrd kd hpi hLi
  by_cases hlt : i < m
  ·have hlt' : (i : Int) < (m : Int) := by omega
   obtain ⟨fn, tmps, assign, body, hy, hR⟩ := hY O pre ⟨(i, L.length), hlt⟩ wr hJp HOk.out hsz (by have := Hpi.out; omega)
   simp only [encP] at hy
   have HR := hide hR
   clear hR
   have HF : Hid (trP kid (m - i) i (sOf L) = (i, L.length) :: match popF ((kid i).toNat :: sOf L) with | none => [] | some st' => trP kid (m - (i + 1)) (i + 1) st') := by
    show _ = _
    rw [show m - i = (m - (i + 1)) + 1 by omega, trP, sOf_len]
    all_goals (cases popF ((kid i).toNat :: sOf L) <;> rfl)
   gi_wp2
   refine HR.out.mono ?_
   rintro e W3 (⟨rfl, hJ3, hk3⟩ | ⟨rfl, hJx3⟩)
   ·have HO3 := hide (owns_rdo hk3 HO.out HOv.out)
    have Hrd3 : Hid (∀ k, XB CT CL b k → W3.heap[k]? = W.heap[k]?) := fun k hk => (hk3.same k (.inr hk) (by have := HXl.out k hk; omega)).trans (Hrd.out k hk)
    have HOk3 : Hid (∀ k, O k → W.heap.size ≤ k ∧ k < W3.heap.size) := fun k hk => by have := HOk.out k hk; have := hk3.size; omega
    obtain ⟨cl3, kd3⟩ := HK2.out W3 Hrd3.out
    have kc3 := kd3 i hlt
    have HJ3 := hide hJ3
    have hsz3 : W.heap.size ≤ W3.heap.size := Nat.le_trans hsz hk3.size
    have Hki := hide (hk i hlt)
    clear hJ3 hk3 kd3 HO Hrd cl hy HR
    have hLL : L.length ≤ 1048576 := by have := HLi.out; omega
    have HP : Hid (popF ((kid i).toNat :: sOf L) = popF (sOf (L ++ [kid i]))) := by show _ = _; rw [sOf_push]
    generalize hkk : kid i = kk at *
    clear hkk
    gi_wp2_with (gi_at_builtin; refine wpListIn_append_own_at _ rfl _ _ 24 rfl W.heap.size 3 i0 (.int .i64 0) 1 8 Tryz.underlying24 hi hz0 hz1 hz2 rfl (by decide) _ _ _ rfl (HO3.out.alloc _) ⟨W3.heap.size, 0, none⟩ 1 1 [.int .i64 kk] rfl rfl (cell_one_new _ _ _) (iys_one _) (by unfold maxLen; omega) (by omega) (by simp; omega) ?_; intro v' w4 hown' hgrow hnil hat)
    have HB4 := hide (below_append hsz3 HO3.out hgrow)
    have HS4 := hide (stp_append (O := O) hgrow HOv.out)
    have HO4 : Hid (w4.ownsRow W.heap.size 3 1 v' (L ++ [kk]).length (iys (L ++ [kk]))) := by
     show World.ownsRow _ _ _ _ _ _ _
     simpa [iys] using hown'
    have hsz4 : W.heap.size ≤ w4.heap.size := Nat.le_trans hsz3 HB4.out.size
    have HJ4 := hide (hJ _ _ _ W3 w4 HJ3.out HS4.out)
    have Hrd4 : Hid (∀ k, XB CT CL b k → w4.heap[k]? = W.heap[k]?) := fun k hk => (HB4.out.block k (HXl.out k hk)).trans (Hrd3.out k hk)
    have HOk4 : Hid (∀ k, Oup O W3 w4 k → W.heap.size ≤ k ∧ k < w4.heap.size) := fun k hk => by
     have hs := HB4.out.size
     rcases hk with h | h
     ·have := HOk3.out k h; omega
     ·omega
    have HOv4 : Hid (∀ g, v'.ownBlock = some g → Oup O W3 w4 g) := fun g hg => by
     rcases (show v'.ownBlock = (Value.slice va L.length vc).ownBlock ∨ v'.ownBlock = some ((W3.alloc (.cells #[.int .i64 kk] 3)).heap.size) from hat) with h | h
     ·exact .inl (HOv.out g (by rw [← h]; exact hg))
     ·rw [h] at hg
      simp only [Option.some.injEq] at hg
      subst hg
      refine .inr ⟨by simp, ?_⟩
      exact owns_blk HO4.out h
    clear hown' hgrow hnil hat HO3 Hrd3 HJ3 cl3 kc3 HOk3 HS4
    gi_loopw [4] (fun v wq => wq = w4 ∧ ∃ M : List Int, M.length ≤ L.length + 1 ∧ popF (sOf M) = popF ((kk).toNat :: sOf L) ∧ w4.ownsRow W.heap.size 3 1 v M.length (iys M) ∧ (∀ c, c ∈ M → c ∈ L ∨ c = kk) ∧ (∀ g, v.ownBlock = some g → Oup O W3 w4 g)) (fun v _ => match v with | .slice _ k _ => k | _ => 0)
    case atStart => exact ⟨rfl, L ++ [kk], by simp, HP.out.symm, HO4.out, fun c hc => by simpa using hc, HOv4.out⟩
    case round =>
     clear HO4 HP
     obtain ⟨rfl, M, hM1, hM2, hMO, hM3, hMv⟩ := hrel
     have HMv := hide hMv
     clear hMv
     have HM2 := hide hM2
     have HM3 := hide hM3
     clear hM2 hM3
     rcases list_last M with rfl | ⟨M', c, rfl⟩
     ·obtain ⟨ma, mc, rfl⟩ := owns_slice hMO
      clear hMO
      gi_wp2
      refine bodyPost_ret (results_none rfl _ _ _) rfl ?_
      refine ⟨⟨_, rfl⟩, .inl ⟨pre ++ [⟨(i, L.length), hlt⟩], ?_, Oup O W3 wr, HJ4.out⟩⟩
      rw [← HT.out, HF.out, ← HM2.out, List.map_append]
      rfl
     ·obtain ⟨g, gc, rfl, hgB, hgc, hgc2, cc, cf⟩ := owns_last hMO
      have HMO := hide hMO
      have hlen : (M' ++ [c]).length = M'.length + 1 := by simp
      rw [hlen] at hgc hM1
      have hp1 : (0 : Int) < (M'.length : Int) + 1 := by omega
      have hq1 : (0 : Int) ≤ (M'.length : Int) + 1 - 1 := by omega
      have HgB := hide hgB
      clear hMO hgB
      by_cases hc : c ≤ 0
      ·rw [hlen]
       have HMO2 := hide (owns_cut HMO.out)
       have HM5 : Hid (popF (sOf M') = popF (kk.toNat :: sOf L)) := by show _ = _; rw [← HM2.out, popF_low hc]
       gi_wp2
       go_roundw
       case rel => exact ⟨by trivial, M', by omega, HM5.out, HMO2.out, fun c' h => HM3.out c' (by simp [h]), fun g' hg' => HMv.out g' (by simpa [Value.ownBlock] using hg')⟩
       case measure => simp
      ·have hc1 : 0 < c := by omega
       have hcb : c ≤ 9223372036854775807 := by
        rcases HM3.out c (by simp) with h | h
        ·exact HLc.out c h
        ·rw [h]; exact Hki.out
       have hz : ((M'.length : Int) + 1 == 0) = false := by simp; omega
       have HO6 := hide (owns_setLast HMO.out (c - 1))
       have HB6 : Hid (Below W.heap.size wr (wr.setCell ⟨g, M'.length, none⟩ (.int .i64 (c - 1)))) := below_touch (Below.refl _ _) ((Touch.refl g wr).set M'.length _) HgB.out
       rw [hlen]
       gi_wp2
       go_roundw
       case rel =>
        refine ⟨i + 1, M' ++ [c - 1], pre ++ [⟨(i, L.length), hlt⟩], Oup O W3 wr, by go_num, by omega, by omega, by have := HLi.out; simp; omega, fun c' h => ?_, by have := Hpi.out; simp; omega, ?_, ?_, hJ _ _ _ wr _ HJ4.out (stp_set _ (HMv.out g rfl)), Nat.le_trans hsz4 HB6.out.size, fun k hk => (HB6.out.block k (HXl.out k hk)).trans (Hrd4.out k hk), fun k hk => by have := HOk4.out k hk; have := HB6.out.size; omega, fun g' hg' => HMv.out g' (by simpa [Value.ownBlock] using hg')⟩
        ·rcases List.mem_append.1 h with h | h
         ·rcases HM3.out c' (by simp [h]) with h' | h'
          ·exact HLc.out c' h'
          ·rw [h']; exact Hki.out
         ·simp at h; omega
        ·have := HO6.out
         rw [show (M' ++ [c - 1]).length = M'.length + 1 by simp] at this ⊢
         exact this
        ·rw [← HT.out, HF.out, ← HM2.out, popF_high hc1, List.map_append, List.append_assoc]
         rfl
       case measure => simp [intOf]; omega
   ·gi_wp2
    go_end0
    refine ⟨⟨_, rfl⟩, .inr ⟨pre ++ [⟨(i, L.length), hlt⟩], _, ?_, hJx3⟩⟩
    rw [← HT.out, HF.out, List.map_append]
    exact ⟨_, by rw [List.append_assoc]; rfl⟩
  ·obtain rfl : i = m := by omega
   gi_wp2
   refine ⟨fun _ h => (by cases h), ?_⟩
   gi_wp2
   go_end0
   refine ⟨⟨_, rfl⟩, .inl ⟨pre, _, ?_, hJp⟩⟩
   have h := HT.out
   rw [Nat.sub_self, trP, List.append_nil] at h
   exact h
end
end Go.Proofs.YtkogbinfhoiggaaGreatDoor
